/-
  For every two trees, of whatever size, that the law's arguments can be read as, FnExactPartAdd returns true, and the arguments read behind the call as they read before: PartAdd of the program answers as the model's, writes into no argument, and its answer owns its memory. No condition beside the row's own; the one variable that the row lists is tied to the program's text.
-/
import Derived.Test.YtoangpfmjohhmaaGreatDoorP10
import Derived.Test.YtoangpfmjohhmaaGreatDoorP11
import Derived.Test.YtoangpfmjohhmaaGreatDoorTie
import Derived.Test.YtoangpfmjohhmaaGreatDoorCards
import Derived.Test.YtoangpfmjohhmaaGreatDoorP22
import Derived.Test.YtoangpfmjohhmaaGreatDoorP25
import Derived.Test.YtoangpfmjohhmaaGreatDoorP26
import Derived.ProofKit
import Derived.ChangeOld
import Derived.SevenTiedAt
namespace Go.Proofs.YtoangpfmjohhmaaGreatDoor
open Go.ChangeShapes Go.WideShapes Go.ChangeAt Go.RowKit
open Go.ChangeMaps (open_string shut_string)

set_option maxRecDepth 100000 in
theorem partAdd_lifted (os : Os) (started : os.Started) (H : Type) (enc : TypeId × Value → H) :
    ReturnsInHanded {} Tryz.checked os 5 .any (fun w args => (Rows.fnExactPartAddSpec.pre enc Tryz.prog Tryz.f5 Rows.fnExactPartAddRow.domain false w args ∧ laidMetH Tryz.prog laidV w) ∧ sizedMet enc Tryz.prog Tryz.f5 (OpenSpec.ofChange Rows.fnExactPartAddSpec) false w args)
      (Rows.fnExactPartAddSpec.post enc Tryz.prog Tryz.f5 false true false false) := by
  refine returnsInHanded_of_change_and (C := Tryz.checked) (X := fun w _ => laidMetH Tryz.prog laidV w) (fun _ _ _ hh h => h.of_heap hh) Tryz.own started (by kernel_rfl) Tryz.func5
    (ChangeSpec.witness_at (enc := enc) (C := Tryz.checked) (os := os) (X := fun w _ => laidMetH Tryz.prog laidV w) false ({ World.holding Tryz.prog os ⟨#[], #[], []⟩ with heap := (World.holding Tryz.prog os ⟨#[], #[], []⟩).heap.modify 0 fun | .cells _ t frozen => .cells #[.iface 185 (.agg #[.pointer (some ⟨1, 60, none⟩)])] t frozen | o => o } : World) #[.agg #[.int .i64 0, .int .i64 0, .string ByteArray.empty, .slice none 0 0, .slice none 0 0], .agg #[.int .i64 0, .int .i64 0, .string ByteArray.empty, .slice none 0 0, .slice none 0 0]] 8 rfl (by kernel_rfl) (by kernel_rfl) (by kernel_rfl) (by kernel_rfl) (by kernel_rfl)
      (laidMetH_of_parts (laidMet_nil _ _) (by kernel_rfl))) ?_
  intro W base args ds gs before hval0 hW hcnd hsz0 hL _
  have hval : ∀ (j : Nat) t v, Tryz.f5.params[j]? = some t → args[j]? = some v → Value.okWide Tryz.prog W .any base t v := hval0
  have hW' := hW
  obtain ⟨p, q, hA0, hV, rfl, hfz, hnd⟩ := hW
  have hA : DataW.TrodAll enc Tryz.prog W 0 (fun _ => true) true Tryz.f5.params.toList args.toList ds p := hA0
  have hsz : (DataW.weightsEach Tryz.prog (Tryz.f5.params.toList ++ Rows.fnExactPartAddSpec.plain.varTypes Tryz.prog) (ds ++ gs)).all (· ≤ reachBytes) = true := hsz0
  rw [Tryz.params5] at hA hval hsz
  obtain ⟨v0, vs0, d0, ds0, p0, q0, hargs, rfl, rfl, h0, r0⟩ := trodAll_cons hA
  obtain ⟨v1, vs1, d1, ds1, p1, q1, rfl, rfl, rfl, h1, r1⟩ := trodAll_cons r0
  obtain ⟨rfl, rfl, rfl⟩ := trodAll_nil r1
  obtain rfl : args = #[v0, v1] := by cases args; simp_all
  obtain ⟨rfl, rfl⟩ := trodVars_none hV
  have hE := errType_of_laid hL
  have k0 := h0
  have lt0 : ∀ x ∈ p0, x.block < W.heap.size := by obtain ⟨m, hm⟩ := k0; exact DataW.trod_lt m _ _ _ hm
  have hz0 : Fits 40 d0 := by
    intro n hn
    have := List.all_eq_true.1 hsz n (DataW.weights_mem_each (j := 0) (t := 40) rfl rfl n hn)
    simpa using this
  obtain ⟨cs0, hcs0, _⟩ := okWide_struct Tryz.underlying40 (hval 0 40 v0 rfl rfl)
  obtain ⟨N0, t0, ht0⟩ := read_arg ⟨cs0, hcs0⟩ h0 hz0
  have k1 := h1
  have lt1 : ∀ x ∈ p1, x.block < W.heap.size := by obtain ⟨m, hm⟩ := k1; exact DataW.trod_lt m _ _ _ hm
  have hz1 : Fits 40 d1 := by
    intro n hn
    have := List.all_eq_true.1 hsz n (DataW.weights_mem_each (j := 1) (t := 40) rfl rfl n hn)
    simpa using this
  obtain ⟨cs1, hcs1, _⟩ := okWide_struct Tryz.underlying40 (hval 1 40 v1 rfl rfl)
  obtain ⟨N1, t1, ht1⟩ := read_arg ⟨cs1, hcs1⟩ h1 hz1
  clear hA0 hval0 hsz0 hsz
  obtain ⟨t0', ht0'⟩ := deepTo ht0 (N0 + N1 + 2) (by omega)
  obtain ⟨t1', ht1'⟩ := deepTo ht1 (N0 + N1 + 2) (by omega)
  refine (lawPartAdd (N0 + N1 + 1) (N0 + N1 + 1) (N0 + N1 + 1) _ t0' v0 _ t1' v1 (partAddT (N0 + N1 + 1) t0' t1') W ht0' (fun b hb => hb) ht1' (fun b hb => hb) hE (okT_partAdd _ _ _) (fun S v S2 v2 w hv hS hx hS2 hsm hsx => specPartAdd_any _ S t0' v S2 t1' v2 w hv hS hx hS2 hsm hsx) (fun S v S2 v2 w hv hS hx hS2 hg => implPartAdd_any _ S t0' v S2 t1' v2 w hv hS hx hS2 hg)).mono fun e W' ⟨he, bel⟩ => ?_
  subst he
  exact ⟨_, rfl, _, _, _, [], _, [], hW', trodAll_mk1 (shut_bool Tryz.underlying4 _), (trodAll_cons_mk (Below.trod Tryz.laidOut (by kernel_rfl) (of_decide_eq_true (by kernel_rfl)) k0 bel lt0) (trodAll_cons_mk (Below.trod Tryz.laidOut (by kernel_rfl) (of_decide_eq_true (by kernel_rfl)) k1 bel lt1) trodAll_mk0)), rfl, bel.frame _, fun h => by cases h⟩

theorem partAdd_row : Rows.FnExactPartAddSaid :=
  OpenClaim.holds_of_wide 5 Tryz.f5 rfl rfl rfl rfl rfl rfl rfl ⟨rfl, rfl, rfl, rfl, rfl⟩ rfl rfl rfl rfl rfl (by kernel_rfl) Tryz.func5 (by kernel_rfl)
    (of_decide_eq_true (by kernel_rfl)) (by unfold Func.isWrapper; first | (rw [if_pos (by decide +kernel)]; kernel_rfl) | (rw [if_neg (by decide +kernel)]; exact ⟨rfl, rfl⟩))
    (fun os started H enc _ => partAdd_lifted os started H enc)

theorem partAdd_holds : Rows.FnExactPartAddCardSaid :=
  Claim7.holds_tied_plain_at .later [] [.handle] true Rows.fnExactPartAddCard.stood.harness true
    partAdd_row (fun _ h => by cases h) (by kernel_rfl) (fun _ h => by cases h) fnExactPartAdd_row_tie rfl ⟨rfl, rfl⟩ (by kernel_rfl) rfl
    (fun f fn hf hfn => by
      obtain rfl : f = 5 := Option.some.inj ((show Tryz.prog.funcNamed Tryz.f5.name = some 5 by kernel_rfl).symm.trans hf) |>.symm
      obtain rfl : fn = Tryz.f5 := (Option.some.inj (Tryz.func5.symm.trans hfn)).symm
      exact ⟨by kernel_rfl, fun j t ht => by
        rw [Tryz.params5] at ht
        have h3 : t = 40 := by
          rcases j with _ | _ | j
          · simpa using ht.symm
          · simpa using ht.symm
          · simp at ht
        subst h3
        exact (show Tryz.prog.wantsStandIn 40 = false by kernel_rfl)⟩)
    (by kernel_rfl)
#print axioms partAdd_holds
end Go.Proofs.YtoangpfmjohhmaaGreatDoor
