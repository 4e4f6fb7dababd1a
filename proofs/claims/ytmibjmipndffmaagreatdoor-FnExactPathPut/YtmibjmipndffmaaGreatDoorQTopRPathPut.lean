/-
  For every two trees, of whatever size, and all steps, however many, that the law's arguments can be read as, FnExactPathPut returns true, and the arguments read behind the call as they read before: PathPut of the program answers as the model's, writes into no argument, and its answer owns its memory. No condition beside the row's own; the one variable that the row lists is tied to the program's text.
-/
import Derived.Test.YtmibjmipndffmaaGreatDoorQ11
import Derived.Test.YtmibjmipndffmaaGreatDoorQ12
import Derived.Test.YtmibjmipndffmaaGreatDoorTie
import Derived.Test.YtmibjmipndffmaaGreatDoorCards
import Derived.Test.YtmibjmipndffmaaGreatDoorQ29
import Derived.Test.YtmibjmipndffmaaGreatDoorQ19
import Derived.ProofKit
import Derived.ChangeOld
import Derived.SevenTiedAt
namespace Go.Proofs.YtmibjmipndffmaaGreatDoor
open Go.ChangeShapes Go.WideShapes Go.ChangeAt Go.RowKit
open Go.ChangeMaps (open_string shut_string)

set_option maxRecDepth 100000 in
theorem pathPut_lifted (os : Os) (started : os.Started) (H : Type) (enc : TypeId × Value → H) :
    ReturnsInHanded {} Tryz.checked os 8 .any (fun w args => (Rows.fnExactPathPutSpec.pre enc Tryz.prog Tryz.f8 Rows.fnExactPathPutRow.domain false w args ∧ laidMetH Tryz.prog laidV w) ∧ sizedMet enc Tryz.prog Tryz.f8 (OpenSpec.ofChange Rows.fnExactPathPutSpec) false w args)
      (Rows.fnExactPathPutSpec.post enc Tryz.prog Tryz.f8 false true false false) := by
  refine returnsInHanded_of_change_and (C := Tryz.checked) (X := fun w _ => laidMetH Tryz.prog laidV w) (fun _ _ _ hh h => h.of_heap hh) Tryz.own started (by kernel_rfl) Tryz.func8
    (ChangeSpec.witness_at (enc := enc) (C := Tryz.checked) (os := os) (X := fun w _ => laidMetH Tryz.prog laidV w) false ({ World.holding Tryz.prog os ⟨#[], #[], []⟩ with heap := (World.holding Tryz.prog os ⟨#[], #[], []⟩).heap.modify 0 fun | .cells _ t frozen => .cells #[.iface 197 (.agg #[.pointer (some ⟨1, 72, none⟩)])] t frozen | o => o } : World) #[.agg #[.int .i64 0, .int .i64 0, .string ByteArray.empty, .slice none 0 0, .slice none 0 0], .slice none 0 0, .agg #[.int .i64 0, .int .i64 0, .string ByteArray.empty, .slice none 0 0, .slice none 0 0]] 8 rfl (by kernel_rfl) (by kernel_rfl) (by kernel_rfl) (by kernel_rfl) (by kernel_rfl)
      (laidMetH_of_parts (laidMet_nil _ _) (by kernel_rfl))) ?_
  intro W base args ds gs before hval0 hW hcnd hsz0 hL _
  have hval : ∀ (j : Nat) t v, Tryz.f8.params[j]? = some t → args[j]? = some v → Value.okWide Tryz.prog W .any base t v := hval0
  have hW' := hW
  obtain ⟨p, q, hA0, hV, rfl, hfz, hnd⟩ := hW
  have hA : DataW.TrodAll enc Tryz.prog W 0 (fun _ => true) true Tryz.f8.params.toList args.toList ds p := hA0
  have hsz : (DataW.weightsEach Tryz.prog (Tryz.f8.params.toList ++ Rows.fnExactPathPutSpec.plain.varTypes Tryz.prog) (ds ++ gs)).all (· ≤ reachBytes) = true := hsz0
  rw [Tryz.params8] at hA hval hsz
  obtain ⟨v0, vs0, d0, ds0, p0, q0, hargs, rfl, rfl, h0, r0⟩ := trodAll_cons hA
  obtain ⟨v1, vs1, d1, ds1, p1, q1, rfl, rfl, rfl, h1, r1⟩ := trodAll_cons r0
  obtain ⟨v2, vs2, d2, ds2, p2, q2, rfl, rfl, rfl, h2, r2⟩ := trodAll_cons r1
  obtain ⟨rfl, rfl, rfl⟩ := trodAll_nil r2
  obtain rfl : args = #[v0, v1, v2] := by cases args; simp_all
  obtain ⟨rfl, rfl⟩ := trodVars_none hV
  have hE := errType_of_laid hL
  have k0 := h0
  have lt0 : ∀ x ∈ p0, x.block < W.heap.size := by obtain ⟨m, hm⟩ := k0; exact DataW.trod_lt m _ _ _ hm
  have hz0 : Fits 51 d0 := by
    intro n hn
    have := List.all_eq_true.1 hsz n (DataW.weights_mem_each (j := 0) (t := 51) rfl rfl n hn)
    simpa using this
  obtain ⟨cs0, hcs0, _⟩ := okWide_struct Tryz.underlying51 (hval 0 51 v0 rfl rfl)
  obtain ⟨N0, t0, ht0⟩ := read_arg ⟨cs0, hcs0⟩ h0 hz0
  have k1 := h1
  have lt1 : ∀ x ∈ p1, x.block < W.heap.size := by obtain ⟨m, hm⟩ := k1; exact DataW.trod_lt m _ _ _ hm
  have hz1 : Fits 52 d1 := by
    intro n hn
    have := List.all_eq_true.1 hsz n (DataW.weights_mem_each (j := 1) (t := 52) rfl rfl n hn)
    simpa using this
  obtain ⟨ps1, hp1⟩ := read_steps_arg (okWide_slice Tryz.underlying52 (hval 1 52 v1 rfl rfl)) h1 hz1
  have k2 := h2
  have lt2 : ∀ x ∈ p2, x.block < W.heap.size := by obtain ⟨m, hm⟩ := k2; exact DataW.trod_lt m _ _ _ hm
  have hz2 : Fits 51 d2 := by
    intro n hn
    have := List.all_eq_true.1 hsz n (DataW.weights_mem_each (j := 2) (t := 51) rfl rfl n hn)
    simpa using this
  obtain ⟨cs2, hcs2, _⟩ := okWide_struct Tryz.underlying51 (hval 2 51 v2 rfl rfl)
  obtain ⟨N2, t2, ht2⟩ := read_arg ⟨cs2, hcs2⟩ h2 hz2
  clear hA0 hval0 hsz0 hsz
  obtain ⟨t0', ht0'⟩ := deepTo ht0 (N0 + N2 + 2) (by omega)
  obtain ⟨t2', ht2'⟩ := deepTo ht2 (N0 + N2 + 2) (by omega)
  refine (lawPathPut (N0 + N2 + 1) (N0 + N2 + 1) (N0 + N2 + ps1.length + 1) _ t0' v0 _ ps1 v1 _ t2' v2 (pathPutT (N0 + N2) t0' ps1 t2') W ht0' (fun b hb => hb) ht2' (fun b hb => hb) hp1 (fun b hb => hb) hE (okT_pathPut _ _ _ _) (fun S v S2 v2 S' v' w hv hS hx hS2 hv' hS' hc hsm hsx => (specPathPut_own _ S t0' v S' ps1 v' S2 t2' v2 w hv hS hv' hS' hc hx hS2 hsm hsx).mono (fun _ _ ⟨u, h1, h2, h3⟩ => ⟨u, h1, ValOwn.at _ _ _ _ h2, h3⟩)) (fun S v S2 v2 S' v' w hv hS hx hS2 hv' hS' hg => implPathPut_any _ S t0' v S' ps1 v' S2 t2' v2 w hv hS hv' hS' hx hS2 hg)).mono fun e W' ⟨he, bel⟩ => ?_
  subst he
  exact ⟨_, rfl, _, _, _, [], _, [], hW', trodAll_mk1 (shut_bool Tryz.underlying4 _), (trodAll_cons_mk (Below.trod Tryz.laidOut (by kernel_rfl) (of_decide_eq_true (by kernel_rfl)) k0 bel lt0) (trodAll_cons_mk (Below.trod Tryz.laidOut (by kernel_rfl) (of_decide_eq_true (by kernel_rfl)) k1 bel lt1) (trodAll_cons_mk (Below.trod Tryz.laidOut (by kernel_rfl) (of_decide_eq_true (by kernel_rfl)) k2 bel lt2) trodAll_mk0))), rfl, bel.frame _, fun h => by cases h⟩

theorem pathPut_row : Rows.FnExactPathPutSaid :=
  OpenClaim.holds_of_wide 8 Tryz.f8 rfl rfl rfl rfl rfl rfl rfl ⟨rfl, rfl, rfl, rfl, rfl⟩ rfl rfl rfl rfl rfl (by kernel_rfl) Tryz.func8 (by kernel_rfl)
    (of_decide_eq_true (by kernel_rfl)) (by unfold Func.isWrapper; first | (rw [if_pos (by decide +kernel)]; kernel_rfl) | (rw [if_neg (by decide +kernel)]; exact ⟨rfl, rfl⟩))
    (fun os started H enc _ => pathPut_lifted os started H enc)

theorem pathPut_holds : Rows.FnExactPathPutCardSaid :=
  Claim7.holds_tied_plain_at .later [] [.handle] true Rows.fnExactPathPutCard.stood.harness true
    pathPut_row (fun _ h => by cases h) (by kernel_rfl) (fun _ h => by cases h) fnExactPathPut_row_tie rfl ⟨rfl, rfl⟩ (by kernel_rfl) rfl
    (fun f fn hf hfn => by
      obtain rfl : f = 8 := Option.some.inj ((show Tryz.prog.funcNamed Tryz.f8.name = some 8 by kernel_rfl).symm.trans hf) |>.symm
      obtain rfl : fn = Tryz.f8 := (Option.some.inj (Tryz.func8.symm.trans hfn)).symm
      exact ⟨by kernel_rfl, fun j t ht => by
        rw [Tryz.params8] at ht
        have h3 : t = 51 ∨ t = 52 := by
          rcases j with _ | _ | _ | j
          · exact Or.inl (by simpa using ht.symm)
          · exact Or.inr (by simpa using ht.symm)
          · exact Or.inl (by simpa using ht.symm)
          · simp at ht
        rcases h3 with rfl | rfl
        · exact (show Tryz.prog.wantsStandIn 51 = false by kernel_rfl)
        · exact (show Tryz.prog.wantsStandIn 52 = false by kernel_rfl)⟩)
    (by kernel_rfl)
#print axioms pathPut_holds
end Go.Proofs.YtmibjmipndffmaaGreatDoor
