/-
  For all trees, of whatever size, that the law's two arguments can be read as, FnExactValSame returns true, and the arguments read behind the call as they read before: ValSame of the program answers as the model's. No condition beside the row's own.
-/
import Derived.Test.YtdmlpbkiomgloaaLValSame
import Derived.Test.YtdmlpbkiomgloaaRead
import Derived.ProofKit
import Derived.ChangeOld
namespace Go.Proofs.Ytdmlpbkiomgloaa
open Go.ChangeShapes Go.WideShapes Go.ChangeAt Go.RowKit

theorem Try.own : ownKnob Try.prog.godebug = none := by kernel_rfl
theorem Try.laidOut : laidOutB Try.prog = true := by kernel_rfl

/-- Two arguments that are trees, of one depth. -/
theorem read_two {H : Type} {enc : TypeId × Value → H} {W : World} {v v' : Value} {d d' : DataW H} {p p' : List MemPlace} (hs : ∃ cs, v = .agg cs) (hs' : ∃ cs, v' = .agg cs) (h : DataW.Trod enc Try.prog W 0 (fun _ => true) true 25 v d p)
    (h' : DataW.Trod enc Try.prog W 0 (fun _ => true) true 25 v' d' p') (hz : Fits 25 d) (hz' : Fits 25 d') :
    ∃ (N : Nat) (t t' : Tr N), ValAt (fun b => b < W.heap.size) W N t v ∧ ValAt (fun b => b < W.heap.size) W N t' v' := by
  obtain ⟨cs, rfl⟩ := hs
  obtain ⟨cs', rfl⟩ := hs'
  obtain ⟨fuel, hf⟩ := h
  obtain ⟨fuel', hf'⟩ := h'
  obtain ⟨t, ht⟩ := read_val (fuel + fuel') fuel (by omega) _ _ hf hz
  obtain ⟨t', ht'⟩ := read_val (fuel + fuel') fuel' (by omega) _ _ hf' hz'
  exact ⟨fuel + fuel', t, t', by simpa [Value.cells] using ht, by simpa [Value.cells] using ht'⟩

set_option maxRecDepth 100000 in
theorem valSame_lifted (os : Os) (started : os.Started) (H : Type) (enc : TypeId × Value → H) :
    ReturnsInHanded {} Try.checked os 4 .any (Rows.fnExactValSameSpec.pre6 enc Try.prog Try.f4 Rows.fnExactValSameRow.domain false) (Rows.fnExactValSameSpec.post enc Try.prog Try.f4 false true false false) := by
  refine returnsInHanded_of_change_sized (C := Try.checked) Try.own started (by kernel_rfl) Try.func4
    (ChangeSpec.witness6 (enc := enc) (C := Try.checked) false ⟨#[], #[.agg #[.int .i64 0, .int .i64 0, .string ByteArray.empty, .slice none 0 0, .slice none 0 0], .agg #[.int .i64 0, .int .i64 0, .string ByteArray.empty, .slice none 0 0, .slice none 0 0]], []⟩ 8 (by kernel_rfl) (by kernel_rfl) (by kernel_rfl) (by kernel_rfl)) ?_
  intro W base args ds gs before hval0 hW hcnd hsz0 _
  have hval : ∀ (j : Nat) t v, Try.f4.params[j]? = some t → args[j]? = some v → Value.okWide Try.prog W .any base t v := hval0
  have hW' := hW
  obtain ⟨p, q, hA0, hV, rfl, hfz, hnd⟩ := hW
  have hA : DataW.TrodAll enc Try.prog W 0 (fun _ => true) true Try.f4.params.toList args.toList ds p := hA0
  have hsz : (DataW.weightsEach Try.prog (Try.f4.params.toList ++ Rows.fnExactValSameSpec.plain.varTypes Try.prog) (ds ++ gs)).all (· ≤ reachBytes) = true := hsz0
  rw [Try.params4] at hA hval hsz
  obtain ⟨v0, vs0, d0, ds0, p0, q0, hargs, rfl, rfl, h0, r0⟩ := trodAll_cons hA
  obtain ⟨v1, vs1, d1, ds1, p1, q1, hargs1, rfl, rfl, h1, r1⟩ := trodAll_cons r0
  obtain ⟨rfl, rfl, rfl⟩ := trodAll_nil r1
  obtain rfl : args = #[v0, v1] := by cases args; simp_all
  obtain ⟨rfl, rfl⟩ := trodVars_none hV
  have k0 := h0
  have k1 := h1
  have lt0 : ∀ x ∈ p0, x.block < W.heap.size := by obtain ⟨m, hm⟩ := k0; exact DataW.trod_lt m _ _ _ hm
  have lt1 : ∀ x ∈ p1, x.block < W.heap.size := by obtain ⟨m, hm⟩ := k1; exact DataW.trod_lt m _ _ _ hm
  have hz0 : Fits 25 d0 := by
    intro n hn
    have := List.all_eq_true.1 hsz n (DataW.weights_mem_each (j := 0) (t := 25) rfl rfl n hn)
    simpa using this
  have hz1 : Fits 25 d1 := by
    intro n hn
    have := List.all_eq_true.1 hsz n (DataW.weights_mem_each (j := 1) (t := 25) rfl rfl n hn)
    simpa using this
  obtain ⟨cs, hcs, _⟩ := okWide_struct Try.underlying25 (hval 0 25 v0 rfl rfl)
  obtain ⟨cs1, hcs1, _⟩ := okWide_struct Try.underlying25 (hval 1 25 v1 rfl rfl)
  obtain ⟨N, t, t', ht, ht'⟩ := read_two ⟨cs, hcs⟩ ⟨cs1, hcs1⟩ h0 h1 hz0 hz1
  clear hA0 hval0 hsz0 hsz
  refine (lawValSame N _ t t' v0 v1 W ht ht' (fun b hb => hb)).mono fun e W' ⟨he, bel⟩ => ?_
  subst he
  exact ⟨_, rfl, _, _, _, [], _, [], hW', trodAll_mk1 (shut_bool Try.underlying4 _), trodAll_cons_mk (Below.trod Try.laidOut (by kernel_rfl) (of_decide_eq_true (by kernel_rfl)) k0 bel lt0) (trodAll_cons_mk (Below.trod Try.laidOut (by kernel_rfl) (of_decide_eq_true (by kernel_rfl)) k1 bel lt1) trodAll_mk0), rfl, bel.frame _, fun h => by cases h⟩

theorem valSame_holds : Rows.FnExactValSameSaid :=
  OpenClaim.holds_of_wide 4 Try.f4 rfl rfl rfl rfl rfl rfl rfl ⟨rfl, rfl, rfl, rfl, rfl⟩ rfl rfl rfl rfl rfl (by kernel_rfl) Try.func4 (by kernel_rfl)
    (of_decide_eq_true (by kernel_rfl)) (by unfold Func.isWrapper; first | (rw [if_pos (by decide +kernel)]; kernel_rfl) | (rw [if_neg (by decide +kernel)]; exact ⟨rfl, rfl⟩))
    (fun os started H enc _ => valSame_lifted os started H enc)
#print axioms valSame_holds
end Go.Proofs.Ytdmlpbkiomgloaa
