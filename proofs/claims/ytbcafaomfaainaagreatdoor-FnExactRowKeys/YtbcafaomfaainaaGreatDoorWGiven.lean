/- given: the tree of a value, or a fault. -/
import Derived.Test.YtbcafaomfaainaaGreatDoorWTold
import Derived.Test.YtbcafaomfaainaaGreatDoorWAssert
namespace Go.Proofs.YtbcafaomfaainaaGreatDoor
open Go.RowKit Go.Deep

/-- Why something can not be done. -/
def faultV (why : ByteArray) : Value := .iface 69 (.agg #[.string why])

/-- A tree, or why there is none. -/
def TreeQ2 (d : Nat) (t : Tr d) (ok : Bool) (w : World) (e : Ending) (w' : World) : Prop :=
  Below w.heap.size w w' ∧ ((ok = true ∧ ∃ u, e = .returned (.tuple #[u, .nilIface]) ∧ TreeG (Fresh w w') w' d t u) ∨ (ok = false ∧ ∃ why, e = .returned (.tuple #[.nilIface, faultV why])))

theorem okT_form {d : Nat} {t : Tr d} (h : okT d t = true) : formT d t 6 = true ∧ manyT d t 6 ≤ 60 := by
  unfold okT at h
  simpa using h

set_option maxRecDepth 100000 in
set_option maxHeartbeats 1000000 in
theorem given_any (d : Nat) (S : Nat → Prop) (t : Tr d) (v : Value) (w : World) (hv : ValAt S w d t v) (hS : Within S w) :
    Calls Tryz.prog 34 #[v] w (TreeQ2 d t (okT d t) w) := by
  obtain ⟨k, n, s, ak, lk, ck, al, ll, cl, rfl⟩ := hv.shape
  have hA := below_alloc1 w (.cells #[.int .i64 k, .int .i64 n, .string s, .slice ak lk ck, .slice al ll cl] 29)
  go_enter Tryz.func34, Tryz.ntmps34
  go_wp2_with fail
  refine (treeOf_any d S t _ _ (hv.same (hS.same hA)) (hS.later hA.size)).mono ?_
  rintro e w1 ⟨u, rfl, hu, hb1⟩
  rw [treeP_okT] at hu ⊢
  have HB := hide (below_trans hA hb1)
  have hsz := hA.size
  cases hf : okT d t with
  | false =>
    clear hu hb1 hA hv
    go_wp2_with fail
    go_ret2
    exact ⟨HB.out, Or.inr ⟨hf, _, rfl⟩⟩
  | true =>
    have hG : TreeG (Fresh w w1) w1 d t u := (treeG_of d t 6 u (okT_form hf).1 (okT_form hf).2 (hu hf)).mono (fun b hb => ⟨by have := hb.1; omega, hb.2⟩)
    obtain ⟨T, u', rfl⟩ := hG.iface
    have HG := hide hG
    clear hu hb1 hA hv hG
    go_wp2_with fail
    go_ret2
    exact ⟨HB.out, Or.inl ⟨hf, _, rfl, HG.out⟩⟩

end Go.Proofs.YtbcafaomfaainaaGreatDoor
