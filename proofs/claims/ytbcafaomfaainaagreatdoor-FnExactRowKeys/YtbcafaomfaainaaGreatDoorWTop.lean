/- treeOf, given: what is topmost owns its memory. -/
import Derived.Test.YtbcafaomfaainaaGreatDoorWGiven
namespace Go.Proofs.YtbcafaomfaainaaGreatDoor
open Go.RowKit Go.Deep

theorem TopOwn.moved {d N M : Nat} {w w' : World} {t : Nd (Tr d)} {u : Value} (h : TopOwn N w t u) (hb : Below w.heap.size w w') (hM : M ≤ N) : TopOwn M w' t u := by
  refine ⟨fun h5 => ?_, fun h6 => ?_⟩
  · obtain ⟨sv, vs, e, ht⟩ := h.1 h5
    exact ⟨sv, vs, e, ht.moved hb hM⟩
  · obtain ⟨r, es, e, h1, h2, h3, hm⟩ := h.2 h6
    have hz := hb.size
    exact ⟨r, es, e, by omega, by omega, (hb.block r h2).trans h3, hm.moved (fun x u hx => TreeAt.moved (fun b hb' => hb.block b hb'.2.1) (fun b hb' => ⟨by have := hb'.1; omega, by have := hb'.2.1; omega, hb'.2.2⟩) d x u hx)⟩

set_option maxHeartbeats 1000000 in
theorem treeOf_own (d : Nat) (S : Nat → Prop) (t : Nd (Tr d)) (v : Value) (w : World) (hv : ValAt S w (d + 1) t v) (hS : Within S w) :
    Calls Tryz.prog 39 #[v] w fun e w' => ∃ u, e = .returned (.tuple #[u, .bool (treeP (d + 1) t 60 1).1]) ∧ ((treeP (d + 1) t 60 1).1 = true → TreeAt (Fresh w w') w' (d + 1) t u ∧ TopOwn w.heap.size w' t u) ∧ Below w.heap.size w w' := by
  obtain ⟨k, n, s, ak, lk, ck, al, ll, cl, rfl⟩ := hv.shape
  have hA : Below w.heap.size w ((w.alloc (.cells #[.int .i64 k, .int .i64 n, .string s, .slice ak lk ck, .slice al ll cl] 29)).alloc (.cells #[.int .i64 60] 95)) := below_trans (below_alloc1 _ _) (below_alloc1 _ _)
  have hr : Room ((w.alloc (.cells #[.int .i64 k, .int .i64 n, .string s, .slice ak lk ck, .slice al ll cl] 29)).alloc (.cells #[.int .i64 60] 95)) (w.heap.size + 1) 60 := by
    have := heap_alloc_new (w.alloc (.cells #[.int .i64 k, .int .i64 n, .string s, .slice ak lk ck, .slice al ll cl] 29)) (.cells #[.int .i64 60] 95)
    simpa [Room] using this
  go_enter Tryz.func39, Tryz.ntmps39
  go_wp2_with fail
  refine (tree_own d S t _ 60 1 (w.heap.size + 1) _ (hv.same (hS.same hA)) (hS.later hA.size) (fun h => by have := hS _ h; omega) hr (by omega) (by omega) (by omega) (by omega)).mono ?_
  rintro e w1 ⟨u, rfl, hu, _, hb1⟩
  have HB : Hid (Below w.heap.size w w1) := by
    refine ⟨hb1.os.trans hA.os, hb1.tape.trans hA.tape, hb1.output.trans hA.output, Nat.le_trans hA.size hb1.size, fun i hi => ?_⟩
    exact (hb1.block i (Nat.lt_of_lt_of_le hi hA.size) (fun e => by cases e; omega)).trans (hA.block i hi)
  have hin : ∀ b, Fresh ((w.alloc (.cells #[.int .i64 k, .int .i64 n, .string s, .slice ak lk ck, .slice al ll cl] 29)).alloc (.cells #[.int .i64 60] 95)) w1 b → Fresh w w1 b := fun b hb => ⟨Nat.le_trans hA.size hb.1, hb.2⟩
  have HU : Hid ((treeP (d + 1) t 60 1).1 = true → TreeAt (Fresh w w1) w1 (d + 1) t u ∧ TopOwn w.heap.size w1 t u) := fun h => ⟨TreeAt.moved (Same.refl _ _) hin (d + 1) t u (hu h).1, (hu h).2.moved (Below.refl _ _) hA.size⟩
  clear hu hb1 hr hA hv hin
  go_wp2_with fail
  go_ret2
  exact ⟨u, rfl, HU.out, HB.out⟩


/-- A tree whose topmost list or map is its own, or why there is none. -/
def GivenQ (d : Nat) (t : Nd (Tr d)) (w : World) (e : Ending) (w' : World) : Prop :=
  Below w.heap.size w w' ∧ ((okT (d + 1) t = true ∧ ∃ u, e = .returned (.tuple #[u, .nilIface]) ∧ TreeG (Fresh w w') w' (d + 1) t u ∧ TopOwn w.heap.size w' t u) ∨ (okT (d + 1) t = false ∧ ∃ why, e = .returned (.tuple #[.nilIface, faultV why])))

set_option maxRecDepth 100000 in
set_option maxHeartbeats 1000000 in
theorem given_own (d : Nat) (S : Nat → Prop) (t : Nd (Tr d)) (v : Value) (w : World) (hv : ValAt S w (d + 1) t v) (hS : Within S w) :
    Calls Tryz.prog 34 #[v] w (GivenQ d t w) := by
  obtain ⟨k, n, s, ak, lk, ck, al, ll, cl, rfl⟩ := hv.shape
  have hA := below_alloc1 w (.cells #[.int .i64 k, .int .i64 n, .string s, .slice ak lk ck, .slice al ll cl] 29)
  go_enter Tryz.func34, Tryz.ntmps34
  go_wp2_with fail
  refine (treeOf_own d S t _ _ (hv.same (hS.same hA)) (hS.later hA.size)).mono ?_
  rintro e w1 ⟨u, rfl, hu, hb1⟩
  have hpo : (treeP (d + 1) t 60 1).1 = okT (d + 1) t := treeP_okT (d := d + 1) (t := t)
  rw [hpo] at hu ⊢
  have HB := hide (below_trans hA hb1)
  have hsz := hA.size
  cases hf : okT (d + 1) t with
  | false =>
    clear hu hb1 hA hv
    go_wp2_with fail
    go_ret2
    exact ⟨HB.out, Or.inr ⟨hf, _, rfl⟩⟩
  | true =>
    have hG : TreeG (Fresh w w1) w1 (d + 1) t u := (treeG_of (d + 1) t 6 u (okT_form hf).1 (okT_form hf).2 (hu hf).1).mono (fun b hb => ⟨by have := hb.1; omega, hb.2⟩)
    obtain ⟨T, u', rfl⟩ := hG.iface
    have HG := hide hG
    have HO := hide ((hu hf).2.moved (Below.refl _ _) hA.size)
    clear hu hb1 hA hv hG
    go_wp2_with fail
    go_ret2
    exact ⟨HB.out, Or.inl ⟨hf, _, rfl, HG.out, HO.out⟩⟩

end Go.Proofs.YtbcafaomfaainaaGreatDoor
