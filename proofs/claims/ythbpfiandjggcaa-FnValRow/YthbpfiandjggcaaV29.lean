/- Texts of the proof, put together by program: WSameI, LDraw. -/
import Derived.Test.YthbpfiandjggcaaV28
import Derived.Test.YthbpfiandjggcaaV19
import Derived.Test.YthbpfiandjggcaaV21
import Derived.Test.YthbpfiandjggcaaV23
/- ValSame of the program; the order says that two are one. -/
namespace Go.Proofs.Ythbpfiandjggcaa
open Go.RowKit Go.Deep

theorem under_freshP (w w' : World) : Under (FreshP w w') w' w'.heap.size := fun _ h => ⟨h.2, h.1.2⟩
theorem within_freshP (w w' : World) : Within (FreshP w w') w' := fun _ h => h.1.2
theorem Under.below {S : Nat → Prop} {w w' : World} (h : Under S w w.heap.size) (hb : Below w.heap.size w w') : Under S w' w'.heap.size := fun b hS => ⟨(h b hS).1.of_block (hb.block b (h b hS).2), Nat.lt_of_lt_of_le (h b hS).2 hb.size⟩

theorem orI_eq0 {x y : Int} : orI x y = 0 ↔ x = 0 ∧ y = 0 := by
  unfold orI
  split <;> simp_all
theorem cmpI_eq0 (a b : Int) : cmpI a b = 0 ↔ (a == b) = true := by
  unfold cmpI
  split
  · simp; omega
  · split
    · simp; omega
    · simp; omega
theorem cmpS_eq0 (a b : ByteArray) : cmpS a b = 0 ↔ (a.toList == b.toList) = true := by
  constructor
  · intro h
    unfold cmpS at h
    split at h
    · omega
    · split at h
      · assumption
      · omega
  · exact cmpS_eq
theorem ordL_strs : ∀ (xs ys : List ByteArray), ordL cmpS xs ys = 0 ↔ eqStrs xs ys = true
  | [], [] => by simp [ordL, eqStrs]
  | [], _ :: _ => by simp [ordL, eqStrs]
  | _ :: _, [] => by simp [ordL, eqStrs]
  | a :: r, b :: s => by rw [ordL, orI_eq0, cmpS_eq0, ordL_strs r s, eqStrs, Bool.and_eq_true]
theorem ordL_eqL {α : Type} {f : α → α → Int} {g : α → α → Bool} (h : ∀ a b, f a b = 0 ↔ g a b = true) : ∀ (xs ys : List α), ordL f xs ys = 0 ↔ eqL g xs ys = true
  | [], [] => by simp [ordL, eqL]
  | [], _ :: _ => by simp [ordL, eqL]
  | _ :: _, [] => by simp [ordL, eqL]
  | a :: r, b :: s => by rw [ordL, orI_eq0, h, ordL_eqL h r s, eqL, Bool.and_eq_true]
theorem ordT_eqT : ∀ (d : Nat) (a b : Tr d), ordT d a b = 0 ↔ eqT d a b = true
  | 0, _, _ => by simp [ordT, eqT]
  | d + 1, a, b => by
    have hh : headO (α := Tr d) a b = 0 ↔ ((Nd.kind a == Nd.kind b) = true ∧ (Nd.num a == Nd.num b) = true ∧ ((Nd.str a).toList == (Nd.str b).toList) = true ∧ eqStrs (Nd.keys a) (Nd.keys b) = true) := by
      show orI (cmpI (Nd.kind a) (Nd.kind b)) (orI (cmpI (Nd.num a) (Nd.num b)) (orI (cmpS (Nd.str a) (Nd.str b)) (ordL cmpS (Nd.keys a) (Nd.keys b)))) = 0 ↔ _
      rw [orI_eq0, orI_eq0, orI_eq0, cmpI_eq0, cmpI_eq0, cmpS_eq0, ordL_strs]
    rw [ordT, orI_eq0, hh, ordL_eqL (ordT_eqT d), eqT, Bool.and_eq_true, Bool.and_eq_true, Bool.and_eq_true, Bool.and_eq_true]
    constructor
    · rintro ⟨⟨h1, h2, h3, h4⟩, h5⟩
      exact ⟨h1, h2, h3, h4, h5⟩
    · rintro ⟨h1, h2, h3, h4, h5⟩
      exact ⟨⟨h1, h2, h3, h4⟩, h5⟩

set_option maxHeartbeats 1000000 in
theorem implSame_any (d : Nat) (S S' : Nat → Prop) (t t' : Tr d) (v v' : Value) (w : World) (hv : ValAt S w d t v) (hv' : ValAt S' w d t' v') (hS : Under S w w.heap.size) (hS' : Under S' w w.heap.size) (hsm : (nodes d t : Int) ≤ 4194304) :
    Calls Try.prog 10 #[v, v'] w fun e w' => e = .returned (.bool (eqT d t t')) ∧ Below w.heap.size w w' := by
  obtain ⟨k, n, s, ak, lk, ck, al, ll, cl, rfl⟩ := hv.shape
  obtain ⟨k', n', s', ak', lk', ck', al', ll', cl', rfl⟩ := hv'.shape
  obtain ⟨_, _, hA⟩ := two_blocks w 26 (.int .i64 k) (.int .i64 n) (.string s) (.slice ak lk ck) (.slice al ll cl) (.int .i64 k') (.int .i64 n') (.string s') (.slice ak' lk' ck') (.slice al' ll' cl')
  have hf : Hid ((ordT d t t' == 0) = eqT d t t') := by
    show (ordT d t t' == 0) = eqT d t t'
    rw [Bool.eq_iff_iff, beq_iff_eq]
    exact ordT_eqT d t t'
  go_enter Try.func10, Try.ntmps10
  go_wp2_with fail
  refine (implOrder_any d S S' t t' _ _ _ (hv.same (fun b hb => hA.block b (hS b hb).2)) (hv'.same (fun b hb => hA.block b (hS' b hb).2)) (hS.below hA) (hS'.below hA) hsm).mono ?_
  rintro e w1 ⟨rfl, hb1⟩
  have hB := below_trans hA hb1
  clear hA hb1
  go_wp2_with fail
  go_ret
  rw [← hf.out]
  exact ⟨rfl, hB⟩

end Go.Proofs.Ythbpfiandjggcaa

/- What the laws draw: two trees. -/
namespace Go.Proofs.Ythbpfiandjggcaa
open Go.RowKit Go.Deep

theorem freshP_after {w W0 w1 w2 : World} (h0 : w.heap.size ≤ W0.heap.size) (b1 : Below w1.heap.size w1 w2) : ∀ b, FreshP W0 w1 b → FreshP w w2 b := fun b hb => ⟨⟨Nat.le_trans h0 hb.1.1, Nat.lt_of_lt_of_le hb.1.2 b1.size⟩, hb.2.of_block (b1.block b hb.1.2)⟩

set_option maxRecDepth 100000 in
set_option maxHeartbeats 1000000 in
theorem drawValOrder_any (a : Option Addr) (n cap : Nat) (w : World) (hcap : n ≤ cap) (h : BytesAt w.heap.size w a n) :
    Calls Try.prog 6 #[.slice a n cap] w (TwoD w) := by
  have hb0 := below_trans (below_alloc1 w (.cells #[.int .i64 0, .int .i64 0, .string { data := #[] }, .slice none 0 0, .slice none 0 0] 26)) (below_alloc1 (w.alloc (.cells #[.int .i64 0, .int .i64 0, .string { data := #[] }, .slice none 0 0, .slice none 0 0] 26)) (.cells #[.int .i64 0, .int .i64 0, .string { data := #[] }, .slice none 0 0, .slice none 0 0] 26))
  obtain ⟨kr, kq, _⟩ := two_blocks w 26 (.int .i64 0) (.int .i64 0) (.string { data := #[] }) (.slice none 0 0) (.slice none 0 0) (.int .i64 0) (.int .i64 0) (.string { data := #[] }) (.slice none 0 0) (.slice none 0 0)
  obtain ⟨W0, HW⟩ : ∃ W0, Hid (W0 = (w.alloc (.cells #[.int .i64 0, .int .i64 0, .string { data := #[] }, .slice none 0 0, .slice none 0 0] 26)).alloc (.cells #[.int .i64 0, .int .i64 0, .string { data := #[] }, .slice none 0 0, .slice none 0 0] 26)) := ⟨_, rfl⟩
  have hz0 : w.heap.size + 1 < W0.heap.size := by rw [HW.out]; simp
  rw [← HW.out] at hb0 kr kq
  have hBy := h.wider (r' := W0.heap.size) (fun b hb => hb0.block b hb) (by omega)
  clear h
  go_enter Try.func6, Try.ntmps6
  go_wp2_with fail
  rw [← HW.out]
  clear HW
  refine (l1Two_any a n cap W0 hcap hBy).mono ?_
  rintro e w1 ⟨u, t, u', t', rfl, hv, hw, hv', hw', hb1⟩
  obtain ⟨v0, v1, v2, v3, v4, v5, v6, v7, v8, rfl⟩ := hv.shape
  obtain ⟨q0, q1, q2, q3, q4, q5, q6, q7, q8, rfl⟩ := hv'.shape
  replace kr := kr.below hb1
  replace kq := kq.below hb1
  have hF := twoD_end (hv.mono (S' := FreshT w w1) (fun b hb => ⟨by have := hb.1.1; omega, hb.1.2, hb.2⟩)) hw (hv'.mono (S' := FreshT w w1) (fun b hb => ⟨by have := hb.1.1; omega, hb.1.2, hb.2⟩)) hw' (below_trans hb0 hb1)
  have HF := hide hF
  obtain ⟨y0, y1, y2, y3, y4⟩ := kr.cell
  have yf := kr.frozen
  obtain ⟨z0, z1, z2, z3, z4⟩ := kq.cell
  have zf := kq.frozen
  have hkl := kr.lt
  have hql := kq.lt
  clear hF kr kq hv hv' hb0 hb1 hBy
  go_wp2_with fail
  exact bodyPost_ret (v := .tuple #[.agg #[.int .i64 v0, .int .i64 v1, .string v2, .slice v3 v4 v5, .slice v6 v7 v8], .agg #[.int .i64 q0, .int .i64 q1, .string q2, .slice q3 q4 q5, .slice q6 q7 q8]]) (by simp [results, Try.results6, go_sem, y0, y1, y2, y3, y4, z0, z1, z2, z3, z4]) rfl (HF.out _ rfl)

set_option maxRecDepth 100000 in
set_option maxHeartbeats 1000000 in
theorem drawValSame_any (a : Option Addr) (n cap : Nat) (w : World) (hcap : n ≤ cap) (h : BytesAt w.heap.size w a n) :
    Calls Try.prog 12 #[.slice a n cap] w (TwoD w) := by
  have hb0 := below_trans (below_alloc1 w (.cells #[.int .i64 0, .int .i64 0, .string { data := #[] }, .slice none 0 0, .slice none 0 0] 26)) (below_alloc1 (w.alloc (.cells #[.int .i64 0, .int .i64 0, .string { data := #[] }, .slice none 0 0, .slice none 0 0] 26)) (.cells #[.int .i64 0, .int .i64 0, .string { data := #[] }, .slice none 0 0, .slice none 0 0] 26))
  obtain ⟨kr, kq, _⟩ := two_blocks w 26 (.int .i64 0) (.int .i64 0) (.string { data := #[] }) (.slice none 0 0) (.slice none 0 0) (.int .i64 0) (.int .i64 0) (.string { data := #[] }) (.slice none 0 0) (.slice none 0 0)
  obtain ⟨W0, HW⟩ : ∃ W0, Hid (W0 = (w.alloc (.cells #[.int .i64 0, .int .i64 0, .string { data := #[] }, .slice none 0 0, .slice none 0 0] 26)).alloc (.cells #[.int .i64 0, .int .i64 0, .string { data := #[] }, .slice none 0 0, .slice none 0 0] 26)) := ⟨_, rfl⟩
  have hz0 : w.heap.size + 1 < W0.heap.size := by rw [HW.out]; simp
  rw [← HW.out] at hb0 kr kq
  have hBy := h.wider (r' := W0.heap.size) (fun b hb => hb0.block b hb) (by omega)
  clear h
  go_enter Try.func12, Try.ntmps12
  go_wp2_with fail
  rw [← HW.out]
  clear HW
  refine (l1Two_any a n cap W0 hcap hBy).mono ?_
  rintro e w1 ⟨u, t, u', t', rfl, hv, hw, hv', hw', hb1⟩
  obtain ⟨v0, v1, v2, v3, v4, v5, v6, v7, v8, rfl⟩ := hv.shape
  obtain ⟨q0, q1, q2, q3, q4, q5, q6, q7, q8, rfl⟩ := hv'.shape
  replace kr := kr.below hb1
  replace kq := kq.below hb1
  have hF := twoD_end (hv.mono (S' := FreshT w w1) (fun b hb => ⟨by have := hb.1.1; omega, hb.1.2, hb.2⟩)) hw (hv'.mono (S' := FreshT w w1) (fun b hb => ⟨by have := hb.1.1; omega, hb.1.2, hb.2⟩)) hw' (below_trans hb0 hb1)
  have HF := hide hF
  obtain ⟨y0, y1, y2, y3, y4⟩ := kr.cell
  have yf := kr.frozen
  obtain ⟨z0, z1, z2, z3, z4⟩ := kq.cell
  have zf := kq.frozen
  have hkl := kr.lt
  have hql := kq.lt
  clear hF kr kq hv hv' hb0 hb1 hBy
  go_wp2_with fail
  exact bodyPost_ret (v := .tuple #[.agg #[.int .i64 v0, .int .i64 v1, .string v2, .slice v3 v4 v5, .slice v6 v7 v8], .agg #[.int .i64 q0, .int .i64 q1, .string q2, .slice q3 q4 q5, .slice q6 q7 q8]]) (by simp [results, Try.results12, go_sem, y0, y1, y2, y3, y4, z0, z1, z2, z3, z4]) rfl (HF.out _ rfl)
end Go.Proofs.Ythbpfiandjggcaa
