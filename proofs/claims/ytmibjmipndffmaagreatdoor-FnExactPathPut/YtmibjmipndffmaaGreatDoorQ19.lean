/- Texts of the proof, put together by program: WPathN, PPathR, WRd, WToPB, WDrawA, WDrawB. -/
import Derived.Test.YtmibjmipndffmaaGreatDoorQ18
import Derived.Test.YtmibjmipndffmaaGreatDoorQ2
import Derived.Laws.Bits64
import Derived.Laws.Closers25
import Derived.Deep.QuietTactic
import Derived.Test.YtmibjmipndffmaaGreatDoorQ1
import Derived.Test.YtmibjmipndffmaaGreatDoorQ5
import Derived.Test.YtmibjmipndffmaaGreatDoorQ8
/- PathPut of the model. -/
namespace Go.Proofs.YtmibjmipndffmaaGreatDoor
open Go.RowKit Go.Deep

theorem putT_no {d : Nat} {x : Tr (d + 2)} : ∀ (k : Nat) (t : Tr (d + 2)) (ps : List Stp), (putT d x k t ps).2 = false → (putT d x k t ps).1 = zeroT (d + k + 1)
  | 0, _, _, h => by cases h
  | k + 1, _, [], _ => rfl
  | k + 1, t, p :: r, h => by
    rw [putT] at h ⊢
    split at h
    · rename_i h1
      rw [if_pos h1]
      exact back_off h
    · rename_i h1
      rw [if_neg h1]
      rfl
theorem told_given' {d : Nat} {t : Tr (d + 1)} (h : okT (d + 1) t = true) : toldT d t = t := by rw [toldT, if_pos h]
set_option maxRecDepth 100000 in
set_option maxHeartbeats 8000000 in
theorem specPathPut_own (d : Nat) (S : Nat → Prop) (t : Tr (d + 2)) (v : Value) (S' : Nat → Prop) (ps : List Stp) (v' : Value) (S3 : Nat → Prop) (x : Tr (d + 2)) (xv : Value) (w : World) (hv : ValAt S w (d + 2) t v) (hS : Within S w) (hv' : StepsAt S' w v' ps) (hS' : Within S' w) (hcs : ∀ a n c, v' = .slice a n c → n ≤ c) (hx : ValAt S3 w (d + 2) x xv) (hS3 : Within S3 w) (hsm : (nodes (d + 2) t : Int) ≤ 4194304) (hsx : (nodes (d + 2) x : Int) ≤ 4194304) :
    Calls Tryz.prog 11 #[v, v', xv] w (TellQ (d + ps.length + 1) (pathPutT d t ps x).1 (pathPutT d t ps x).2 w) := by
  obtain ⟨q0, q1, q2, q3, q4, q5, q6, q7, q8, rfl⟩ := hv.shape
  obtain ⟨c0, c1, c2, c3, c4, c5, c6, c7, c8, rfl⟩ := hx.shape
  obtain ⟨a, cap, rfl, hlen⟩ := hv'.open'
  have HCS := hide hcs
  obtain ⟨W0, hW⟩ : ∃ W0, W0 = (((w.alloc (.cells #[.int .i64 q0, .int .i64 q1, .string q2, .slice q3 q4 q5, .slice q6 q7 q8] 26)).alloc (.cells #[.int .i64 c0, .int .i64 c1, .string c2, .slice c3 c4 c5, .slice c6 c7 c8] 26)).alloc (.cells #[.int .i64 0, .int .i64 0, .string { data := #[] }, .slice none 0 0, .slice none 0 0] 26)) := ⟨_, rfl⟩
  have hW0 : Below w.heap.size w W0 := by rw [hW]; exact below_trans (below_trans (below_alloc1 _ _) (below_alloc1 _ _)) (below_alloc1 _ _)
  have k0 : Blk5 W0 w.heap.size 26 (.int .i64 q0) (.int .i64 q1) (.string q2) (.slice q3 q4 q5) (.slice q6 q7 q8) := by rw [hW]; exact ((Blk5.new w _ _ _ _ _ _).alloc _).alloc _
  have k1 : Blk5 W0 (w.heap.size + 1) 26 (.int .i64 c0) (.int .i64 c1) (.string c2) (.slice c3 c4 c5) (.slice c6 c7 c8) := by
    have := Blk5.new (w.alloc (.cells #[.int .i64 q0, .int .i64 q1, .string q2, .slice q3 q4 q5, .slice q6 q7 q8] 26)) 26 (.int .i64 c0) (.int .i64 c1) (.string c2) (.slice c3 c4 c5) (.slice c6 c7 c8)
    rw [World.size_alloc] at this
    rw [hW]
    exact this.alloc _
  have k2 : Blk5 W0 (w.heap.size + 1 + 1) 26 (.int .i64 0) (.int .i64 0) (.string { data := #[] }) (.slice none 0 0) (.slice none 0 0) := by
    have := Blk5.new ((w.alloc (.cells #[.int .i64 q0, .int .i64 q1, .string q2, .slice q3 q4 q5, .slice q6 q7 q8] 26)).alloc (.cells #[.int .i64 c0, .int .i64 c1, .string c2, .slice c3 c4 c5, .slice c6 c7 c8] 26)) 26 (.int .i64 0) (.int .i64 0) (.string { data := #[] }) (.slice none 0 0) (.slice none 0 0)
    rw [World.size_alloc, World.size_alloc] at this
    rw [hW]
    exact this
  have HW := hide hW
  clear hW hcs
  go_enter Tryz.func11, Tryz.ntmps11
  go_wp2_with fail
  rw [← HW.out]
  clear HW
  refine (specValOk_any (d + 2) S t _ W0 (hv.same (hS.same hW0)) (hS.later hW0.size) hsm).mono ?_
  rintro e w1 ⟨rfl, hb1⟩
  replace k0 := k0.below hb1
  replace k1 := k1.below hb1
  replace k2 := k2.below hb1
  have hB1 := below_trans hW0 hb1
  have hlt := k2.lt
  have hno : ∀ w1, Below w.heap.size w w1 → Hid (∀ wF, wF = set5 w1 (w.heap.size + 1 + 1) 0 (.int .i64 0) (.int .i64 0) (.string { data := #[] }) (.slice none 0 0) (.slice none 0 0) → Below w.heap.size w wF) := by
    intro w1 hB1 wF hF
    rw [hF]
    exact below_set5 hB1 (by omega) _ _ _ _ _ _
  clear hb1 hW0
  cases hf : okT (d + 2) t with
  | false =>
    have hz : Hid (pathPutT d t ps x = (zeroT (d + ps.length + 1), false)) := by
      show pathPutT d t ps x = _
      rw [pathPutT, if_neg (by rw [hf]; simp)]
    have hN := hno w1 hB1
    obtain ⟨y0, y1, y2, y3, y4⟩ := k2.cell
    have yf := k2.frozen
    clear k0 k1 k2 hB1 hv hx hv' hno
    go_wp2_with fail
    rw [hz.out]
    exact bodyPost_ret (v := .tuple #[zeroVal, .bool false]) (by simp [results, Tryz.results11, go_sem, zeroVal, y0, y1, y2, y3, y4]; rfl) rfl ⟨_, rfl, zeroVal_own (d + ps.length + 1) _ _, hN.out _ rfl⟩
  | true =>
    go_wp2_with fail
    refine (specPathOk_any S' ps _ w1 (hv'.same (hS'.same hB1)) (hS'.later hB1.size)).mono ?_
    rintro e w2 ⟨rfl, hb2⟩
    replace k0 := k0.below hb2
    replace k1 := k1.below hb2
    replace k2 := k2.below hb2
    have hB2 := below_trans hB1 hb2
    clear hb2 hB1
    cases hpo : pathOk ps with
    | false =>
      have hz : Hid (pathPutT d t ps x = (zeroT (d + ps.length + 1), false)) := by
        show pathPutT d t ps x = _
        rw [pathPutT, if_neg (by rw [hpo]; simp)]
      have hN := hno w2 hB2
      obtain ⟨y0, y1, y2, y3, y4⟩ := k2.cell
      have yf := k2.frozen
      clear k0 k1 k2 hB2 hv hx hv' hno
      go_wp2_with fail
      rw [hz.out]
      exact bodyPost_ret (v := .tuple #[zeroVal, .bool false]) (by simp [results, Tryz.results11, go_sem, zeroVal, y0, y1, y2, y3, y4]; rfl) rfl ⟨_, rfl, zeroVal_own (d + ps.length + 1) _ _, hN.out _ rfl⟩
    | true =>
      obtain ⟨x0, x1, x2, x3, x4⟩ := k1.cell
      go_wp2_with fail
      refine (specValOk_any (d + 2) S3 x _ w2 (hx.same (hS3.same hB2)) (hS3.later hB2.size) hsx).mono ?_
      rintro e w3 ⟨rfl, hb3⟩
      replace k0 := k0.below hb3
      replace k1 := k1.below hb3
      replace k2 := k2.below hb3
      have hB3 := below_trans hB2 hb3
      clear hb3 hB2 x0 x1 x2 x3 x4
      cases hfx : okT (d + 2) x with
      | false =>
        have hz : Hid (pathPutT d t ps x = (zeroT (d + ps.length + 1), false)) := by
          show pathPutT d t ps x = _
          rw [pathPutT, if_neg (by rw [hfx]; simp)]
        have hN := hno w3 hB3
        obtain ⟨y0, y1, y2, y3, y4⟩ := k2.cell
        have yf := k2.frozen
        clear k0 k1 k2 hB3 hv hx hv' hno
        go_wp2_with fail
        rw [hz.out]
        exact bodyPost_ret (v := .tuple #[zeroVal, .bool false]) (by simp [results, Tryz.results11, go_sem, zeroVal, y0, y1, y2, y3, y4]; rfl) rfl ⟨_, rfl, zeroVal_own (d + ps.length + 1) _ _, hN.out _ rfl⟩
      | true =>
        have hz : Hid (pathPutT d t ps x = putT d x ps.length t ps) := by
          show pathPutT d t ps x = _
          rw [pathPutT, if_pos ⟨hf, hpo, hfx⟩]
        obtain ⟨x0, x1, x2, x3, x4⟩ := k0.cell
        obtain ⟨z0, z1, z2, z3, z4⟩ := k1.cell
        obtain ⟨⟨Y, o2⟩, hY⟩ : ∃ y, Hid (putT d x ps.length t ps = y) := ⟨_, rfl⟩
        have hokY : okT (d + ps.length + 2) Y = true := by
          have := okT_putT hfx ps.length t ps
          rw [hY.out] at this
          exact this
        have hcall := l3Put_any d S3 x _ hfx ps.length S t _ S' ps _ w3 rfl (hx.same (hS3.same hB3)) (hS3.later hB3.size) (hv.same (hS.same hB3)) (hS.later hB3.size) (hv'.same (hS'.same hB3)) (hS'.later hB3.size) HCS.out hf hpo
        rw [hY.out] at hcall
        dsimp only at hcall
        have hS3w := hS3.later hB3.size
        have HCALL := hide hcall
        clear hno hcall HCS
        go_wp2_with fail
        refine HCALL.out.mono ?_
        rintro e w4 ⟨u, rfl, hu, hb4⟩
        obtain ⟨v0, v1, v2, v3, v4, v5, v6, v7, v8, rfl⟩ := hu.shape
        have hB4 := below_trans hB3 hb4
        have k24 := k2.below hb4
        have hs4 := hb4.size
        clear k0 k1 k2 x0 x1 x2 x3 x4 z0 z1 z2 z3 z4 hx hv hv' hB3 HCALL
        have hA := below_alloc1 w4 (.cells #[.int .i64 v0, .int .i64 v1, .string v2, .slice v3 v4 v5, .slice v6 v7 v8] 26)
        have k25 := k24.alloc (.cells #[.int .i64 v0, .int .i64 v1, .string v2, .slice v3 v4 v5, .slice v6 v7 v8] 26)
        have hB5 := below_trans hB4 hA
        have hlt5 := k25.lt
        cases o2 with
        | false =>
          have hz2 : Hid (pathPutT d t ps x = (zeroT (d + ps.length + 1), false)) := by
            show _ = _
            have h2 := putT_no (d := d) (x := x) ps.length t ps (by rw [hY.out])
            rw [hz.out, hY.out]
            rw [hY.out] at h2
            exact congrArg (fun y => (y, false)) h2
          have hN : Hid (∀ wF, wF = set5 (w4.alloc (.cells #[.int .i64 v0, .int .i64 v1, .string v2, .slice v3 v4 v5, .slice v6 v7 v8] 26)) (w.heap.size + 1 + 1) 0 (.int .i64 0) (.int .i64 0) (.string { data := #[] }) (.slice none 0 0) (.slice none 0 0) → Below w.heap.size w wF) := by
            intro wF hF
            rw [hF]
            exact below_set5 hB5 (by omega) _ _ _ _ _ _
          obtain ⟨y0, y1, y2, y3, y4⟩ := k25.cell
          have yf := k25.frozen
          clear k24 k25 hB4 hB5 hA hu hb4 hY
          go_wp2_with fail
          rw [hz2.out]
          exact bodyPost_ret (v := .tuple #[zeroVal, .bool false]) (by simp [results, Tryz.results11, go_sem, zeroVal, y0, y1, y2, y3, y4]; rfl) rfl ⟨_, rfl, zeroVal_own (d + ps.length + 1) _ _, hN.out _ rfl⟩
        | true =>
          have hW4 : Within (fun b => S3 b ∨ Fresh w3 w4 b) w4 := fun b hb => by
            rcases hb with h | h
            · have := hS3w b h; omega
            · exact h.2
          have hcall2 := l2Told_own (d + ps.length + 1) _ Y _ (w4.alloc (.cells #[.int .i64 v0, .int .i64 v1, .string v2, .slice v3 v4 v5, .slice v6 v7 v8] 26)) (hu.same (hW4.same hA)) (hW4.later hA.size) (nodes_fit hokY)
          rw [told_given' hokY, hokY] at hcall2
          have HC2 := hide hcall2
          have hz2 : Hid (pathPutT d t ps x = (Y, true)) := hz.out.trans hY.out
          clear hcall2 hu hb4 hB4 k24 hA hY hz
          go_wp2_with fail
          refine HC2.out.mono ?_
          rintro e w6 ⟨u, rfl, hu, hb6⟩
          obtain ⟨u0, u1, u2, u3, u4, u5, u6, u7, u8, rfl⟩ := (ValOwn.at _ _ _ _ hu).shape
          have HF := hide (tell_end hu (below_trans hB5 hb6) (by omega) hlt5)
          have k26 := k25.below hb6
          obtain ⟨y0, y1, y2, y3, y4⟩ := k26.cell
          have yf := k26.frozen
          clear k25 k26 hu hb6 hB5 HC2
          go_wp2_with fail
          rw [hz2.out]
          exact bodyPost_ret (v := .tuple #[.agg #[.int .i64 u0, .int .i64 u1, .string u2, .slice u3 u4 u5, .slice u6 u7 u8], .bool true]) (by simp [results, Tryz.results11, go_sem, y0, y1, y2, y3, y4]) rfl ⟨_, rfl, (HF.out _ rfl).1, (HF.out _ rfl).2⟩
end Go.Proofs.YtmibjmipndffmaaGreatDoor

/- PathPut of the program, as its loop goes back along the way: plain facts. -/
namespace Go.Proofs.YtmibjmipndffmaaGreatDoor
open Go.RowKit Go.Deep

theorem put_no_way {d : Nat} {t x : Tr (d + 2)} {ps : List Stp} (h : (pathGetT d t ps).2 = false) : pathPutT d t ps x = (zeroT (d + ps.length + 1), false) := by
  unfold pathGetT at h
  unfold pathPutT
  by_cases h1 : okT (d + 2) t = true ∧ pathOk ps = true
  · rw [if_pos h1] at h
    by_cases hx : okT (d + 2) x = true
    · rw [if_pos ⟨h1.1, h1.2, hx⟩]
      cases ps with
      | nil => rw [alongT] at h; cases h
      | cons p r => exact putT_along (x := x) (p :: r) t h
    · rw [if_neg (fun h2 => hx h2.2.2)]
  · rw [if_neg (fun h2 => h1 ⟨h2.1, h2.2.1⟩)]
theorem put_way {d : Nat} {t : Tr (d + 2)} {ps : List Stp} (h : (pathGetT d t ps).2 = true) : okT (d + 2) t = true ∧ pathOk ps = true ∧ (alongT d t ps).2 = true := by
  unfold pathGetT at h
  by_cases h1 : okT (d + 2) t = true ∧ pathOk ps = true
  · rw [if_pos h1] at h
    exact ⟨h1.1, h1.2, h⟩
  · rw [if_neg h1] at h
    cases h
theorem put_bad {d : Nat} {t x : Tr (d + 2)} {ps : List Stp} (h : okT (d + 2) x = false) : pathPutT d t ps x = (zeroT (d + ps.length + 1), false) := by
  unfold pathPutT
  rw [if_neg (by rw [h]; simp)]
/-- What fails on the way back fails. -/
theorem put_fail {d : Nat} {t x : Tr (d + 2)} {ps : List Stp} : ∀ (i m : Nat), i + m = ps.length → (putT d x m (afterT d t ps i) (ps.drop i)).2 = false → (putT d x ps.length t ps).2 = false
  | 0, m, e, h => by
    have h0 : afterT d t ps 0 = t := by cases ps <;> rfl
    rw [h0, List.drop_zero] at h
    obtain rfl : m = ps.length := by omega
    exact h
  | i + 1, m, e, h => by
    obtain ⟨p, hp⟩ : ∃ p, ps[i]? = some p := ⟨_, List.getElem?_eq_getElem (by omega)⟩
    refine put_fail i (m + 1) (by omega) ?_
    rw [putT_round_off hp h]
theorem put_end {d : Nat} {t x : Tr (d + 2)} {ps : List Stp} (h : okT (d + 2) t = true) (hp : pathOk ps = true) (hx : okT (d + 2) x = true) : pathPutT d t ps x = putT d x ps.length t ps := by
  unfold pathPutT
  rw [if_pos ⟨h, hp, hx⟩]
end Go.Proofs.YtmibjmipndffmaaGreatDoor

/- The reader of drawn bytes: pick. -/
namespace Go.Proofs.YtmibjmipndffmaaGreatDoor
open Go.RowKit Go.Deep

theorem xor_nonneg (a b : Int) (ha : 0 ≤ a) (hb : 0 ≤ b) (ha' : a < 9223372036854775808) (hb' : b < 9223372036854775808) : 0 ≤ bits .xor .i64 a b := by
  obtain ⟨A, rfl⟩ := Int.eq_ofNat_of_zero_le ha
  obtain ⟨B, rfl⟩ := Int.eq_ofNat_of_zero_le hb
  have hx : A ^^^ B < 2 ^ 63 := Nat.xor_lt_two_pow (by omega) (by omega)
  have h1 : (BitVec.ofInt 64 (A : Int)).toNat = A := by
    rw [BitVec.ofInt_natCast, BitVec.toNat_ofNat]; exact Nat.mod_eq_of_lt (by omega)
  have h2 : (BitVec.ofInt 64 (B : Int)).toNat = B := by
    rw [BitVec.ofInt_natCast, BitVec.toNat_ofNat]; exact Nat.mod_eq_of_lt (by omega)
  show 0 ≤ IntKind.i64.wrap ((BitVec.ofInt 64 (A : Int) ^^^ BitVec.ofInt 64 (B : Int)).toNat : Int)
  rw [BitVec.toNat_xor, h1, h2, IntKind.wrap_i64]
  omega

theorem But.draws {rb : Nat} {w w' : World} (h : But rb w w') {n : Nat} : But rb w (w'.drewN n) := ⟨h.os, h.tape, h.output, h.size, h.block⟩

/-- Bytes that lie in a block below r. -/
def BytesAt (r : Nat) (w : World) (a : Option Addr) (n : Nat) : Prop :=
  n = 0 ∨ ∃ b o, b < r ∧ a = some ⟨b, o, none⟩ ∧ ∀ i, i < n → ∃ x : Int, 0 ≤ x ∧ x < 256 ∧ w.cell? ⟨b, o + i, none⟩ = some (.int .u8 x)

/-- The reader at block r, its place p. -/
def Rd (w : World) (r p : Nat) : Prop :=
  ∃ a n cap, w.heap[r]? = some (.cells #[.slice a n cap, .int .i64 p] 115 (0, 0)) ∧ n ≤ 2000 ∧ BytesAt r w a n

theorem Rd.lt {w : World} {r p : Nat} (h : Rd w r p) : r < w.heap.size := by
  obtain ⟨a, n, cap, h, _⟩ := h
  exact (Array.getElem?_eq_some_iff.1 h).1
theorem BytesAt.moved {r : Nat} {w w' : World} {a : Option Addr} {n : Nat} (h : BytesAt r w a n) (hs : ∀ b, b < r → w'.heap[b]? = w.heap[b]?) : BytesAt r w' a n := by
  rcases h with h | ⟨b, o, hb, ha, hc⟩
  · exact Or.inl h
  · refine Or.inr ⟨b, o, hb, ha, fun i hi => ?_⟩
    obtain ⟨x, h0, h1, h2⟩ := hc i hi
    exact ⟨x, h0, h1, (World.cell?_of_block (w := w) (hs b hb)).trans h2⟩
/-- The reader is as it was, where no block up to it has turned. -/
theorem Rd.below {w w' : World} {r p : Nat} (h : Rd w r p) (hb : Below w.heap.size w w') : Rd w' r p := by
  have hl := h.lt
  obtain ⟨a, n, cap, h, hn, hB⟩ := h
  exact ⟨a, n, cap, (hb.block r hl).trans h, hn, hB.moved (fun b hbr => hb.block b (by omega))⟩

set_option maxRecDepth 100000 in
set_option maxHeartbeats 400000 in
theorem pick_any (r p : Nat) (n : Int) (w : World) (h : Rd w r p) (hp : p < 1000000) (h1 : 1 ≤ n) (h2 : n ≤ 1000) :
    Calls Tryz.prog 61 #[.pointer (some ⟨r, 0, none⟩), .int .i64 n] w fun e w' =>
      ∃ k : Int, e = .returned (.int .i64 k) ∧ 0 ≤ k ∧ k < n ∧ Rd w' r (p + 1) ∧ But r w w' ∧ w'.heap.size = w.heap.size := by
  have hl := h.lt
  obtain ⟨a, m, cap, hr, hm, hB⟩ := h
  have c0 : w.cell? ⟨r, 0, none⟩ = some (.slice a m cap) := by simp [World.cell?, hr]
  have c1 : w.cell? ⟨r, 1, none⟩ = some (.int .i64 p) := by simp [World.cell?, hr]
  have f1 : w.frozen? ⟨r, 1, none⟩ = false := by simp [World.frozen?, hr]
  obtain ⟨W, HW⟩ : ∃ W, Hid (W = w.setCell ⟨r, 1, none⟩ (.int .i64 (p + 1))) := ⟨_, rfl⟩
  have g0 : W.cell? ⟨r, 0, none⟩ = some (.slice a m cap) := by
    rw [HW.out]; simp [World.cell?, World.setCell, Array.getElem?_modify, hr]
  have g1 : W.cell? ⟨r, 1, none⟩ = some (.int .i64 (p + 1)) := by
    rw [HW.out]; simp [World.cell?, World.setCell, Array.getElem?_modify, hr]
  have HB : Hid (Rd W r (p + 1) ∧ But r w W ∧ W.heap.size = w.heap.size) := by
    refine ⟨⟨a, m, cap, ?_, hm, hB.moved (fun b hb => ?_)⟩, ?_, ?_⟩
    · rw [HW.out]; simp [World.setCell, Array.getElem?_modify, hr]
    · rw [HW.out]; exact Below.heap_setCell _ _ _ _ (by simp; omega)
    · rw [HW.out]; exact But.set r w 1 _
    · rw [HW.out]; simp [World.setCell]
  have hn1 : ¬ n < 1 := by omega
  by_cases hm0 : m = 0
  · subst hm0
    go_enter Tryz.func61, Tryz.ntmps61
    go_wp2_with fail
    go_ret
    rw [← HW.out]
    exact ⟨0, rfl, by omega, by omega, HB.out⟩
  · have hm1 : ((m : Int) == 0) = false := by simpa using hm0
    rcases hB with hB | ⟨b, o, hb, rfl, hc⟩
    · exact absurd hB hm0
    by_cases hpm : p < m
    · obtain ⟨x, y0, y1, y2⟩ := hc p hpm
      go_enter Tryz.func61, Tryz.ntmps61
      go_wp2_with fail
      go_ret
      rw [← HW.out]
      exact ⟨x % n, rfl, Int.emod_nonneg _ (by omega), Int.emod_lt_of_pos _ (by omega), HB.out⟩
    · obtain ⟨x, y0, y1, y2⟩ := hc (p % m) (Nat.mod_lt _ (by omega))
      obtain ⟨z, z0, z1, z2⟩ := hc ((p * 7 + 3) % m) (Nat.mod_lt _ (by omega))
      have q0 : 0 ≤ (p : Int) % (m : Int) := Int.emod_nonneg _ (by omega)
      have q1 : (p : Int) % (m : Int) < (m : Int) := Int.emod_lt_of_pos _ (by omega)
      have q2 : 0 ≤ ((p : Int) * 7 + 3) % (m : Int) := Int.emod_nonneg _ (by omega)
      have q3 : ((p : Int) * 7 + 3) % (m : Int) < (m : Int) := Int.emod_lt_of_pos _ (by omega)
      have q4 : 0 ≤ (p : Int) / (m : Int) := Int.ediv_nonneg (by omega) (by omega)
      have q5 : (p : Int) / (m : Int) ≤ (p : Int) := Int.ediv_le_self _ (by omega)
      clear hc
      go_enter Tryz.func61, Tryz.ntmps61
      go_wp2_with fail
      go_quiet (fail)
      go_wp2_with fail
      go_ret
      rw [← HW.out]
      have hx := xor_nonneg (x * 131 + z * 1117 + (p : Int) * 29 + (p : Int) / (m : Int) * 53) ((x * 131 + z * 1117 + (p : Int) * 29 + (p : Int) / (m : Int) * 53) / 64) (by omega) (by omega) (by omega) (by omega)
      exact ⟨_, rfl, Int.tmod_nonneg n hx, Int.tmod_lt_of_pos _ (by omega), HB.out.1, HB.out.2.1.draws, HB.out.2.2⟩

/-- Numbers in a list that lies in a block. -/
def IntsAt (w : World) (v : Value) (ns : List Int) : Prop := ∃ b o cap, v = .slice (some ⟨b, o, none⟩) ns.length cap ∧ b < w.heap.size ∧ ∀ i n, ns[i]? = some n → w.cell? ⟨b, o + i, none⟩ = some (.int .i64 n)
/-- Texts in a list that lies in a block. -/
def TextsAt (w : World) (v : Value) (ss : List ByteArray) : Prop := ∃ b o cap, v = .slice (some ⟨b, o, none⟩) ss.length cap ∧ b < w.heap.size ∧ ∀ i s, ss[i]? = some s → w.cell? ⟨b, o + i, none⟩ = some (.string s)

theorem But.cell_of {r : Nat} {w w' : World} (h : But r w w') {b o : Nat} {v : Value} (hb : b < w.heap.size) (hn : b ≠ r) (hc : w.cell? ⟨b, o, none⟩ = some v) : w'.cell? ⟨b, o, none⟩ = some v := (h.cell hb hn).trans hc

set_option maxRecDepth 100000 in
set_option maxHeartbeats 400000 in
theorem of_any (r p : Nat) (b o cap : Nat) (ss : List ByteArray) (w : World) (h : Rd w r p) (hp : p < 1000000) (hb : b < w.heap.size) (hbr : b ≠ r) (hc : ∀ i s, ss[i]? = some s → w.cell? ⟨b, o + i, none⟩ = some (.string s))
    (h1 : 1 ≤ ss.length) (h2 : ss.length ≤ 1000) :
    Calls Tryz.prog 87 #[.pointer (some ⟨r, 0, none⟩), .slice (some ⟨b, o, none⟩) ss.length cap] w fun e w' =>
      ∃ s, e = .returned (.string s) ∧ s ∈ ss ∧ Rd w' r (p + 1) ∧ But r w w' ∧ w'.heap.size = w.heap.size := by
  go_enter Tryz.func87, Tryz.ntmps87
  go_wp2_with fail
  refine (pick_any r p ss.length w h hp (by omega) (by omega)).mono ?_
  rintro e w1 ⟨k, rfl, k0, k1, hr1, hb1, hz1⟩
  obtain ⟨k, rfl⟩ := Int.eq_ofNat_of_zero_le k0
  have hk : k < ss.length := by omega
  have hcell := hb1.cell_of hb hbr (hc k ss[k] (List.getElem?_eq_getElem hk))
  have HM := And.intro (List.getElem_mem hk) (And.intro hr1 (And.intro hb1 hz1))
  have HH : Hid _ := HM
  clear HM hr1 hb1 hz1 hc h hb
  generalize ss[k] = x at hcell HH
  go_wp2_with fail
  go_ret
  exact ⟨x, rfl, HH.out⟩

set_option maxRecDepth 100000 in
set_option maxHeartbeats 400000 in
theorem num_any (r p : Nat) (b o cap : Nat) (ns : List Int) (w : World) (h : Rd w r p) (hp : p < 1000000) (hb : b < w.heap.size) (hbr : b ≠ r) (hc : ∀ i n, ns[i]? = some n → w.cell? ⟨b, o + i, none⟩ = some (.int .i64 n))
    (h1 : 1 ≤ ns.length) (h2 : ns.length ≤ 1000) :
    Calls Tryz.prog 86 #[.pointer (some ⟨r, 0, none⟩), .slice (some ⟨b, o, none⟩) ns.length cap] w fun e w' =>
      ∃ n, e = .returned (.int .i64 n) ∧ n ∈ ns ∧ Rd w' r (p + 1) ∧ But r w w' ∧ w'.heap.size = w.heap.size := by
  go_enter Tryz.func86, Tryz.ntmps86
  go_wp2_with fail
  refine (pick_any r p ns.length w h hp (by omega) (by omega)).mono ?_
  rintro e w1 ⟨k, rfl, k0, k1, hr1, hb1, hz1⟩
  obtain ⟨k, rfl⟩ := Int.eq_ofNat_of_zero_le k0
  have hk : k < ns.length := by omega
  have hcell := hb1.cell_of hb hbr (hc k ns[k] (List.getElem?_eq_getElem hk))
  have HM := And.intro (List.getElem_mem hk) (And.intro hr1 (And.intro hb1 hz1))
  have HH : Hid _ := HM
  clear HM hr1 hb1 hz1 hc h hb
  generalize ns[k] = x at hcell HH
  go_wp2_with fail
  go_ret
  exact ⟨x, rfl, HH.out⟩

set_option maxRecDepth 100000 in
set_option maxHeartbeats 400000 in
theorem l11Open_any (a : Option Addr) (n cap : Nat) (w : World) (hcap : n ≤ cap) (h : BytesAt w.heap.size w a n) :
    Calls Tryz.prog 40 #[.slice a n cap] w fun e w' => e = .returned (.pointer (some ⟨w.heap.size, 0, none⟩)) ∧ Rd w' w.heap.size 0 ∧ Below w.heap.size w w' ∧ w'.heap.size = w.heap.size + 1 := by
  have hm : ∀ m : Nat, m ≤ n → m ≤ 2000 → ∀ c, Rd (w.alloc (.cells #[.slice a m c, .int .i64 0] 115)) w.heap.size 0 := by
    intro m hmn hm c
    refine ⟨a, m, c, heap_alloc_new w _, hm, ?_⟩
    rcases h with h | ⟨b, o, hb, ha, hc⟩
    · exact Or.inl (by omega)
    · exact BytesAt.moved (Or.inr ⟨b, o, hb, ha, fun i hi => hc i (by omega)⟩) (fun b hb => Below.heap_alloc _ _ _ hb)
  have HM : Hid _ := hm
  clear hm
  clear h
  by_cases hn : 2000 < n
  · have hc2 : (2000 : Int) ≤ cap := by omega
    go_enter Tryz.func40, Tryz.ntmps40
    go_wp2_with fail
    go_ret
    exact ⟨rfl, HM.out 2000 (by omega) (by omega) _, below_alloc1 _ _, by simp⟩
  · go_enter Tryz.func40, Tryz.ntmps40
    go_wp2_with fail
    go_ret
    exact ⟨rfl, HM.out n (Nat.le_refl _) (by omega) _, below_alloc1 _ _, by simp⟩
end Go.Proofs.YtmibjmipndffmaaGreatDoor

/- Blocks of plain cells. -/
namespace Go.Proofs.YtmibjmipndffmaaGreatDoor
open Go.RowKit Go.Deep
/-- A block of plain cells. -/
def Plain (w : World) (b : Nat) : Prop := ∃ c t, w.heap[b]? = some (.cells c t (0, 0))

theorem Plain.of_block {w w' : World} {b : Nat} (h : Plain w b) (e : w'.heap[b]? = w.heap[b]?) : Plain w' b := by
  obtain ⟨c, t, hc⟩ := h
  exact ⟨c, t, e.trans hc⟩

theorem plain_row {w : World} {b n : Nat} {t : TypeId} {f : Nat → Value} (h : w.rowIs b t n f) : Plain w b := by
  obtain ⟨c, hc, _⟩ := h
  exact ⟨c, t, hc⟩

def FreshP (w w' : World) (b : Nat) : Prop := Fresh w w' b ∧ Plain w' b

def AfterP (N : Nat) (w : World) (b : Nat) : Prop := After N w b ∧ Plain w b

/-- The first k things of a row that is being filled. -/
def FilledP {d : Nat} (N T n : Nat) (xs : List (Tr d)) (w : World) (k : Nat) (f : Nat → Value) : Prop :=
  w.rowIs N T n f ∧ ∀ j x, j < k → xs[j]? = some x → ValAt (AfterP N w) w d x (.agg #[f (j * 5), f (j * 5 + 1), f (j * 5 + 2), f (j * 5 + 3), f (j * 5 + 4)])

theorem FilledP.step {d N T n : Nat} {xs : List (Tr d)} {wr w1 : World} {k : Nat} {f : Nat → Value} {x : Tr d} {v0 v1 v2 v3 v4 : Value} (h : FilledP N T n xs wr k f) (hb : Below wr.heap.size wr w1)
    (hx : xs[k]? = some x) (hu : ValAt (FreshP wr w1) w1 d x (.agg #[v0, v1, v2, v3, v4])) :
    FilledP N T n xs (set5 w1 N (k * 5) v0 v1 v2 v3 v4) (k + 1) (put5 f (k * 5) v0 v1 v2 v3 v4) := by
  obtain ⟨hrow, hv⟩ := h
  have hN := hrow.lt
  have hs2 : Same (AfterP N w1) w1 (set5 w1 N (k * 5) v0 v1 v2 v3 v4) := fun b hb => set5_block _ _ _ _ _ _ _ _ _ (by have := hb.1.1; omega)
  have hA : ∀ b, AfterP N w1 b → AfterP N (set5 w1 N (k * 5) v0 v1 v2 v3 v4) b := fun b hb => ⟨⟨hb.1.1, by rw [set5_size]; exact hb.1.2⟩, hb.2.of_block (hs2 b hb)⟩
  refine ⟨rowIs_set5 (hrow.of_block (hb.block N hN)) _ _ _ _ _ _, fun j y hj hy => ?_⟩
  by_cases e : j = k
  · subst e
    rw [hx] at hy
    cases hy
    obtain ⟨p0, p1, p2, p3, p4⟩ := put5_at f (j * 5) v0 v1 v2 v3 v4
    rw [p0, p1, p2, p3, p4]
    refine ValAt.moved hs2 hA d x _ (hu.mono (fun b hb => ⟨⟨?_, hb.1.2⟩, hb.2⟩))
    have := hb.1.1
    omega
  · rw [put5_off _ _ _ _ _ _ _ _ (by omega), put5_off _ _ _ _ _ _ _ _ (by omega), put5_off _ _ _ _ _ _ _ _ (by omega), put5_off _ _ _ _ _ _ _ _ (by omega), put5_off _ _ _ _ _ _ _ _ (by omega)]
    have h1 := hv j y (by omega) hy
    have h2 : ValAt (AfterP N w1) w1 d y (.agg #[f (j * 5), f (j * 5 + 1), f (j * 5 + 2), f (j * 5 + 3), f (j * 5 + 4)]) :=
      ValAt.moved (fun b hS => hb.block b hS.1.2) (fun b hS => ⟨⟨hS.1.1, Nat.lt_of_lt_of_le hS.1.2 hb.size⟩, hS.2.of_block (hb.block b hS.1.2)⟩) d y _ h1
    exact ValAt.moved hs2 hA d y _ h2
end Go.Proofs.YtmibjmipndffmaaGreatDoor

/- Drawn trees: leaves. -/
namespace Go.Proofs.YtmibjmipndffmaaGreatDoor
open Go.RowKit Go.Deep

/-- A tree whose keys may be written behind their end: the parts lie elsewhere. -/
def KeyTop (N : Nat) (S : Nat → Prop) (w : World) : (d : Nat) → Tr d → Value → Prop
  | 0, _, _ => False
  | d + 1, t, u => ∃ kv lv, u = .agg #[.int .i64 (Nd.kind t), .int .i64 (Nd.num t), .string (Nd.str t), kv, lv] ∧ I64 (Nd.kind t) ∧ I64 (Nd.num t) ∧ (Nd.str t).size < 281474976710656 ∧ (∀ s ∈ Nd.keys t, s.size < 281474976710656) ∧ (Nd.keys t).length < 1000 ∧
      w.ownsRow N 9 1 kv (Nd.keys t).length ((Nd.keys t).map Value.string) ∧ (∀ b, kv.ownBlock = some b → S b) ∧ RowAt (fun b => S b ∧ kv.ownBlock ≠ some b) w (ValAt (fun b => S b ∧ kv.ownBlock ≠ some b) w d) lv (Nd.list t)
theorem owns_moved {w w' : World} {N N' : Nat} {e : TypeId} {size n : Nat} {v : Value} {xs : List Value} (h : w.ownsRow N e size v n xs) (ho : ∀ g, v.ownBlock = some g → w'.heap[g]? = w.heap[g]?) (hN : N' ≤ N) : w'.ownsRow N' e size v n xs := by
  refine ⟨h.1, ?_⟩
  rcases h.2 with h | ⟨g, cap, cur, hv, hg, hh, hrest⟩
  · exact Or.inl h
  · exact Or.inr ⟨g, cap, cur, hv, Nat.le_trans hN hg, (ho g (by rw [hv]; rfl)).trans hh, hrest⟩
theorem KeyTop.moved {N N' : Nat} {S S' : Nat → Prop} {w w' : World} {d : Nat} {t : Tr d} {u : Value} (h : KeyTop N S w d t u) (hs : Same S w w') (hS : ∀ b, S b → S' b) (hN : N' ≤ N) : KeyTop N' S' w' d t u := by
  cases d with
  | zero => exact h.elim
  | succ d =>
    obtain ⟨kv, lv, hu, i1, i2, i3, hk, hkl, ho, hob, hl⟩ := h
    exact ⟨kv, lv, hu, i1, i2, i3, hk, hkl, owns_moved ho (fun g hg => hs g (hob g hg)) hN, fun b hb => hS b (hob b hb), hl.moved (fun b hb => hs b hb.1) (fun b hb => ⟨hS b hb.1, hb.2⟩) (fun x u hx => ValAt.moved (fun b hb => hs b hb.1) (fun b hb => ⟨hS b hb.1, hb.2⟩) d x u hx)⟩
theorem strs_of_owns {N : Nat} {S : Nat → Prop} {w : World} {kv : Value} {ks : List ByteArray} (h : w.ownsRow N 9 1 kv ks.length (ks.map Value.string)) (hk : ∀ s ∈ ks, s.size < 281474976710656) (hkl : ks.length < 1000) (hob : ∀ b, kv.ownBlock = some b → S b) : StrsAt S w kv ks := by
  refine ⟨by omega, hk, ?_⟩
  rcases h.2 with ⟨e, h0⟩ | ⟨g, cap, cur, e, hg, hh, _⟩
  · exact ⟨none, 0, by rw [e, h0], Or.inl (List.eq_nil_of_length_eq_zero h0)⟩
  · refine ⟨some ⟨g, 0, none⟩, cap, e, Or.inr ⟨g, 0, hob g (by rw [e]; rfl), rfl, fun i s hs => ?_⟩⟩
    have hi := (List.getElem?_eq_some_iff.1 hs).1
    rw [e] at h
    rw [Nat.zero_add]
    exact (h.cellAt i (by omega)).trans (by rw [List.getElem?_map, hs]; rfl)
theorem KeyTop.at {N : Nat} {S : Nat → Prop} {w : World} {d : Nat} {t : Tr d} {u : Value} (h : KeyTop N S w d t u) : ValAt S w d t u := by
  cases d with
  | zero => exact h.elim
  | succ d =>
    obtain ⟨kv, lv, hu, i1, i2, i3, hk, hkl, ho, hob, hl⟩ := h
    exact ⟨kv, lv, hu, i1, i2, i3, strs_of_owns ho hk hkl hob, hl.moved (Same.refl _ _) (fun b hb => hb.1) (fun x u hx => ValAt.moved (Same.refl _ _) (fun b hb => hb.1) d x u hx)⟩

/-- What a drawing function tells: a tree in new memory, not too great; the reader has gone on by at most c places. -/
def Drawn (r p c : Nat) (d B : Nat) (w : World) (e : Ending) (w' : World) : Prop :=
  ∃ u t p', e = .returned u ∧ KeyTop w.heap.size (FreshP w w') w' d t u ∧ wtT d t ≤ B ∧ Rd w' r p' ∧ p' ≤ p + c ∧ But r w w'

/-- A tree without parts. -/
def bareT (d : Nat) (k n : Int) (s : ByteArray) : Tr (d + 1) := { kind := k, num := n, str := s, keys := [], list := [] }
theorem bareT_at (S : Nat → Prop) (w : World) (d : Nat) (k n : Int) (s : ByteArray) (hk : I64 k) (hn : I64 n) (hs : s.size < 281474976710656) :
    ValAt S w (d + 1) (bareT d k n s) (.agg #[.int .i64 k, .int .i64 n, .string s, .slice none 0 0, .slice none 0 0]) :=
  ⟨_, _, rfl, hk, hn, hs, ⟨by show (0 : Nat) < _; omega, (fun s hs => by cases hs), none, 0, rfl, Or.inl rfl⟩, ⟨by show (0 : Nat) < _; omega, none, 0, rfl, Or.inl rfl⟩⟩
theorem bareT_key (N : Nat) (S : Nat → Prop) (w : World) (d : Nat) (k n : Int) (s : ByteArray) (hk : I64 k) (hn : I64 n) (hs : s.size < 281474976710656) :
    KeyTop N S w (d + 1) (bareT d k n s) (.agg #[.int .i64 k, .int .i64 n, .string s, .slice none 0 0, .slice none 0 0]) :=
  ⟨_, _, rfl, hk, hn, hs, (fun s hs => by cases hs), by show (0 : Nat) < _; omega, ⟨rfl, Or.inl ⟨rfl, rfl⟩⟩, (fun b hb => by cases hb), ⟨by show (0 : Nat) < _; omega, none, 0, rfl, Or.inl rfl⟩⟩
theorem bareT_wt (d : Nat) (k n : Int) (s : ByteArray) : wtT (d + 1) (bareT d k n s) ≤ 3 := by simp [wtT, bareT]

theorem cell_of_cells {w : World} {b j : Nat} {cs : Array Value} {T : TypeId} (h : w.heap[b]? = some (.cells cs T (0, 0))) : w.cell? ⟨b, j, none⟩ = cs[j]? := by simp [World.cell?, h]
theorem texts_new (w : World) (T : TypeId) (ss : List ByteArray) (i : Nat) (s : ByteArray) (h : ss[i]? = some s) : (w.alloc (.cells (ss.map Value.string).toArray T)).cell? ⟨w.heap.size, 0 + i, none⟩ = some (.string s) := by
  rw [cell_of_cells (heap_alloc_new w _)]
  simp [h]
theorem ints_new (w : World) (T : TypeId) (ns : List Int) (i : Nat) (n : Int) (h : ns[i]? = some n) : (w.alloc (.cells (ns.map (Value.int .i64)).toArray T)).cell? ⟨w.heap.size, 0 + i, none⟩ = some (.int .i64 n) := by
  rw [cell_of_cells (heap_alloc_new w _)]
  simp [h]

def leafNums : List Int := [0, 1, 2, 3, -1, 7, 1000000]
def leafTexts : List ByteArray := [⟨#[]⟩, ⟨#[97]⟩, ⟨#[98]⟩, ⟨#[97, 98]⟩, ⟨#[122, 122]⟩, ⟨#[97, 98, 99, 100, 101, 102, 103, 104, 105, 106, 107, 108]⟩]

/-- New blocks of plain cells, but for the first one. -/
def FreshQ (w w' : World) (b : Nat) : Prop := w.heap.size < b ∧ b < w'.heap.size ∧ Plain w' b

theorem plain_set5 {w : World} {b k i : Nat} {v0 v1 v2 v3 v4 : Value} (h : Plain w k) (hk : k ≠ b) : Plain (set5 w b i v0 v1 v2 v3 v4) k := h.of_block (set5_block w b i v0 v1 v2 v3 v4 k hk)

/-- What was drawn is put into the result's own cells. -/
theorem drawn_end {r p p' c d B : Nat} {w wX : World} {t : Tr d} {v0 v1 v2 v3 v4 : Value} (hv : KeyTop (w.heap.size + 1) (FreshQ w wX) wX d t (.agg #[v0, v1, v2, v3, v4])) (hB : wtT d t ≤ B) (hR : Rd wX r p') (hp : p' ≤ p + c) (hb : But r w wX) (hr : r < w.heap.size) (_hx : w.heap.size < wX.heap.size) :
    ∀ wF, wF = set5 wX w.heap.size 0 v0 v1 v2 v3 v4 → Drawn r p c d B w (.returned (.agg #[v0, v1, v2, v3, v4])) wF := by
  intro wF hF
  have hs : ∀ b, b ≠ w.heap.size → wF.heap[b]? = wX.heap[b]? := fun b hb' => by rw [hF]; exact set5_block _ _ _ _ _ _ _ _ _ hb'
  have hz : wF.heap.size = wX.heap.size := by rw [hF]; exact set5_size _ _ _ _ _ _ _ _
  have hl : Below w.heap.size wX wF := by rw [hF]; exact below_set5 (Below.refl _ _) (Nat.le_refl _) _ _ _ _ _ _
  refine ⟨_, t, p', rfl, hv.moved (fun b hb' => hs b (by have := hb'.1; omega)) (fun b hb' => ?_) (by omega), hB, ?_, hp, ⟨hl.os.trans hb.os, hl.tape.trans hb.tape, hl.output.trans hb.output, by rw [hz]; exact hb.size, fun b hb1 hb2 => (hs b (by omega)).trans (hb.block b hb1 hb2)⟩⟩
  · exact ⟨⟨Nat.le_of_lt hb'.1, by rw [hz]; exact hb'.2.1⟩, hb'.2.2.of_block (hs b (by have := hb'.1; omega))⟩
  · obtain ⟨a, n, cap, h1, h2, h3⟩ := hR
    exact ⟨a, n, cap, (hs r (by omega)).trans h1, h2, h3.moved (fun b hb' => hs b (by omega))⟩

/-- The result's own cells, as they are made. -/
theorem res_new (w : World) : Blk5 (w.alloc (.cells #[.int .i64 0, .int .i64 0, .string { data := #[] }, .slice none 0 0, .slice none 0 0] 26)) w.heap.size 26 (.int .i64 0) (.int .i64 0) (.string { data := #[] }) (.slice none 0 0) (.slice none 0 0) := Blk5.new w _ _ _ _ _ _
theorem Blk5.butr {w w' : World} {r b : Nat} {T : TypeId} {c0 c1 c2 c3 c4 : Value} (h : Blk5 w b T c0 c1 c2 c3 c4) (hb : But r w w') (hn : b ≠ r) : Blk5 w' b T c0 c1 c2 c3 c4 := h.of_block (hb.block b h.lt (fun e => hn (by cases e; rfl)))

set_option maxRecDepth 100000 in
set_option maxHeartbeats 1000000 in
theorem l1Leaf_any (d r p : Nat) (w : World) (h : Rd w r p) (hp : p + 2 ≤ 1000000) :
    Calls Tryz.prog 114 #[.pointer (some ⟨r, 0, none⟩)] w (Drawn r p 2 (d + 1) 3 w) := by
  have hr := h.lt
  have hb0 := below_alloc1 w (.cells #[.int .i64 0, .int .i64 0, .string { data := #[] }, .slice none 0 0, .slice none 0 0] 26)
  have kr := res_new w
  have hR0 := h.below hb0
  obtain ⟨W0, HW⟩ : ∃ W0, Hid (W0 = w.alloc (.cells #[.int .i64 0, .int .i64 0, .string { data := #[] }, .slice none 0 0, .slice none 0 0] 26)) := ⟨_, rfl⟩
  have hz0 : W0.heap.size = w.heap.size + 1 := by rw [HW.out]; simp
  rw [← HW.out] at hb0 kr hR0
  go_enter Tryz.func114, Tryz.ntmps114
  go_wp2_with fail
  rw [← HW.out]
  refine (pick_any r p 8 W0 hR0 (by omega) (by omega) (by omega)).mono ?_
  rintro e w1 ⟨k, rfl, k0, k1, h1, b1, z1⟩
  clear h hR0
  replace kr := kr.butr b1 (by omega)
  have hB1 := (But.of_below hb0).trans b1
  have hz1 : w.heap.size < w1.heap.size := by omega
  have hk : k = 0 ∨ k = 1 ∨ k = 2 ∨ k = 3 ∨ k = 4 ∨ k = 5 ∨ k = 6 ∨ k = 7 := by omega
  clear k0 k1 HW hb0 z1 hz0 b1
  rcases hk with rfl | rfl | rfl | rfl | rfl | rfl | rfl | rfl
  case inl =>
    go_wp2_with fail
    refine (pick_any r (p + 1) 3 w1 h1 (by omega) (by omega) (by omega)).mono ?_
    rintro e w2 ⟨k, rfl, k0, k1, h2, b2, z2⟩
    replace kr := kr.butr b2 (by omega)
    have hB2 := hB1.trans b2
    have HF := hide (drawn_end (c := 2) (p := p) (bareT_key (w.heap.size + 1) (FreshQ w w2) w2 d k 0 ⟨#[]⟩ ⟨by omega, by omega⟩ ⟨by omega, by omega⟩ (by show (0 : Nat) < _; omega)) (bareT_wt d k 0 _) h2 (by omega) hB2 hr (by omega))
    obtain ⟨y0, y1, y2, y3, y4⟩ := kr.cell
    have yf := kr.frozen
    clear kr h2 hB2 b2 h1
    go_wp2_with fail
    exact bodyPost_ret (v := .agg #[.int .i64 k, .int .i64 0, .string { data := #[] }, .slice none 0 0, .slice none 0 0]) (by simp [results, Tryz.results114, go_sem, y0, y1, y2, y3, y4]) rfl (HF.out _ rfl)
  case inr.inr.inr.inl =>
    go_wp2_with fail
    refine (pick_any r (p + 1) 2 w1 h1 (by omega) (by omega) (by omega)).mono ?_
    rintro e w2 ⟨k, rfl, k0, k1, h2, b2, z2⟩
    replace kr := kr.butr b2 (by omega)
    have hB2 := hB1.trans b2
    have HF := hide (drawn_end (c := 2) (p := p) (bareT_key (w.heap.size + 1) (FreshQ w w2) w2 d (5 + k) 0 ⟨#[]⟩ ⟨by omega, by omega⟩ ⟨by omega, by omega⟩ (by show (0 : Nat) < _; omega)) (bareT_wt d (5 + k) 0 _) h2 (by omega) hB2 hr (by omega))
    obtain ⟨y0, y1, y2, y3, y4⟩ := kr.cell
    have yf := kr.frozen
    clear kr h2 hB2 b2 h1
    go_wp2_with fail
    exact bodyPost_ret (v := .agg #[.int .i64 (5 + k), .int .i64 0, .string { data := #[] }, .slice none 0 0, .slice none 0 0]) (by simp [results, Tryz.results114, go_sem, y0, y1, y2, y3, y4]) rfl (HF.out _ rfl)
  case inr.inl =>
    go_wp2_with fail
    have ha := below_alloc1 w1 (.cells (leafTexts.map Value.string).toArray 9)
    have hza : (w1.alloc (.cells (leafTexts.map Value.string).toArray 9)).heap.size = w1.heap.size + 1 := by simp
    refine (of_any r (p + 1) w1.heap.size 0 6 leafTexts (w1.alloc (.cells (leafTexts.map Value.string).toArray 9)) (h1.below ha) (by omega) (by omega) (by have := h1.lt; omega) (texts_new w1 9 leafTexts) (by decide) (by decide)).mono ?_
    rintro e w2 ⟨x, rfl, hx, h2, b2, z2⟩
    replace kr := (kr.below ha).butr b2 (by omega)
    have hB2 := (hB1.trans (But.of_below ha)).trans b2
    have hxs : x.size < 281474976710656 := by
      have : ∀ y ∈ leafTexts, y.size ≤ 12 := by decide
      have := this x hx
      omega
    have HF := hide (drawn_end (c := 2) (p := p) (bareT_key (w.heap.size + 1) (FreshQ w w2) w2 d 4 0 x ⟨by omega, by omega⟩ ⟨by omega, by omega⟩ hxs) (bareT_wt d 4 0 _) h2 (by omega) hB2 hr (by omega))
    obtain ⟨y0, y1, y2, y3, y4⟩ := kr.cell
    have yf := kr.frozen
    clear kr h2 hB2 b2 h1 ha hza hx hxs
    go_wp2_with fail
    exact bodyPost_ret (v := .agg #[.int .i64 4, .int .i64 0, .string x, .slice none 0 0, .slice none 0 0]) (by simp [results, Tryz.results114, go_sem, y0, y1, y2, y3, y4]) rfl (HF.out _ rfl)
  case inr.inr.inl =>
    go_wp2_with fail
    have ha := below_alloc1 w1 (.cells (leafTexts.map Value.string).toArray 9)
    have hza : (w1.alloc (.cells (leafTexts.map Value.string).toArray 9)).heap.size = w1.heap.size + 1 := by simp
    refine (of_any r (p + 1) w1.heap.size 0 6 leafTexts (w1.alloc (.cells (leafTexts.map Value.string).toArray 9)) (h1.below ha) (by omega) (by omega) (by have := h1.lt; omega) (texts_new w1 9 leafTexts) (by decide) (by decide)).mono ?_
    rintro e w2 ⟨x, rfl, hx, h2, b2, z2⟩
    replace kr := (kr.below ha).butr b2 (by omega)
    have hB2 := (hB1.trans (But.of_below ha)).trans b2
    have hxs : x.size < 281474976710656 := by
      have : ∀ y ∈ leafTexts, y.size ≤ 12 := by decide
      have := this x hx
      omega
    have HF := hide (drawn_end (c := 2) (p := p) (bareT_key (w.heap.size + 1) (FreshQ w w2) w2 d 4 0 x ⟨by omega, by omega⟩ ⟨by omega, by omega⟩ hxs) (bareT_wt d 4 0 _) h2 (by omega) hB2 hr (by omega))
    obtain ⟨y0, y1, y2, y3, y4⟩ := kr.cell
    have yf := kr.frozen
    clear kr h2 hB2 b2 h1 ha hza hx hxs
    go_wp2_with fail
    exact bodyPost_ret (v := .agg #[.int .i64 4, .int .i64 0, .string x, .slice none 0 0, .slice none 0 0]) (by simp [results, Tryz.results114, go_sem, y0, y1, y2, y3, y4]) rfl (HF.out _ rfl)
  case inr.inr.inr.inr.inl =>
    go_wp2_with fail
    have ha := below_alloc1 w1 (.cells (leafNums.map (Value.int .i64)).toArray 3)
    have hza : (w1.alloc (.cells (leafNums.map (Value.int .i64)).toArray 3)).heap.size = w1.heap.size + 1 := by simp
    refine (num_any r (p + 1) w1.heap.size 0 7 leafNums (w1.alloc (.cells (leafNums.map (Value.int .i64)).toArray 3)) (h1.below ha) (by omega) (by omega) (by have := h1.lt; omega) (ints_new w1 3 leafNums) (by decide) (by decide)).mono ?_
    rintro e w2 ⟨x, rfl, hx, h2, b2, z2⟩
    replace kr := (kr.below ha).butr b2 (by omega)
    have hB2 := (hB1.trans (But.of_below ha)).trans b2
    have hxs : I64 x := by
      have : ∀ y ∈ leafNums, -1 ≤ y ∧ y ≤ 1000000 := by decide
      have := this x hx
      exact ⟨by omega, by omega⟩
    have HF := hide (drawn_end (c := 2) (p := p) (bareT_key (w.heap.size + 1) (FreshQ w w2) w2 d 3 x ⟨#[]⟩ ⟨by omega, by omega⟩ hxs (by show (0 : Nat) < _; omega)) (bareT_wt d 3 x _) h2 (by omega) hB2 hr (by omega))
    obtain ⟨y0, y1, y2, y3, y4⟩ := kr.cell
    have yf := kr.frozen
    clear kr h2 hB2 b2 h1 ha hza hx hxs
    go_wp2_with fail
    exact bodyPost_ret (v := .agg #[.int .i64 3, .int .i64 x, .string { data := #[] }, .slice none 0 0, .slice none 0 0]) (by simp [results, Tryz.results114, go_sem, y0, y1, y2, y3, y4]) rfl (HF.out _ rfl)
  case inr.inr.inr.inr.inr.inl =>
    go_wp2_with fail
    have ha := below_alloc1 w1 (.cells (leafNums.map (Value.int .i64)).toArray 3)
    have hza : (w1.alloc (.cells (leafNums.map (Value.int .i64)).toArray 3)).heap.size = w1.heap.size + 1 := by simp
    refine (num_any r (p + 1) w1.heap.size 0 7 leafNums (w1.alloc (.cells (leafNums.map (Value.int .i64)).toArray 3)) (h1.below ha) (by omega) (by omega) (by have := h1.lt; omega) (ints_new w1 3 leafNums) (by decide) (by decide)).mono ?_
    rintro e w2 ⟨x, rfl, hx, h2, b2, z2⟩
    replace kr := (kr.below ha).butr b2 (by omega)
    have hB2 := (hB1.trans (But.of_below ha)).trans b2
    have hxs : I64 x := by
      have : ∀ y ∈ leafNums, -1 ≤ y ∧ y ≤ 1000000 := by decide
      have := this x hx
      exact ⟨by omega, by omega⟩
    have HF := hide (drawn_end (c := 2) (p := p) (bareT_key (w.heap.size + 1) (FreshQ w w2) w2 d 3 x ⟨#[]⟩ ⟨by omega, by omega⟩ hxs (by show (0 : Nat) < _; omega)) (bareT_wt d 3 x _) h2 (by omega) hB2 hr (by omega))
    obtain ⟨y0, y1, y2, y3, y4⟩ := kr.cell
    have yf := kr.frozen
    clear kr h2 hB2 b2 h1 ha hza hx hxs
    go_wp2_with fail
    exact bodyPost_ret (v := .agg #[.int .i64 3, .int .i64 x, .string { data := #[] }, .slice none 0 0, .slice none 0 0]) (by simp [results, Tryz.results114, go_sem, y0, y1, y2, y3, y4]) rfl (HF.out _ rfl)
  case inr.inr.inr.inr.inr.inr.inl =>
    go_wp2_with fail
    have ha := below_alloc1 w1 (.cells (leafNums.map (Value.int .i64)).toArray 3)
    have hza : (w1.alloc (.cells (leafNums.map (Value.int .i64)).toArray 3)).heap.size = w1.heap.size + 1 := by simp
    refine (num_any r (p + 1) w1.heap.size 0 7 leafNums (w1.alloc (.cells (leafNums.map (Value.int .i64)).toArray 3)) (h1.below ha) (by omega) (by omega) (by have := h1.lt; omega) (ints_new w1 3 leafNums) (by decide) (by decide)).mono ?_
    rintro e w2 ⟨x, rfl, hx, h2, b2, z2⟩
    replace kr := (kr.below ha).butr b2 (by omega)
    have hB2 := (hB1.trans (But.of_below ha)).trans b2
    have hxs : I64 x := by
      have : ∀ y ∈ leafNums, -1 ≤ y ∧ y ≤ 1000000 := by decide
      have := this x hx
      exact ⟨by omega, by omega⟩
    have HF := hide (drawn_end (c := 2) (p := p) (bareT_key (w.heap.size + 1) (FreshQ w w2) w2 d 3 x ⟨#[]⟩ ⟨by omega, by omega⟩ hxs (by show (0 : Nat) < _; omega)) (bareT_wt d 3 x _) h2 (by omega) hB2 hr (by omega))
    obtain ⟨y0, y1, y2, y3, y4⟩ := kr.cell
    have yf := kr.frozen
    clear kr h2 hB2 b2 h1 ha hza hx hxs
    go_wp2_with fail
    exact bodyPost_ret (v := .agg #[.int .i64 3, .int .i64 x, .string { data := #[] }, .slice none 0 0, .slice none 0 0]) (by simp [results, Tryz.results114, go_sem, y0, y1, y2, y3, y4]) rfl (HF.out _ rfl)
  case inr.inr.inr.inr.inr.inr.inr =>
    go_wp2_with fail
    have ha := below_alloc1 w1 (.cells (leafNums.map (Value.int .i64)).toArray 3)
    have hza : (w1.alloc (.cells (leafNums.map (Value.int .i64)).toArray 3)).heap.size = w1.heap.size + 1 := by simp
    refine (num_any r (p + 1) w1.heap.size 0 7 leafNums (w1.alloc (.cells (leafNums.map (Value.int .i64)).toArray 3)) (h1.below ha) (by omega) (by omega) (by have := h1.lt; omega) (ints_new w1 3 leafNums) (by decide) (by decide)).mono ?_
    rintro e w2 ⟨x, rfl, hx, h2, b2, z2⟩
    replace kr := (kr.below ha).butr b2 (by omega)
    have hB2 := (hB1.trans (But.of_below ha)).trans b2
    have hxs : I64 x := by
      have : ∀ y ∈ leafNums, -1 ≤ y ∧ y ≤ 1000000 := by decide
      have := this x hx
      exact ⟨by omega, by omega⟩
    have HF := hide (drawn_end (c := 2) (p := p) (bareT_key (w.heap.size + 1) (FreshQ w w2) w2 d 3 x ⟨#[]⟩ ⟨by omega, by omega⟩ hxs (by show (0 : Nat) < _; omega)) (bareT_wt d 3 x _) h2 (by omega) hB2 hr (by omega))
    obtain ⟨y0, y1, y2, y3, y4⟩ := kr.cell
    have yf := kr.frozen
    clear kr h2 hB2 b2 h1 ha hza hx hxs
    go_wp2_with fail
    exact bodyPost_ret (v := .agg #[.int .i64 3, .int .i64 x, .string { data := #[] }, .slice none 0 0, .slice none 0 0]) (by simp [results, Tryz.results114, go_sem, y0, y1, y2, y3, y4]) rfl (HF.out _ rfl)
end Go.Proofs.YtmibjmipndffmaaGreatDoor

/- Drawn trees: a tree whose keys and parts are being made. -/
namespace Go.Proofs.YtmibjmipndffmaaGreatDoor
open Go.RowKit Go.Deep

/-- Blocks from N on that are plain and neither the keys' nor the list's own. -/
def InD (N : Nat) (w : World) (kv lv : Value) (b : Nat) : Prop := N ≤ b ∧ b < w.heap.size ∧ Plain w b ∧ kv.ownBlock ≠ some b ∧ lv.ownBlock ≠ some b

/-- What stands while a tree is drawn: its variable at block vb, keys and parts so far. -/
structure DTo {d : Nat} (N vb r : Nat) (kind : Int) (w : World) (kv lv : Value) (ks : List ByteArray) (xs : List (Tr d)) (vs : List Value) : Prop where
  out : Blk5 w vb 26 (.int .i64 kind) (.int .i64 0) (.string { data := #[] }) kv lv
  kown : w.ownsRow N 9 1 kv ks.length (ks.map Value.string)
  vown : w.ownsRow N 26 5 lv xs.length vs
  apart : ∀ g, kv.ownBlock = some g → lv.ownBlock ≠ some g
  trees : ∀ (j : Nat) (x : Tr d), xs[j]? = some x → ∃ c0 c1 c2 c3 c4, vs[j * 5]? = some c0 ∧ vs[j * 5 + 1]? = some c1 ∧ vs[j * 5 + 2]? = some c2 ∧ vs[j * 5 + 3]? = some c3 ∧ vs[j * 5 + 4]? = some c4 ∧ ValAt (InD N w kv lv) w d x (.agg #[c0, c1, c2, c3, c4])
  vbN : vb < N
  rN : r < N
  rv : vb ≠ r
  NS : N ≤ w.heap.size

theorem DTo.moved {d N vb r : Nat} {kind : Int} {w w' : World} {kv lv : Value} {ks : List ByteArray} {xs : List (Tr d)} {vs : List Value} (h : DTo N vb r kind w kv lv ks xs vs) (hb : But r w w') : DTo N vb r kind w' kv lv ks xs vs := by
  have hN := h.rN
  have hS := h.NS
  have hz : w.heap.size ≤ w'.heap.size := hb.size
  have hbl : ∀ b, N ≤ b → b < w.heap.size → w'.heap[b]? = w.heap[b]? := fun b h1 h2 => hb.block b h2 (fun e => by cases e; omega)
  refine ⟨h.out.butr hb h.rv, owns_moved h.kown (fun g hg => ?_) (Nat.le_refl _), owns_moved h.vown (fun g hg => ?_) (Nat.le_refl _), h.apart, fun j x hx => ?_, h.vbN, hN, h.rv, by omega⟩
  · have := h.kown.lt g hg; exact hbl g this.1 this.2
  · have := h.vown.lt g hg; exact hbl g this.1 this.2
  · obtain ⟨c0, c1, c2, c3, c4, e0, e1, e2, e3, e4, hv⟩ := h.trees j x hx
    exact ⟨c0, c1, c2, c3, c4, e0, e1, e2, e3, e4, ValAt.moved (fun b hb' => hbl b hb'.1 hb'.2.1) (fun b hb' => ⟨hb'.1, by have := hb'.2.1; omega, hb'.2.2.1.of_block (hbl b hb'.1 hb'.2.1), hb'.2.2.2⟩) d x _ hv⟩

theorem Blk5.set0 {w : World} {b : Nat} {T : TypeId} {c0 c1 c2 c3 c4 : Value} (h : Blk5 w b T c0 c1 c2 c3 c4) (u : Value) : Blk5 (w.setCell ⟨b, 0, none⟩ u) b T u c1 c2 c3 c4 := by
  unfold Blk5 at h ⊢
  simp [World.setCell, Array.getElem?_modify, h]
/-- A tree of nothing yet. -/
theorem DTo.start {d vb r : Nat} {kind : Int} {w : World} (h : Blk5 w vb 26 (.int .i64 kind) (.int .i64 0) (.string { data := #[] }) (.slice none 0 0) (.slice none 0 0)) (hr : r < w.heap.size) (hv : vb ≠ r) : DTo (d := d) w.heap.size vb r kind w (.slice none 0 0) (.slice none 0 0) [] [] [] :=
  ⟨h, ⟨rfl, Or.inl ⟨rfl, rfl⟩⟩, ⟨rfl, Or.inl ⟨rfl, rfl⟩⟩, fun g hg => (by cases hg), fun j x hx => (by simp at hx), h.lt, hr, hv, Nat.le_refl _⟩
/-- A key more. -/
theorem DTo.key {d N vb r : Nat} {kind : Int} {w1 w2 : World} {kv lv kv' : Value} {ks : List ByteArray} {xs : List (Tr d)} {vs : List Value} {s : ByteArray} {o : Obj} (h : DTo N vb r kind w1 kv lv ks xs vs)
    (hown : w2.ownsRow N 9 1 kv' (ks.length + 1) (ks.map Value.string ++ [.string s])) (hg : (w1.alloc o).grownBy w2 kv.ownBlock) (hw : kv'.ownBlock = kv.ownBlock ∨ kv'.ownBlock = some (w1.alloc o).heap.size) :
    DTo N vb r kind (w2.setCell ⟨vb, 3, none⟩ kv') kv' lv (ks ++ [s]) xs vs := by
  have hN := h.vbN
  have hS := h.NS
  have hz1 : (w1.alloc o).heap.size = w1.heap.size + 1 := by simp
  have hz : w1.heap.size + 1 ≤ w2.heap.size := by have := hg.size; omega
  have hz3 : (w2.setCell ⟨vb, 3, none⟩ kv').heap.size = w2.heap.size := by simp [World.setCell]
  have hbl : ∀ b, b < w1.heap.size → kv.ownBlock ≠ some b → w2.heap[b]? = w1.heap[b]? := fun b h1 h2 => (hg.block b (by omega) (fun e => h2 e.symm)).trans (Below.heap_alloc _ _ _ h1)
  have hbl3 : ∀ b, N ≤ b → b < w1.heap.size → kv.ownBlock ≠ some b → (w2.setCell ⟨vb, 3, none⟩ kv').heap[b]? = w1.heap[b]? := fun b h0 h1 h2 => (Below.heap_setCell _ _ _ _ (by show b ≠ vb; omega)).trans (hbl b h1 h2)
  have hvb : vb < w1.heap.size := h.out.lt
  have hout : Blk5 w2 vb 26 (.int .i64 kind) (.int .i64 0) (.string { data := #[] }) kv lv := h.out.of_block (hbl vb hvb (fun e => by have := (h.kown.lt vb e).1; omega))
  refine ⟨hout.set3 _, ?_, owns_moved h.vown (fun g hg' => ?_) (Nat.le_refl _), fun g hk => ?_, fun j x hx => ?_, hN, h.rN, h.rv, by rw [hz3]; omega⟩
  · rw [List.length_append, List.map_append]
    exact owns_moved hown (fun g hg' => Below.heap_setCell _ _ _ _ (by have := (hown.lt g hg').1; show g ≠ vb; omega)) (Nat.le_refl _)
  · have := h.vown.lt g hg'
    exact hbl3 g this.1 this.2 (fun e => h.apart g e hg')
  · rcases hw with hw | hw
    · exact h.apart g (hw.symm.trans hk)
    · intro hl
      have := (h.vown.lt g hl).2
      have he := hw.symm.trans hk
      rw [hz1] at he
      cases he
      omega
  · obtain ⟨c0, c1, c2, c3, c4, e0, e1, e2, e3, e4, hv⟩ := h.trees j x hx
    refine ⟨c0, c1, c2, c3, c4, e0, e1, e2, e3, e4, ValAt.moved (fun b hb' => hbl3 b hb'.1 hb'.2.1 hb'.2.2.2.1) (fun b hb' => ⟨hb'.1, by rw [hz3]; have := hb'.2.1; omega, hb'.2.2.1.of_block (hbl3 b hb'.1 hb'.2.1 hb'.2.2.2.1), ?_, hb'.2.2.2.2⟩) d x _ hv⟩
    rcases hw with hw | hw
    · rw [hw]; exact hb'.2.2.2.1
    · rw [hw, hz1]
      intro he
      cases he
      have := hb'.2.1
      omega

/-- A part more. -/
theorem DTo.tree {d N vb r : Nat} {kind : Int} {w1 w2 : World} {kv lv lv' : Value} {ks : List ByteArray} {xs : List (Tr d)} {vs : List Value} {x : Tr d} {v0 v1 v2 v3 v4 : Value} {o : Obj} (h : DTo N vb r kind w1 kv lv ks xs vs)
    (hx : ValAt (InD N w1 kv lv) w1 d x (.agg #[v0, v1, v2, v3, v4]))
    (hown : w2.ownsRow N 26 5 lv' (xs.length + 1) (vs ++ [v0, v1, v2, v3, v4])) (hg : (w1.alloc o).grownBy w2 lv.ownBlock) (hw : lv'.ownBlock = lv.ownBlock ∨ lv'.ownBlock = some (w1.alloc o).heap.size) :
    DTo N vb r kind (w2.setCell ⟨vb, 4, none⟩ lv') kv lv' ks (xs ++ [x]) (vs ++ [v0, v1, v2, v3, v4]) := by
  have hN := h.vbN
  have hS := h.NS
  have hz1 : (w1.alloc o).heap.size = w1.heap.size + 1 := by simp
  have hz : w1.heap.size + 1 ≤ w2.heap.size := by have := hg.size; omega
  have hz3 : (w2.setCell ⟨vb, 4, none⟩ lv').heap.size = w2.heap.size := by simp [World.setCell]
  have hbl : ∀ b, b < w1.heap.size → lv.ownBlock ≠ some b → w2.heap[b]? = w1.heap[b]? := fun b h1 h2 => (hg.block b (by omega) (fun e => h2 e.symm)).trans (Below.heap_alloc _ _ _ h1)
  have hbl3 : ∀ b, N ≤ b → b < w1.heap.size → lv.ownBlock ≠ some b → (w2.setCell ⟨vb, 4, none⟩ lv').heap[b]? = w1.heap[b]? := fun b h0 h1 h2 => (Below.heap_setCell _ _ _ _ (by show b ≠ vb; omega)).trans (hbl b h1 h2)
  have hvb : vb < w1.heap.size := h.out.lt
  have hout : Blk5 w2 vb 26 (.int .i64 kind) (.int .i64 0) (.string { data := #[] }) kv lv := h.out.of_block (hbl vb hvb (fun e => by have := (h.vown.lt vb e).1; omega))
  have hmv : ∀ y u, ValAt (InD N w1 kv lv) w1 d y u → ValAt (InD N (w2.setCell ⟨vb, 4, none⟩ lv') kv lv') (w2.setCell ⟨vb, 4, none⟩ lv') d y u := fun y u hy => by
    refine ValAt.moved (fun b hb' => hbl3 b hb'.1 hb'.2.1 hb'.2.2.2.2) (fun b hb' => ⟨hb'.1, by rw [hz3]; have := hb'.2.1; omega, hb'.2.2.1.of_block (hbl3 b hb'.1 hb'.2.1 hb'.2.2.2.2), hb'.2.2.2.1, ?_⟩) d y _ hy
    rcases hw with hw | hw
    · rw [hw]; exact hb'.2.2.2.2
    · rw [hw, hz1]
      intro he
      cases he
      have := hb'.2.1
      omega
  have hlen : vs.length = xs.length * 5 := h.vown.1
  refine ⟨hout.set4 _, owns_moved h.kown (fun g hg' => ?_) (Nat.le_refl _), ?_, fun g hk hl => ?_, fun j y hy => ?_, hN, h.rN, h.rv, by rw [hz3]; omega⟩
  · have := h.kown.lt g hg'
    exact hbl3 g this.1 this.2 (h.apart g hg')
  · rw [List.length_append]
    exact owns_moved hown (fun g hg' => Below.heap_setCell _ _ _ _ (by have := (hown.lt g hg').1; show g ≠ vb; omega)) (Nat.le_refl _)
  · rcases hw with hw | hw
    · exact h.apart g hk (hw.symm.trans hl)
    · have := (h.kown.lt g hk).2
      have he := hw.symm.trans hl
      rw [hz1] at he
      cases he
      omega
  · by_cases e : j < xs.length
    · rw [List.getElem?_append_left e] at hy
      obtain ⟨c0, c1, c2, c3, c4, e0, e1, e2, e3, e4, hv⟩ := h.trees j y hy
      refine ⟨c0, c1, c2, c3, c4, ?_, ?_, ?_, ?_, ?_, hmv _ _ hv⟩
      · rw [List.getElem?_append_left (by omega)]; exact e0
      · rw [List.getElem?_append_left (by omega)]; exact e1
      · rw [List.getElem?_append_left (by omega)]; exact e2
      · rw [List.getElem?_append_left (by omega)]; exact e3
      · rw [List.getElem?_append_left (by omega)]; exact e4
    · have hj : j = xs.length := by
        have := (List.getElem?_eq_some_iff.1 hy).1
        rw [List.length_append, List.length_singleton] at this
        omega
      subst hj
      rw [List.getElem?_append_right (Nat.le_refl _), Nat.sub_self] at hy
      cases hy
      refine ⟨v0, v1, v2, v3, v4, ?_, ?_, ?_, ?_, ?_, hmv _ _ hx⟩
      · rw [List.getElem?_append_right (by omega), hlen]; simp
      · rw [List.getElem?_append_right (by omega), hlen]; simp
      · rw [List.getElem?_append_right (by omega), hlen]; simp
      · rw [List.getElem?_append_right (by omega), hlen]; simp
      · rw [List.getElem?_append_right (by omega), hlen]; simp

/-- What lies below N, but for the variable, stays. -/
def Low (N vb : Nat) (b : Nat) : Prop := b = vb ∨ N ≤ b
theorem low_turn {w1 w2 : World} {N vb c : Nat} {row : Option Nat} {o : Obj} {u : Value} (hg : (w1.alloc o).grownBy w2 row) (hrow : ∀ g, row = some g → N ≤ g) : Turn (Low N vb) w1 (w2.setCell ⟨vb, c, none⟩ u) := by
  have hz1 : (w1.alloc o).heap.size = w1.heap.size + 1 := by simp
  have hb := below_alloc1 w1 o
  have h2 := hg.size
  have ht : Turn (Low N vb) w1 w2 := ⟨hg.os.trans hb.os, hg.tape.trans hb.tape, hg.output.trans hb.output, by omega, fun i hi hn => (hg.block i (by omega) (fun e => hn (Or.inr (hrow i e.symm)))).trans (hb.block i hi)⟩
  exact ht.set (Or.inl rfl) u
theorem low_moved {w w5 wF : World} {N vb r p : Nat} {T : TypeId} {c0 c1 c2 c3 c4 : Value} (hR : Rd w5 r p) (hB : But r w w5) (hK : Blk5 w5 w.heap.size T c0 c1 c2 c3 c4) (ht : Turn (Low N vb) w5 wF) (hr : r < w.heap.size) (hw : w.heap.size < vb) (hv : vb < N) :
    Rd wF r p ∧ But r w wF ∧ Blk5 wF w.heap.size T c0 c1 c2 c3 c4 := by
  have hrl := hR.lt
  have hkl := hK.lt
  have hlow : ∀ b, b ≤ w.heap.size → b < w5.heap.size → wF.heap[b]? = w5.heap[b]? := fun b h1 h2 => ht.block b h2 (fun e => by rcases e with e | e <;> omega)
  obtain ⟨a, n, cap, h1, h2, h3⟩ := hR
  refine ⟨⟨a, n, cap, (hlow r (by omega) hrl).trans h1, h2, h3.moved (fun b hb => hlow b (by omega) (by omega))⟩, ⟨ht.os.trans hB.os, ht.tape.trans hB.tape, ht.output.trans hB.output, Nat.le_trans hB.size ht.size, fun i hi hn => (hlow i (by omega) (Nat.lt_of_lt_of_le hi hB.size)).trans (hB.block i hi hn)⟩, hK.of_block (hlow _ (Nat.le_refl _) hkl)⟩
theorem plain_own {w : World} {N : Nat} {e : TypeId} {size n : Nat} {v : Value} {xs : List Value} (h : w.ownsRow N e size v n xs) {g : Nat} (hg : v.ownBlock = some g) : Plain w g := by
  rcases h.2 with ⟨rfl, _⟩ | ⟨g', cap, cur, rfl, _, hh, _⟩
  · cases hg
  · cases hg
    exact ⟨cur, e, hh⟩

/-- The tree that was drawn, where it lies. -/
theorem DTo.done {d N vb r : Nat} {kind : Int} {w wb : World} {kv lv : Value} {ks : List ByteArray} {xs : List (Tr d)} {vs : List Value} (h : DTo N vb r kind w kv lv ks xs vs) (hk : I64 kind) (hks : ∀ s ∈ ks, s.size < 281474976710656) (hkl : ks.length < 1000) (hxl : xs.length < 1000) (hN : wb.heap.size < N) :
    KeyTop (wb.heap.size + 1) (FreshQ wb w) w (d + 1) ({ kind := kind, num := 0, str := ⟨#[]⟩, keys := ks, list := xs } : Nd (Tr d)) (.agg #[.int .i64 kind, .int .i64 0, .string { data := #[] }, kv, lv]) := by
  refine ⟨kv, lv, rfl, hk, ⟨by show _ ≤ (0 : Int); omega, by show (0 : Int) ≤ _; omega⟩, by show (0 : Nat) < _; omega, hks, hkl, owns_moved h.kown (fun _ _ => rfl) (by omega), fun b hb => ⟨by have := (h.kown.lt b hb).1; omega, (h.kown.lt b hb).2, plain_own h.kown hb⟩, ⟨by show xs.length < _; omega, ?_⟩⟩
  rcases h.vown.2 with ⟨e, h0⟩ | ⟨g, cap, cur, e, hg, hh, _⟩
  · exact ⟨none, 0, by rw [e, h0], Or.inl (List.eq_nil_of_length_eq_zero h0)⟩
  · refine ⟨some ⟨g, 0, none⟩, cap, e, Or.inr ⟨g, 0, ⟨⟨by omega, (Array.getElem?_eq_some_iff.1 hh).1, ⟨_, _, hh⟩⟩, fun hk' => h.apart g hk' (by rw [e]; rfl)⟩, rfl, fun i x hx => ?_⟩⟩
    obtain ⟨c0, c1, c2, c3, c4, e0, e1, e2, e3, e4, hv⟩ := h.trees i x hx
    have hi : i < xs.length := (List.getElem?_eq_some_iff.1 hx).1
    have hvo := h.vown
    rw [e] at hvo
    have hc : ∀ j c, j < xs.length * 5 → vs[j]? = some c → w.cell? ⟨g, 0 + j, none⟩ = some c := fun j c hj hc => by
      rw [Nat.zero_add]
      exact (hvo.cellAt j hj).trans hc
    exact ⟨c0, c1, c2, c3, c4, hc _ _ (by omega) e0, hc _ _ (by omega) e1, hc _ _ (by omega) e2, hc _ _ (by omega) e3, hc _ _ (by omega) e4, hv.mono (fun b hb => ⟨⟨by have := hb.1; omega, hb.2.1, hb.2.2.1⟩, hb.2.2.2.1⟩)⟩
end Go.Proofs.YtmibjmipndffmaaGreatDoor
