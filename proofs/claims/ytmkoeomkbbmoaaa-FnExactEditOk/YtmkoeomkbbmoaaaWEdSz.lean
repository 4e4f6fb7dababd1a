/- szEdit, szEditS. -/
import Derived.Test.YtmkoeomkbbmoaaaWEd
import Derived.Test.YtmkoeomkbbmoaaaWMany
namespace Go.Proofs.Ytmkoeomkbbmoaaa
open Go.RowKit Go.Deep

/-- One behind the other, if there is room. -/
def szThen (f g : Int → Int) (l : Int) : Int := if f l < 0 then -1 else g (f l)
theorem szThen_le {f g : Int → Int} (hf : ∀ l, 0 ≤ l → f l ≤ l) (hg : ∀ l, 0 ≤ l → g l ≤ l) (l : Int) (h : 0 ≤ l) : szThen f g l ≤ l := by
  unfold szThen
  have h1 := hf l h
  split
  · omega
  · have := hg (f l) (by omega); omega
theorem szThen_neg {f g : Int → Int} {l : Int} (h : f l < 0) : szThen f g l = -1 := if_pos h
theorem szThen_go {f g : Int → Int} {l : Int} (h : ¬ f l < 0) : szThen f g l = g (f l) := if_neg h
/-- How much an edit takes. -/
def szEd {d : Nat} (e : Ed d) (left : Int) : Int := szThen (szL szStp e.path) (szThen (szT (d + 1) e.was) (szThen (szT (d + 1) e.now) (fun l => l))) left
theorem szEd_le {d : Nat} (e : Ed d) (left : Int) (h : 0 ≤ left) : szEd e left ≤ left :=
  szThen_le (fun l hl => szL_le szStp (fun p l hl => szStp_le p l hl) e.path l hl) (szThen_le (szT_le _ _) (szThen_le (szT_le _ _) (fun l _ => Int.le_refl l))) left h
/-- Each of what fits is small. -/
theorem szLGo_each {α : Type} (f : α → Int → Int) (hf : ∀ x l, 0 ≤ l → f x l ≤ l) : ∀ (xs : List α) (left : Int), 0 ≤ left → 0 ≤ szLGo f xs left → ∀ x ∈ xs, ∃ l, 0 ≤ l ∧ l ≤ left ∧ 0 ≤ f x l
  | [], _, _, _, x, hx => by cases hx
  | y :: r, left, h0, h, x, hx => by
    rw [szLGo] at h
    by_cases hn : f y left < 0
    · rw [if_pos hn] at h
      omega
    · rw [if_neg hn] at h
      have hle := hf y left h0
      cases hx with
      | head => exact ⟨left, h0, Int.le_refl _, by omega⟩
      | tail _ hx =>
        obtain ⟨l, h1, h2, h3⟩ := szLGo_each f hf r (f y left) (by omega) h x hx
        exact ⟨l, h1, by omega, h3⟩
/-- The trees of an edit that fits are small. -/
theorem szEd_nodes {d : Nat} {e : Ed d} {left : Int} (h0 : 0 ≤ left) (h1 : left ≤ 1048576) (h : 0 ≤ szEd e left) : (nodes (d + 1) e.was : Int) ≤ 4194304 ∧ (nodes (d + 1) e.now : Int) ≤ 4194304 := by
  unfold szEd at h
  have g0 := szL_le szStp (fun p l hl => szStp_le p l hl) e.path left h0
  by_cases c0 : szL szStp e.path left < 0
  · rw [szThen_neg c0] at h; omega
  rw [szThen_go c0] at h
  have g1 := szT_le (d + 1) e.was (szL szStp e.path left) (by omega)
  by_cases c1 : szT (d + 1) e.was (szL szStp e.path left) < 0
  · rw [szThen_neg c1] at h; omega
  rw [szThen_go c1] at h
  have g2 := szT_le (d + 1) e.now _ (Int.not_lt.1 c1)
  by_cases c2 : szT (d + 1) e.now (szT (d + 1) e.was (szL szStp e.path left)) < 0
  · rw [szThen_neg c2] at h; omega
  have n1 := szT_nodes (d + 1) e.was _ (Int.not_lt.1 c0) (Int.not_lt.1 c1)
  have n2 := szT_nodes (d + 1) e.now _ (Int.not_lt.1 c1) (Int.not_lt.1 c2)
  omega
theorem szEds_nodes {d : Nat} {es : List (Ed d)} (h : ¬ szL szEd es 1048576 < 0) : ∀ e ∈ es, (nodes (d + 1) e.was : Int) ≤ 4194304 ∧ (nodes (d + 1) e.now : Int) ≤ 4194304 := by
  unfold szL at h
  split at h
  · omega
  · intro e he
    obtain ⟨l, h1, h2, h3⟩ := szLGo_each szEd szEd_le es (1048576 - (es.length : Int)) (by omega) (by omega) e he
    exact szEd_nodes h1 (by omega) h3

set_option maxRecDepth 100000 in
set_option maxHeartbeats 2000000 in
theorem szEdit_any {d : Nat} (S : Nat → Prop) (e : Ed d) (a0 : Option Addr) (a1 : Nat) (p0 p1 p2 p3 p4 p5 p6 p7 p8 q0 q1 q2 q3 q4 q5 q6 q7 q8) (left : Int) (w : World) (hp : EdParts S w e (.slice a0 e.path.length a1) (.agg #[.int .i64 p0, .int .i64 p1, .string p2, .slice p3 p4 p5, .slice p6 p7 p8]) (.agg #[.int .i64 q0, .int .i64 q1, .string q2, .slice q3 q4 q5, .slice q6 q7 q8])) (hS : Within S w) (h0 : 0 ≤ left) (h1 : left ≤ 1048576) :
    Calls Try.prog 9 #[.agg #[.slice a0 e.path.length a1, .int .i64 p0, .int .i64 p1, .string p2, .slice p3 p4 p5, .slice p6 p7 p8, .bool e.had, .int .i64 q0, .int .i64 q1, .string q2, .slice q3 q4 q5, .slice q6 q7 q8, .bool e.has], .int .i64 left] w fun en w' => en = .returned (.int .i64 (szEd e left)) ∧ Below w.heap.size w w' := by
  have hA := below_alloc1 w (.cells #[.slice a0 e.path.length a1, .int .i64 p0, .int .i64 p1, .string p2, .slice p3 p4 p5, .slice p6 p7 p8, .bool e.had, .int .i64 q0, .int .i64 q1, .string q2, .slice q3 q4 q5, .slice q6 q7 q8, .bool e.has] 36)
  have k0 := BlkL.new w 36 [.slice a0 e.path.length a1, .int .i64 p0, .int .i64 p1, .string p2, .slice p3 p4 p5, .slice p6 p7 p8, .bool e.had, .int .i64 q0, .int .i64 q1, .string q2, .slice q3 q4 q5, .slice q6 q7 q8, .bool e.has]
  obtain ⟨hst, hw, hn⟩ := hp
  have g0 := szL_le szStp (fun p l hl => szStp_le p l hl) e.path left h0
  go_enter Try.func9, Try.ntmps9
  go_wp2_with fail
  refine (szStepS_any S e.path _ left _ (hst.same (hS.same hA)) (hS.later hA.size) h0 h1).mono ?_
  rintro en w1 ⟨rfl, hb1⟩
  replace k0 := k0.below hb1
  have hB1 := below_trans hA hb1
  clear hb1 hA hst
  by_cases c0 : szL szStp e.path left < 0
  · have hfin : Hid (szEd e left = -1) := szThen_neg c0
    clear k0
    go_wp2_with fail
    go_ret
    rw [hfin.out]
    exact ⟨rfl, hB1⟩
  have hf1 : Hid (szEd e left = _) := szThen_go c0
  have x1 := k0.cell 1 rfl
  have x2 := k0.cell 2 rfl
  have x3 := k0.cell 3 rfl
  have x4 := k0.cell 4 rfl
  have x5 := k0.cell 5 rfl
  have g1 := szT_le (d + 1) e.was (szL szStp e.path left) (by omega)
  go_wp2_with fail
  refine (szVal_any (d + 1) S e.was _ _ _ (hw.same (hS.same hB1)) (hS.later hB1.size) (by omega) (by omega)).mono ?_
  rintro en w2 ⟨rfl, hb2⟩
  clear x1 x2 x3 x4 x5
  replace k0 := k0.below hb2
  have hB2 := below_trans hB1 hb2
  clear hb2 hB1 hw
  by_cases c1 : szT (d + 1) e.was (szL szStp e.path left) < 0
  · have hfin : Hid (szEd e left = -1) := by rw [hf1.out]; exact szThen_neg c1
    clear k0
    go_wp2_with fail
    go_ret
    rw [hfin.out]
    exact ⟨rfl, hB2⟩
  have hf2 : Hid (szEd e left = _) := hf1.out.trans (szThen_go c1)
  have x7 := k0.cell 7 rfl
  have x8 := k0.cell 8 rfl
  have x9 := k0.cell 9 rfl
  have x10 := k0.cell 10 rfl
  have x11 := k0.cell 11 rfl
  have g2 := szT_le (d + 1) e.now (szT (d + 1) e.was (szL szStp e.path left)) (by omega)
  go_wp2_with fail
  refine (szVal_any (d + 1) S e.now _ _ _ (hn.same (hS.same hB2)) (hS.later hB2.size) (by omega) (by omega)).mono ?_
  rintro en w3 ⟨rfl, hb3⟩
  have hB3 := below_trans hB2 hb3
  clear x7 x8 x9 x10 x11 k0 hb3 hB2 hn
  by_cases c2 : szT (d + 1) e.now (szT (d + 1) e.was (szL szStp e.path left)) < 0
  · have hfin : Hid (szEd e left = -1) := by rw [hf2.out]; exact szThen_neg c2
    go_wp2_with fail
    go_ret
    rw [hfin.out]
    exact ⟨rfl, hB3⟩
  have hfin : Hid (szEd e left = szT (d + 1) e.now (szT (d + 1) e.was (szL szStp e.path left))) := hf2.out.trans (szThen_go c2)
  go_wp2_with fail
  go_ret
  rw [hfin.out]
  exact ⟨rfl, hB3⟩

set_option maxRecDepth 100000 in
set_option maxHeartbeats 1000000 in
theorem szEditS_any {d : Nat} (S : Nat → Prop) (es : List (Ed d)) (v : Value) (left : Int) (w : World) (hv : EdsAt S w v es) (hS : Within S w) (h0 : 0 ≤ left) (h1 : left ≤ 1048576) :
    Calls Try.prog 4 #[v, .int .i64 left] w fun e w' => e = .returned (.int .i64 (szL szEd es left)) ∧ Below w.heap.size w w' := by
  obtain ⟨a, cap, rfl, hlen⟩ := hv.open'
  by_cases hlt : left - es.length < 0
  · have hfin : Hid (szL szEd es left = -1) := if_pos hlt
    go_enter Try.func4, Try.ntmps4
    go_wp2_with fail
    go_ret
    rw [hfin.out]
    exact ⟨rfl, Below.refl _ _⟩
  · have hfin : Hid (szL szEd es left = szLGo szEd es (left - es.length)) := if_neg hlt
    go_enter Try.func4, Try.ntmps4
    go_wp2_with fail
    go_loopw [1, 5] (fun l i wr => ∃ (k : Nat) (m : Int), k ≤ es.length ∧ i = .int .i64 k ∧ l = .int .i64 m ∧ 0 ≤ m ∧ m ≤ 1048576 ∧ Hid (szL szEd es left = szLGo szEd (es.drop k) m) ∧ Below w.heap.size w wr) (fun _ i _ => es.length - (intOf i).toNat)
    case atStart => exact ⟨0, _, Nat.zero_le _, rfl, rfl, by omega, by omega, hfin, Below.refl _ _⟩
    case round =>
      clear hfin
      obtain ⟨k, m, hk, rfl, rfl, hm0, hm1, hfin, hbel⟩ := hrel
      by_cases hkl : k < es.length
      · have hv' := hv.same (hS.same hbel)
        obtain ⟨b, o, e, rfl, _, hx, a0, a1, p0, p1, p2, p3, p4, p5, p6, p7, p8, q0, q1, q2, q3, q4, q5, q6, q7, q8, e0, e1, e2, e3, e4, e5, e6, e7, e8, e9, e10, e11, e12, hp⟩ := hv'.cell hkl
        have hst : Hid (_ = _) := szLGo_step szEd hx m
        have hle := szEd_le e m hm0
        clear hv hv' hx
        go_wp2_with fail
        refine (szEdit_any S e a0 a1 p0 p1 p2 p3 p4 p5 p6 p7 p8 q0 q1 q2 q3 q4 q5 q6 q7 q8 m wr hp (hS.later hbel.size) hm0 hm1).mono ?_
        rintro en w1 ⟨rfl, hb1⟩
        have hb2 : Below w.heap.size w w1 := below_trans hbel hb1
        clear hb1 hbel hp e0 e1 e2 e3 e4 e5 e6 e7 e8 e9 e10 e11 e12
        by_cases hneg : szEd e m < 0
        · go_wp2_with fail
          go_ret
          rw [hfin.out, hst.out, if_pos hneg]
          exact ⟨rfl, hb2⟩
        · go_wp2_with fail
          go_roundw
          case rel => exact ⟨k + 1, szEd e m, by omega, by go_num, rfl, by omega, by omega, by rw [hfin.out, hst.out, if_neg (by omega)]; exact rfl, hb2⟩
          case measure => simp [intOf]; omega
      · go_wp2_with fail
        go_ret
        rw [hfin.out, List.drop_eq_nil_of_le (by omega)]
        exact ⟨rfl, hbel⟩
end Go.Proofs.Ytmkoeomkbbmoaaa
