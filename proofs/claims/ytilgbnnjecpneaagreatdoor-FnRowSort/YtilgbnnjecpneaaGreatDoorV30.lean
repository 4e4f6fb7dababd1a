/- Texts of the proof, put together by program: WCutA, WCapT, WCutP, WMrgI, PMrg, WOfsortedRow, WOfleastOfRow, WMrgR, WAppW. -/
import Derived.Test.YtilgbnnjecpneaaGreatDoorV24
import Derived.Test.YtilgbnnjecpneaaGreatDoorV4
import Derived.Test.YtilgbnnjecpneaaGreatDoorV29
import Derived.Test.YtilgbnnjecpneaaGreatDoorV28
import Derived.Test.YtilgbnnjecpneaaGreatDoorV22
/- Places of a piece: l1Max, l1Min, l4Edge of the model; fromStart, within, piece of the program. -/
namespace Go.Proofs.YtilgbnnjecpneaaGreatDoor
open Go.RowKit Go.Deep

end Go.Proofs.YtilgbnnjecpneaaGreatDoor

/- toVal: the list of what it makes has room for its trees. -/
namespace Go.Proofs.YtilgbnnjecpneaaGreatDoor
open Go.RowKit

end Go.Proofs.YtilgbnnjecpneaaGreatDoor

/- RowCut: pieces of rows and texts. -/
namespace Go.Proofs.YtilgbnnjecpneaaGreatDoor
open Go.RowKit Go.Deep

theorem RowAt.cut {α : Type} {S : Nat → Prop} {w : World} {At : α → Value → Prop} {b o n cap : Nat} {xs : List α} (h : RowAt S w At (.slice (some ⟨b, o, none⟩) n cap) xs) {p q : Nat} (c' : Nat) (hpq : p ≤ q) (hq : q ≤ xs.length) : RowAt S w At (.slice (some ⟨b, o + p * 5, none⟩) (q - p) c') ((xs.drop p).take (q - p)) := by
  obtain ⟨h1, a', cap', hv, h3⟩ := h
  have hl : ((xs.drop p).take (q - p)).length = q - p := by rw [List.length_take, List.length_drop]; omega
  refine ⟨by omega, some ⟨b, o + p * 5, none⟩, c', by rw [hl], ?_⟩
  rcases h3 with rfl | ⟨b', o', hB, ha, hc⟩
  · exact Or.inl (by simp)
  · simp at hv
    obtain ⟨e1, _, _⟩ := hv
    rw [← e1] at ha
    simp at ha
    obtain ⟨rfl, rfl⟩ := ha
    refine Or.inr ⟨b, o + p * 5, hB, rfl, fun i x hx => ?_⟩
    have hi := (List.getElem?_eq_some_iff.1 hx).1
    rw [hl] at hi
    rw [List.getElem?_take_of_lt hi, List.getElem?_drop] at hx
    have hh := hc (p + i) x hx
    rw [show o + (p + i) * 5 = o + p * 5 + i * 5 by omega] at hh
    exact hh
theorem Row1At.cut {α : Type} {S : Nat → Prop} {w : World} {At : α → Value → Prop} {b o n cap : Nat} {xs : List α} (h : Row1At S w At (.slice (some ⟨b, o, none⟩) n cap) xs) {p q : Nat} (c' : Nat) (hpq : p ≤ q) (hq : q ≤ xs.length) : Row1At S w At (.slice (some ⟨b, o + p, none⟩) (q - p) c') ((xs.drop p).take (q - p)) := by
  obtain ⟨h1, a', cap', hv, h3⟩ := h
  have hl : ((xs.drop p).take (q - p)).length = q - p := by rw [List.length_take, List.length_drop]; omega
  refine ⟨by omega, some ⟨b, o + p, none⟩, c', by rw [hl], ?_⟩
  rcases h3 with rfl | ⟨b', o', hB, ha, hc⟩
  · exact Or.inl (by simp)
  · simp at hv
    obtain ⟨e1, _, _⟩ := hv
    rw [← e1] at ha
    simp at ha
    obtain ⟨rfl, rfl⟩ := ha
    refine Or.inr ⟨b, o + p, hB, rfl, fun i x hx => ?_⟩
    have hi := (List.getElem?_eq_some_iff.1 hx).1
    rw [hl] at hi
    rw [List.getElem?_take_of_lt hi, List.getElem?_drop] at hx
    have hh := hc (p + i) x hx
    rw [show o + (p + i) = o + p + i by omega] at hh
    exact hh
/-- A row of nothing, wherever. -/
theorem RowAt.noneR {α : Type} {S : Nat → Prop} {w : World} {At : α → Value → Prop} (a : Option Addr) (c : Nat) : RowAt S w At (.slice a 0 c) ([] : List α) := ⟨by simp, a, c, rfl, Or.inl rfl⟩
theorem Row1At.noneR {α : Type} {S : Nat → Prop} {w : World} {At : α → Value → Prop} (a : Option Addr) (c : Nat) : Row1At S w At (.slice a 0 c) ([] : List α) := ⟨by simp, a, c, rfl, Or.inl rfl⟩
/-- A row that lies in memory, as a tree. -/
theorem row_tree {d : Nat} {S : Nat → Prop} {w : World} {lv : Value} {xs : List (Tr d)} (h : RowAt S w (ValAt S w d) lv xs) : ValAt S w (d + 1) (rowT d xs) (.agg #[.int .i64 5, .int .i64 0, .string ByteArray.empty, .slice Option.none 0 0, lv]) :=
  ⟨_, _, rfl, ⟨by show _ ≤ (5 : Int); omega, by show (5 : Int) ≤ _; omega⟩, ⟨by show _ ≤ (0 : Int); omega, by show (0 : Int) ≤ _; omega⟩, by show (0 : Nat) < _; omega, ⟨by show (0 : Nat) < _; omega, (fun s hs => by cases hs), Option.none, 0, rfl, Or.inl rfl⟩, h⟩
end Go.Proofs.YtilgbnnjecpneaaGreatDoor

/- inOrder of the program. -/
namespace Go.Proofs.YtilgbnnjecpneaaGreatDoor
open Go.RowKit Go.Deep

/-- What inOrder gives: the row itself, if it has less than two trees; else a row of its own. -/
def InQ (N : Nat) {d : Nat} (xs : List (Tr d)) (a : Option Addr) (cap : Nat) (w : World) (e : Ending) (w' : World) : Prop :=
  Below w.heap.size w w' ∧ ((xs.length < 2 ∧ e = .returned (.slice a xs.length cap) ∧ w' = w) ∨ (2 ≤ xs.length ∧ ∃ a' c' vs M, e = .returned (.slice a' xs.length c') ∧ w.heap.size ≤ M ∧ GF (fun b => N ≤ b ∧ b < M) M w' (.slice a' xs.length c') (sortL (ordT d) xs) vs))
theorem InQ.row {N d : Nat} {xs : List (Tr (d + 1))} {a : Option Addr} {cap : Nat} {w w' : World} {e : Ending} (h : InQ N xs a cap w e w') (hN : N ≤ w.heap.size) (hx : Row1At (fun b => N ≤ b ∧ b < w.heap.size) w (TreeG (fun b => N ≤ b ∧ b < w.heap.size) w (d + 1)) (.slice a xs.length cap) xs) (hc : xs.length ≤ cap) (hl : xs.length ≤ 1000) :
    ∃ a' c', e = .returned (.slice a' xs.length c') ∧ xs.length ≤ c' ∧ Row1At (fun b => N ≤ b ∧ b < w'.heap.size) w' (TreeG (fun b => N ≤ b ∧ b < w'.heap.size) w' (d + 1)) (.slice a' (sortL (ordT (d + 1)) xs).length c') (sortL (ordT (d + 1)) xs) := by
  rcases h.2 with ⟨h2, rfl, rfl⟩ | ⟨h2, a', c', vs, M, rfl, hM, hg⟩
  · refine ⟨a, cap, rfl, hc, ?_⟩
    rw [sort_few h2]
    exact hx
  · refine ⟨a', c', rfl, hg.cap, ?_⟩
    rw [sort_len]
    have hlt : M ≤ w'.heap.size ∨ xs.length = 0 := by
      rcases hg.1.2 with ⟨_, h0⟩ | ⟨g, cp, cur, _, hgM, hh, _⟩
      · exact Or.inr (by rw [sort_len] at h0; exact h0)
      · exact Or.inl (by have := (Array.getElem?_eq_some_iff.1 hh).1; omega)
    have hMw : M ≤ w'.heap.size := by omega
    have hr := hg.row (M := N) (by rw [sort_len]; exact hl) (by omega) (fun b hb => ⟨hb.1, by have := hb.2; omega⟩)
    exact hr
theorem half_div (n : Nat) : (n : Int).tdiv 2 = ((n / 2 : Nat) : Int) := by
  rw [Int.tdiv_eq_ediv_of_nonneg (by omega)]
  omega

set_option maxRecDepth 100000 in
set_option maxHeartbeats 8000000 in
theorem inOrder_any (d N : Nat) : ∀ (k : Nat) (xs : List (Tr (d + 1))) (a : Option Addr) (cap : Nat) (w : World), xs.length ≤ k → N ≤ w.heap.size → Row1At (fun b => N ≤ b ∧ b < w.heap.size) w (TreeG (fun b => N ≤ b ∧ b < w.heap.size) w (d + 1)) (.slice a xs.length cap) xs → xs.length ≤ cap → xs.length ≤ 1000 → (∀ x ∈ xs, (nodes (d + 1) x : Int) ≤ 4194304) →
    Calls Tryz.prog 63 #[.slice a xs.length cap, .func (.func 64) #[] #[]] w (InQ N xs a cap w) := by
  intro k
  induction k with
  | zero =>
    intro xs a cap w hk hN hx hc hl hnd
    have h2 : xs.length < 2 := by omega
    have h2i : (xs.length : Int) < 2 := by omega
    have HX := hide hx
    clear hx
    go_enter Tryz.func63, Tryz.ntmps63
    go_wp2_with fail
    go_ret
    exact ⟨Below.refl _ _, Or.inl ⟨h2, rfl, rfl⟩⟩
  | succ k ih =>
    intro xs a cap w hk hN hx hc hl hnd
    by_cases h2 : xs.length < 2
    · have h2i : (xs.length : Int) < 2 := by omega
      clear hx hnd ih
      go_enter Tryz.func63, Tryz.ntmps63
      go_wp2_with fail
      go_ret
      exact ⟨Below.refl _ _, Or.inl ⟨h2, rfl, rfl⟩⟩
    · have h2i : ¬ (xs.length : Int) < 2 := by omega
      have hdv := half_div xs.length
      obtain ⟨m, hm⟩ : ∃ m, m = xs.length / 2 := ⟨_, rfl⟩
      rw [← hm] at hdv
      have hm1 : m + 1 ≤ xs.length := by omega
      have hm2 : 1 ≤ m := by omega
      have hcm : ¬ cap = m := by omega
      have hmi1 : (m : Int) ≤ (cap : Int) := by omega
      have hmi2 : (m : Int) ≤ (xs.length : Int) := by omega
      have hmi3 : m ≤ cap := by omega
      have hmi4 : m ≤ xs.length := by omega
      have hmi5 : (0 : Int) ≤ (m : Int) := by omega
      have hmi6 : (xs.length : Int) ≤ (cap : Int) := by omega
      have hmi7 : ¬ (m : Int) < 0 := by omega
      obtain ⟨b, o, ha⟩ : ∃ b o, a = some ⟨b, o, none⟩ := by
        cases xs with
        | nil => simp at hm1
        | cons x r =>
          obtain ⟨b, o, _, ha, _⟩ := hx.first
          exact ⟨b, o, ha⟩
      subst ha
      have hyl : (xs.take m).length = m := by rw [List.length_take]; omega
      have hzl : (xs.drop m).length = xs.length - m := List.length_drop
      have hS0 : Within (fun b => N ≤ b ∧ b < w.heap.size) w := fun b hb => hb.2
      have hmv : ∀ (W : World) (v : Value) (zs : List (Tr (d + 1))), Below w.heap.size w W → Row1At (fun b => N ≤ b ∧ b < w.heap.size) w (TreeG (fun b => N ≤ b ∧ b < w.heap.size) w (d + 1)) v zs → Row1At (fun b => N ≤ b ∧ b < W.heap.size) W (TreeG (fun b => N ≤ b ∧ b < W.heap.size) W (d + 1)) v zs := fun W v zs hW h => by
        have hz := hW.size
        exact h.moved (hS0.same hW) (fun b hb => ⟨hb.1, by have := hb.2; omega⟩) (fun x u hx => TreeG.moved (hS0.same hW) (fun b hb => ⟨hb.1, by have := hb.2; omega⟩) (d + 1) x u hx)
      have hr1 : Row1At (fun b => N ≤ b ∧ b < w.heap.size) w (TreeG (fun b => N ≤ b ∧ b < w.heap.size) w (d + 1)) (.slice (some ⟨b, o, none⟩) (xs.take m).length cap) (xs.take m) := by
        have h := hx.cut (p := 0) (q := m) cap (Nat.zero_le _) (by omega)
        rw [Nat.add_zero o, Nat.sub_zero, List.drop_zero] at h
        rw [hyl]
        exact h
      have hr2 : Row1At (fun b => N ≤ b ∧ b < w.heap.size) w (TreeG (fun b => N ≤ b ∧ b < w.heap.size) w (d + 1)) (.slice (some ⟨b, o + m, none⟩) (xs.drop m).length (cap - m)) (xs.drop m) := by
        have h := hx.cut (p := m) (q := xs.length) (cap - m) (by omega) (Nat.le_refl _)
        rw [List.take_of_length_le (by rw [List.length_drop]; exact Nat.le_refl _)] at h
        rw [hzl]
        exact h
      have hDr : Below w.heap.size w w.drew := ⟨rfl, rfl, rfl, Nat.le_refl _, fun _ _ => rfl⟩
      have HI1 : Hid (∀ W, Below w.heap.size w W → Calls Tryz.prog 63 #[.slice (some ⟨b, o, none⟩) m cap, .func (.func 64) #[] #[]] W fun e w' => Below W.heap.size W w' ∧ ∃ a' c', e = .returned (.slice a' m c') ∧ (xs.take m).length ≤ c' ∧ Row1At (fun b => N ≤ b ∧ b < w'.heap.size) w' (TreeG (fun b => N ≤ b ∧ b < w'.heap.size) w' (d + 1)) (.slice a' (sortL (ordT (d + 1)) (xs.take m)).length c') (sortL (ordT (d + 1)) (xs.take m))) := by
        intro W hW
        have hz := hW.size
        have h := ih (xs.take m) (some ⟨b, o, none⟩) cap W (by omega) (by omega) (hmv W _ _ hW hr1) (by omega) (by omega) (fun x hx => hnd x (List.mem_of_mem_take hx))
        rw [hyl] at h
        refine h.mono (fun e w' hq => ⟨hq.1, ?_⟩)
        obtain ⟨a', c', e1, e2, e3⟩ := hq.row (by omega) (hmv W _ _ hW hr1) (by omega) (by omega)
        rw [hyl] at e1
        exact ⟨a', c', e1, e2, e3⟩
      have HI2 : Hid (∀ W, Below w.heap.size w W → Calls Tryz.prog 63 #[.slice (some ⟨b, o + m, none⟩) (xs.length - m) (cap - m), .func (.func 64) #[] #[]] W fun e w' => Below W.heap.size W w' ∧ ∃ a' c', e = .returned (.slice a' (xs.length - m) c') ∧ (xs.drop m).length ≤ c' ∧ Row1At (fun b => N ≤ b ∧ b < w'.heap.size) w' (TreeG (fun b => N ≤ b ∧ b < w'.heap.size) w' (d + 1)) (.slice a' (sortL (ordT (d + 1)) (xs.drop m)).length c') (sortL (ordT (d + 1)) (xs.drop m))) := by
        intro W hW
        have hz := hW.size
        have h := ih (xs.drop m) (some ⟨b, o + m, none⟩) (cap - m) W (by omega) (by omega) (hmv W _ _ hW hr2) (by omega) (by omega) (fun x hx => hnd x (List.mem_of_mem_drop hx))
        rw [hzl] at h
        refine h.mono (fun e w' hq => ⟨hq.1, ?_⟩)
        obtain ⟨a', c', e1, e2, e3⟩ := hq.row (by omega) (hmv W _ _ hW hr2) (by omega) (by omega)
        rw [hzl] at e1
        exact ⟨a', c', e1, e2, e3⟩
      have HMG : Hid (∀ (W wA : World) (a1 a2 : Option Addr) (c1 c2 : Nat), Below w.heap.size w wA → Below wA.heap.size wA W → (xs.take m).length ≤ c1 → Row1At (fun b => N ≤ b ∧ b < wA.heap.size) wA (TreeG (fun b => N ≤ b ∧ b < wA.heap.size) wA (d + 1)) (.slice a1 (sortL (ordT (d + 1)) (xs.take m)).length c1) (sortL (ordT (d + 1)) (xs.take m)) → (xs.drop m).length ≤ c2 → Row1At (fun b => N ≤ b ∧ b < W.heap.size) W (TreeG (fun b => N ≤ b ∧ b < W.heap.size) W (d + 1)) (.slice a2 (sortL (ordT (d + 1)) (xs.drop m)).length c2) (sortL (ordT (d + 1)) (xs.drop m)) →
          Calls Tryz.prog 90 #[.slice a1 m c1, .slice a2 (xs.length - m) c2, .func (.func 64) #[] #[]] W fun e w' => ∃ sv vs M, e = .returned sv ∧ GF (fun b => N ≤ b ∧ b < M) M w' sv (sortL (ordT (d + 1)) xs) vs ∧ Below W.heap.size W w' ∧ W.heap.size ≤ M) := by
        intro W wA a1 a2 c1 c2 hA hW g1 q1 g2 q2
        have hzA := hA.size
        have hzW := hW.size
        have hSA : Within (fun b => N ≤ b ∧ b < wA.heap.size) wA := fun b hb => hb.2
        have q1' := q1.moved (S' := fun b => N ≤ b ∧ b < W.heap.size) (At' := TreeG (fun b => N ≤ b ∧ b < W.heap.size) W (d + 1)) (hSA.same hW) (fun b hb => ⟨hb.1, by have := hb.2; omega⟩) (fun x u hx => TreeG.moved (hSA.same hW) (fun b hb => ⟨hb.1, by have := hb.2; omega⟩) (d + 1) x u hx)
        have e1 : (sortL (ordT (d + 1)) (xs.take m)).length = m := by rw [sort_len, hyl]
        have e2 : (sortL (ordT (d + 1)) (xs.drop m)).length = xs.length - m := by rw [sort_len, hzl]
        have h := merged_any d N W _ rfl (sortL (ordT (d + 1)) (xs.take m)) (sortL (ordT (d + 1)) (xs.drop m)) a1 a2 c1 c2 (by omega) q1' q2 (by rw [e1]; omega) (by rw [e2]; omega) (by rw [e1, e2]; omega) (fun x hx => hnd x (by
          rcases List.mem_append.1 hx with hx | hx
          · exact List.mem_of_mem_take (sort_mem.1 hx)
          · exact List.mem_of_mem_drop (sort_mem.1 hx))) (sortL_ord (ord_T (d + 1)) _) (sortL_ord (ord_T (d + 1)) _)
        rw [e1, e2, sort_halves, List.take_append_drop] at h
        exact h
      clear hm hx hnd ih hr1 hr2 hmv hS0 hyl hzl
      go_enter Tryz.func63, Tryz.ntmps63
      go_upto_region 4 with fail
      have htr : True := trivial
      go_region_held3 (fun _ => True)
        (exact trivial)
        (first
          | (go_at_call 63; have hseen := HA; clear hseen; refine (HI2.out _ HA.out).mono ?_; rintro eB wB ⟨hbB, a2, c2, rfl, g2, q2⟩; have HB := hide hbB; have bB := below_trans HA.out hbB; have HQ2 := hide (And.intro g2 q2); clear hbB g2 q2)
          | (go_at_call 63; refine (HI1.out _ hDr).mono ?_; rintro eA wA ⟨hbA, a1, c1, rfl, g1, q1⟩; have HA := hide (below_trans hDr hbA); have HQ1 := hide (And.intro g1 q1); clear hbA g1 q1)
          | (go_at_call 90; refine (HMG.out _ _ _ _ _ _ HA.out HB.out HQ1.out.1 HQ1.out.2 HQ2.out.1 HQ2.out.2).mono ?_; rintro eC wC ⟨sv, vs, M, rfl, hg, hbC, hM⟩; have HC := hide (below_trans bB hbC); have HG := hide hg; clear hg hbC))
      all_goals
        obtain ⟨a3, c3, rfl⟩ := HG.out.slice
        have hGG := HG.out
        rw [sort_len] at hGG
        have hsz := bB.size
        have h22 : 2 ≤ xs.length := by omega
        have hwM : w.heap.size ≤ M := by omega
        have HF := hide hGG
        have hls := sort_len (ordT (d + 1)) xs
        rw [hls]
        clear hGG HG HA HB HQ1 HQ2 HI1 HI2 HMG hls
        go_wp2_with fail
        go_ret
        exact ⟨HC.out, Or.inr ⟨h22, a3, c3, vs, M, rfl, hwM, HF.out⟩⟩
end Go.Proofs.YtilgbnnjecpneaaGreatDoor

/- RowSort, RowLeast: what they tell. -/
namespace Go.Proofs.YtilgbnnjecpneaaGreatDoor
open Go.RowKit Go.Deep

/-- A row in order. -/
def sortF (d : Nat) (xs : List (Tr d)) : Option (Tr (d + 1)) := some (rowT d (sortL (ordT d) xs))
end Go.Proofs.YtilgbnnjecpneaaGreatDoor

/- ofRow of the program, at sortedRow. -/
namespace Go.Proofs.YtilgbnnjecpneaaGreatDoor
open Go.RowKit Go.Deep

set_option maxRecDepth 100000 in
set_option maxHeartbeats 2000000 in
theorem ofRow_sortedRow (d e : Nat) (S : Nat → Prop) (t : Tr (d + 1)) (v : Value) (f : List (Tr d) → Option (Tr (e + 1))) (w : World) (hv : ValAt S w (d + 1) t v) (hS : Within S w) (hg : ErrType w)
    (H : Hid (∀ (N : Nat) (xs : List (Tr d)) (a : Option Addr) (cap : Nat) (vs : List Value) (w1 : World), treesL d t = some xs → GTo N w1 (.slice a xs.length cap) xs vs → w.heap.size ≤ N → N ≤ w1.heap.size → ErrType w1 → Calls Tryz.prog 39 #[.slice a xs.length cap] w1 (TellF e N (f xs) w1))) :
    Calls Tryz.prog 38 #[v, .func (.func 39) #[] #[]] w (TellQ e (rowTell f t).1 (rowTell f t).2 w) := by
  obtain ⟨k, n, s, ak, lk, ck, al, ll, cl, rfl⟩ := hv.shape
  obtain ⟨W0, hW⟩ : ∃ W0, W0 = (w.alloc (.cells #[.int .i64 k, .int .i64 n, .string s, .slice ak lk ck, .slice al ll cl] 29)).alloc (.cells #[.int .i64 0, .int .i64 0, .string { data := #[] }, .slice none 0 0, .slice none 0 0] 29) := ⟨_, rfl⟩
  have hW0 : Below w.heap.size w W0 := by rw [hW]; exact below_trans (below_alloc1 _ _) (below_alloc1 _ _)
  have k1 : Blk5 W0 (w.heap.size + 1) 29 (.int .i64 0) (.int .i64 0) (.string { data := #[] }) (.slice none 0 0) (.slice none 0 0) := by
    have := Blk5.new (w.alloc (.cells #[.int .i64 k, .int .i64 n, .string s, .slice ak lk ck, .slice al ll cl] 29)) 29 (.int .i64 0) (.int .i64 0) (.string { data := #[] }) (.slice none 0 0) (.slice none 0 0)
    rw [World.size_alloc] at this
    rw [hW]
    exact this
  have HW := hide hW
  clear hW
  go_enter Tryz.func38, Tryz.ntmps38
  go_wp2_with fail
  rw [← HW.out]
  clear HW
  refine (treesInRow_own d S t _ W0 (hv.same (hS.same hW0)) (hS.later hW0.size)).mono ?_
  rintro en w1 ⟨hb1, hq⟩
  have hB1 := below_trans hW0 hb1
  have k2 := k1.below hb1
  have hg1 := hg.below hB1
  have hl1 := k1.lt
  have hs0 := hW0.size
  have hs1 := hb1.size
  clear hv
  -- what is told, however it is
  have hfin : ∀ (w1' : World), Below W0.heap.size w1 w1' → ∀ (x : Tr (e + 1)) (ok : Bool), Hid (∀ en w2, TellQ e x ok w1' en w2 → ∃ v0 v1 v2 v3 v4 v5 v6 v7 v8, en = .returned (.tuple #[.agg #[.int .i64 v0, .int .i64 v1, .string v2, .slice v3 v4 v5, .slice v6 v7 v8], .bool ok]) ∧
      Blk5 w2 (w.heap.size + 1) 29 (.int .i64 0) (.int .i64 0) (.string { data := #[] }) (.slice none 0 0) (.slice none 0 0) ∧
      ∀ wF, wF = set5 w2 (w.heap.size + 1) 0 (.int .i64 v0) (.int .i64 v1) (.string v2) (.slice v3 v4 v5) (.slice v6 v7 v8) → ValOwn wF (e + 1) (Fresh w wF) x (.agg #[.int .i64 v0, .int .i64 v1, .string v2, .slice v3 v4 v5, .slice v6 v7 v8]) ∧ Below w.heap.size w wF) := fun w1' hb' x ok => by
    intro en w2 ⟨v, he, hv, hb2⟩
    obtain ⟨v0, v1, v2, v3, v4, v5, v6, v7, v8, rfl⟩ := (ValOwn.at _ _ _ _ hv).shape
    have hs' := hb'.size
    exact ⟨v0, v1, v2, v3, v4, v5, v6, v7, v8, he, (k2.of_block (hb'.block _ hl1)).below hb2, tell_end hv (below_trans (hB1.trans (hb'.mono hs0)) hb2) (by omega) (by omega)⟩
  clear hW0 k1 hb1
  rcases hq with ⟨xs, xa, xc, vs, hrow, rfl, hto⟩ | ⟨hrow, why, rfl⟩
  · have hcall := hide (H.out W0.heap.size xs xa xc vs w1 hrow hto hs0 hs1 hg1)
    have HR := hide hrow
    clear hto H hrow
    go_wp2_with fail
    refine Calls.mono hcall.out ?_
    rintro en w2 ⟨hb2, hq⟩
    clear hcall
    have hz2 := hb2.size
    have h00 : 0 < W0.heap.size := Nat.lt_of_lt_of_le hg.lt hs0
    have hg2 : ErrType w2 := (hb2.cell (p := ⟨0, 0, none⟩) h00).trans hg1
    rcases hq with ⟨x, u, hx, rfl, hu⟩ | ⟨hx, why, rfl⟩
    · obtain ⟨T, u', rfl⟩ := hu.iface
      have hT := hide (rowTell_some HR.out hx)
      have hcall := hide (told_tree e _ x _ w2 hu (fun b hb => hb.2))
      clear hx hu
      go_wp2_with fail
      refine Calls.mono hcall.out ?_
      intro en w3 hq
      obtain ⟨v0, v1, v2, v3, v4, v5, v6, v7, v8, rfl, k3, hF⟩ := (hfin w2 hb2 _ _).out en w3 hq
      have HF := hide hF
      obtain ⟨y0, y1, y2, y3, y4⟩ := k3.cell
      have yf := k3.frozen
      clear hF hq hfin hcall k3
      go_wp2_with fail
      refine bodyPost_ret (v := .tuple #[.agg #[.int .i64 v0, .int .i64 v1, .string v2, .slice v3 v4 v5, .slice v6 v7 v8], .bool (okT (e + 1) x)]) (by simp [results, Tryz.results38, go_sem, y0, y1, y2, y3, y4]) rfl ⟨_, by rw [hT.out], by rw [hT.out]; exact (HF.out _ rfl).1, (HF.out _ rfl).2⟩
    · have hT := hide (rowTell_fault HR.out hx)
      have hcall := hide (told_fault e .nilIface why w2 hg2)
      unfold faultV
      clear hx
      go_wp2_with fail
      refine Calls.mono hcall.out ?_
      intro en w3 hq
      obtain ⟨v0, v1, v2, v3, v4, v5, v6, v7, v8, rfl, k3, hF⟩ := (hfin w2 hb2 _ _).out en w3 hq
      have HF := hide hF
      obtain ⟨y0, y1, y2, y3, y4⟩ := k3.cell
      have yf := k3.frozen
      clear hF hq hfin hcall k3
      go_wp2_with fail
      refine bodyPost_ret (v := .tuple #[.agg #[.int .i64 v0, .int .i64 v1, .string v2, .slice v3 v4 v5, .slice v6 v7 v8], .bool false]) (by simp [results, Tryz.results38, go_sem, y0, y1, y2, y3, y4]) rfl ⟨_, by rw [hT.out], by rw [hT.out]; exact (HF.out _ rfl).1, (HF.out _ rfl).2⟩
  · have hT := hide (rowTell_none (f := f) hrow)
    have hcall := hide (told_fault e .nilIface why w1 hg1)
    unfold faultV
    clear hrow H
    go_wp2_with fail
    refine Calls.mono hcall.out ?_
    intro en w2 hq
    obtain ⟨v0, v1, v2, v3, v4, v5, v6, v7, v8, rfl, k3, hF⟩ := (hfin w1 (Below.refl _ _) _ _).out en w2 hq
    have HF := hide hF
    obtain ⟨y0, y1, y2, y3, y4⟩ := k3.cell
    have yf := k3.frozen
    clear hF hq hfin hcall k3
    go_wp2_with fail
    refine bodyPost_ret (v := .tuple #[.agg #[.int .i64 v0, .int .i64 v1, .string v2, .slice v3 v4 v5, .slice v6 v7 v8], .bool false]) (by simp [results, Tryz.results38, go_sem, y0, y1, y2, y3, y4]) rfl ⟨_, by rw [hT.out], by rw [hT.out]; exact (HF.out _ rfl).1, (HF.out _ rfl).2⟩
end Go.Proofs.YtilgbnnjecpneaaGreatDoor

/- ofRow of the program, at leastOfRow. -/
namespace Go.Proofs.YtilgbnnjecpneaaGreatDoor
open Go.RowKit Go.Deep

end Go.Proofs.YtilgbnnjecpneaaGreatDoor

/- RowSort, RowLeast of the program. -/
namespace Go.Proofs.YtilgbnnjecpneaaGreatDoor
open Go.RowKit Go.Deep

theorem GTo.cap {d N n c : Nat} {w : World} {a : Option Addr} {xs : List (Tr d)} {vs : List Value} (h : GTo N w (.slice a n c) xs vs) : n ≤ c := by
  rcases h.1.2 with ⟨e, h0⟩ | ⟨g, cap, cur, e, _, _, hn, _⟩
  · cases e; omega
  · cases e; exact hn
set_option maxRecDepth 100000 in
set_option maxHeartbeats 2000000 in
theorem sortedRow_any (d N : Nat) (xs : List (Tr (d + 1))) (a : Option Addr) (cap : Nat) (vs : List Value) (w : World) (hto : GTo N w (.slice a xs.length cap) xs vs) (hN : N ≤ w.heap.size) (hl : xs.length ≤ 60) (hnd : ∀ x ∈ xs, (nodes (d + 1) x : Int) ≤ 4194304) :
    Calls Tryz.prog 39 #[.slice a xs.length cap] w (TellF (d + 1) N (sortF (d + 1) xs) w) := by
  have hrow := hto.row (by omega)
  have hc := hto.cap
  have hcall := hide (inOrder_any d N xs.length xs a cap w (Nat.le_refl _) hN hrow hc (by omega) hnd)
  have HR := hide hrow
  clear hto hrow hnd
  go_enter Tryz.func39, Tryz.ntmps39
  go_wp2_with fail
  refine Calls.mono hcall.out ?_
  rintro e w2 hq
  obtain ⟨a2, c2, rfl, hc2, hr2⟩ := hq.row hN HR.out hc (by omega)
  have HB := hide (hq.1.mono hN)
  have HT : Hid (TreeG (fun b => N ≤ b ∧ b < w2.heap.size) w2 (d + 1 + 1) (rowT (d + 1) (sortL (ordT (d + 1)) xs)) (.iface 80 (.agg #[.slice a2 xs.length c2]))) := by
    have h := hr2
    have e := sort_len (ordT (d + 1)) xs
    rw [e] at h
    exact Or.inr (Or.inr (Or.inr (Or.inl ⟨_, _, by rw [e]; omega, rfl, rfl, h⟩)))
  clear hq hr2 hcall HR
  go_wp2_with fail
  go_ret2
  exact ⟨HB.out, Or.inl ⟨_, _, rfl, rfl, HT.out⟩⟩
set_option maxRecDepth 100000 in
set_option maxHeartbeats 2000000 in
theorem implRowSort_any (d : Nat) (S : Nat → Prop) (t : Tr (d + 1 + 1)) (v : Value) (w : World) (hv : ValAt S w (d + 1 + 1) t v) (hS : Within S w) (hg : ErrType w) :
    Calls Tryz.prog 12 #[v] w (TellQ (d + 1) (rowTell (sortF (d + 1)) t).1 (rowTell (sortF (d + 1)) t).2 w) := by
  obtain ⟨k, n, s, ak, lk, ck, al, ll, cl, rfl⟩ := hv.shape
  obtain ⟨W0, hW⟩ : ∃ W0, W0 = (w.alloc (.cells #[.int .i64 k, .int .i64 n, .string s, .slice ak lk ck, .slice al ll cl] 29)).alloc (.cells #[.int .i64 0, .int .i64 0, .string { data := #[] }, .slice none 0 0, .slice none 0 0] 29) := ⟨_, rfl⟩
  have hW0 : Below w.heap.size w W0 := by rw [hW]; exact below_trans (below_alloc1 _ _) (below_alloc1 _ _)
  have k1 : Blk5 W0 (w.heap.size + 1) 29 (.int .i64 0) (.int .i64 0) (.string { data := #[] }) (.slice none 0 0) (.slice none 0 0) := by
    have := Blk5.new (w.alloc (.cells #[.int .i64 k, .int .i64 n, .string s, .slice ak lk ck, .slice al ll cl] 29)) 29 (.int .i64 0) (.int .i64 0) (.string { data := #[] }) (.slice none 0 0) (.slice none 0 0)
    rw [World.size_alloc] at this
    rw [hW]
    exact this
  have hcall := hide (ofRow_sortedRow (d + 1) (d + 1) S t _ (sortF (d + 1)) W0 (hv.same (hS.same hW0)) (hS.later hW0.size) (hg.below hW0) (fun N xs a cap vs w1 hrow hto _ hN hg => by obtain ⟨hok, _, rfl⟩ := treesL_some hrow; exact sortedRow_any d N _ a cap vs w1 hto hN (okT_kinds hok).2.1 (fun x hx => by have h := nodes_ok (okT_part hok hx); omega)))
  have HW := hide hW
  have hlt := k1.lt
  clear hW hv
  go_enter Tryz.func12, Tryz.ntmps12
  go_wp2_with fail
  rw [← HW.out]
  clear HW
  refine Calls.mono hcall.out ?_
  rintro e w1 ⟨r, rfl, hr, hb1⟩
  obtain ⟨v0, v1, v2, v3, v4, v5, v6, v7, v8, rfl⟩ := (ValOwn.at _ _ _ _ hr).shape
  have HF := hide (tell_end hr (below_trans hW0 hb1) (by omega) hlt)
  have k3 := k1.below hb1
  obtain ⟨y0, y1, y2, y3, y4⟩ := k3.cell
  have yf := k3.frozen
  clear hr hb1 k3 k1 hcall hW0
  go_wp2_with fail
  refine bodyPost_ret (v := .tuple #[.agg #[.int .i64 v0, .int .i64 v1, .string v2, .slice v3 v4 v5, .slice v6 v7 v8], .bool (rowTell (sortF (d + 1)) t).2]) (by simp [results, Tryz.results12, go_sem, y0, y1, y2, y3, y4]) rfl ⟨_, rfl, (HF.out _ rfl).1, (HF.out _ rfl).2⟩
end Go.Proofs.YtilgbnnjecpneaaGreatDoor

/- Trees of the model's, appended behind others, wherever these lie. -/
namespace Go.Proofs.YtilgbnnjecpneaaGreatDoor
open Go.RowKit Go.Deep

/-- Trees of the model's, appended behind others. -/
theorem run_append_onto_valsW {d N : Nat} {S Sr : Nat → Prop} {w : World} {lv : Value} {xs : List (Tr d)} {vs : List Value} (h : VTo S N w lv xs vs) (hSN : ∀ b, S b → b < w.heap.size ∧ some b ≠ lv.ownBlock) (hN : N ≤ w.heap.size) (ys : List (Tr d)) (al : Option Addr) (cl n : Nat) (ty : TypeId) (hn : n = ys.length) (hv : RowAt Sr w (ValAt S w d) (.slice al n cl) ys) (hsm : xs.length + ys.length ≤ 100000) :
    ∃ v' w', (Builtin.append_ #[27, 27] ty #[lv, .slice al n cl]).run Tryz.prog w = .ok v' w' ∧ ((∃ vs', VTo S N w' v' (xs ++ ys) vs') ∧ w.grownBy w' lv.ownBlock ∧ (∃ a c, v' = .slice a (xs.length + ys.length) c) ∧ (v'.ownBlock = lv.ownBlock ∨ v'.ownBlock = some w.heap.size)) := by
  subst hn
  obtain ⟨i0, hi, hz0, hz1, hz2⟩ := info_parts Tryz.infoV2
  have hu : Tryz.prog.underlying 27 = some (.slice 29) := Tryz.underlying27
  have hform : ∃ a c, lv = .slice a xs.length c := h.slice
  by_cases h0 : ys = []
  · subst h0
    have hsame : ∃ v' w', (Builtin.append_ #[27, 27] ty #[lv, .slice al 0 cl]).run Tryz.prog w = .ok v' w' ∧ w'.ownsRow N 29 5 v' (xs.length + 0) (vs ++ []) ∧ w.grownBy w' lv.ownBlock ∧ (v'.ownBlock = lv.ownBlock ∨ v'.ownBlock = some w.heap.size) := by
      cases al with
      | none =>
        obtain ⟨_, a', c', hv', _⟩ := hv
        cases hv'
        rcases Nat.eq_zero_or_pos cl with rfl | hcl
        · exact ⟨lv, w, run_append_none hu hi hz1 w h.1, by rw [List.append_nil]; exact h.1, ⟨rfl, rfl, rfl, Nat.le_refl _, fun _ _ _ => rfl⟩, Or.inl rfl⟩
        · refine ⟨lv, w, ?_, by rw [List.append_nil]; exact h.1, ⟨rfl, rfl, rfl, Nat.le_refl _, fun _ _ _ => rfl⟩, Or.inl rfl⟩
          rcases h.1.2 with ⟨rfl, _⟩ | ⟨g, cap, cur, rfl, _, _, hle, _⟩
          · simp [Builtin.append_, run_underlying hu, sizeOf, typeInfo, hi, Builtin.lenOf, Builtin.firstCells, Result.andThen, hz1]
          · simp [Builtin.append_, run_underlying hu, sizeOf, typeInfo, hi, Builtin.lenOf, Builtin.firstCells, storeCells, Result.andThen, hz1, hle]
      | some a =>
        obtain ⟨v', w', hr, ho, hgr, _, hat⟩ := run_append_own_at (P := Tryz.prog) w N 27 ty 29 i0 zeroVal 5 80 hu hi hz0 hz1 hz2 rfl (by decide) lv xs.length vs h.1 a 0 cl [] rfl (fun j u hj => by simp at hj) (fun u hu => by simp at hu) (by unfold maxLen; omega) (by omega) hN
        exact ⟨v', w', hr, ho, hgr, hat⟩
    obtain ⟨v', w', hr, ho, hgr, hat⟩ := hsame
    rw [List.append_nil, Nat.add_zero] at ho
    have hs : Same S w w' := fun b hb => hgr.block b (hSN b hb).1 (hSN b hb).2
    have hto : VTo S N w' v' (xs ++ []) vs := by
      rw [List.append_nil]
      exact ⟨ho, fun j x hx => by obtain ⟨c0, c1, c2, c3, c4, e0, e1, e2, e3, e4, hvx⟩ := h.2 j x hx; exact ⟨c0, c1, c2, c3, c4, e0, e1, e2, e3, e4, hvx.same hs⟩⟩
    obtain ⟨a, c, e⟩ := hto.slice
    rw [List.append_nil] at e
    exact ⟨v', w', hr, ⟨vs, hto⟩, hgr, ⟨a, c, e⟩, hat⟩
  · have hpos : 0 < ys.length := List.length_pos_iff.2 h0
    obtain ⟨b, o, _, _, _, _, _, _, rfl, hbS, _⟩ := hv.cell hpos
    have hcell : ∀ i x, ys[i]? = some x → ∃ c0 c1 c2 c3 c4, w.cell? ⟨b, o + i * 5, none⟩ = some c0 ∧ w.cell? ⟨b, o + i * 5 + 1, none⟩ = some c1 ∧ w.cell? ⟨b, o + i * 5 + 2, none⟩ = some c2 ∧ w.cell? ⟨b, o + i * 5 + 3, none⟩ = some c3 ∧ w.cell? ⟨b, o + i * 5 + 4, none⟩ = some c4 ∧ ValAt S w d x (.agg #[c0, c1, c2, c3, c4]) := by
      intro i x hx
      obtain ⟨b', o', x', c0, c1, c2, c3, c4, e', _, hx', e0, e1, e2, e3, e4, hval⟩ := hv.cell (List.getElem?_eq_some_iff.1 hx).1
      cases e'
      rw [hx] at hx'
      cases hx'
      exact ⟨c0, c1, c2, c3, c4, e0, e1, e2, e3, e4, hval⟩
    have hex : ∀ j, j < ys.length * 5 → ∃ u, w.cell? ⟨b, o + j, none⟩ = some u ∧ u.oneCell' = true := by
      intro j hj
      obtain ⟨c0, c1, c2, c3, c4, e0, e1, e2, e3, e4, hval⟩ := hcell (j / 5) _ (List.getElem?_eq_getElem (show j / 5 < ys.length by omega))
      obtain ⟨q0, q1, q2, q3, q4, q5, q6, q7, q8, hq⟩ := hval.shape
      cases hq
      rcases (by omega : j = j / 5 * 5 ∨ j = j / 5 * 5 + 1 ∨ j = j / 5 * 5 + 2 ∨ j = j / 5 * 5 + 3 ∨ j = j / 5 * 5 + 4) with e | e | e | e | e
      · exact ⟨_, by rw [e]; exact e0, rfl⟩
      · exact ⟨_, by rw [e, ← Nat.add_assoc]; exact e1, rfl⟩
      · exact ⟨_, by rw [e, ← Nat.add_assoc]; exact e2, rfl⟩
      · exact ⟨_, by rw [e, ← Nat.add_assoc]; exact e3, rfl⟩
      · exact ⟨_, by rw [e, ← Nat.add_assoc]; exact e4, rfl⟩
    obtain ⟨news, hnl, hnews⟩ : ∃ news : List Value, news.length = ys.length * 5 ∧ ∀ j, j < ys.length * 5 → ∃ u, news[j]? = some u ∧ w.cell? ⟨b, o + j, none⟩ = some u ∧ u.oneCell' = true := by
      refine ⟨(List.range (ys.length * 5)).map (fun j => (w.cell? ⟨b, o + j, none⟩).getD undef), by simp, fun j hj => ?_⟩
      obtain ⟨u, hu, h1⟩ := hex j hj
      exact ⟨u, by simp [hj, hu], hu, h1⟩
    have hone : ∀ u ∈ news, u.oneCell' = true := by
      intro u hu
      obtain ⟨j, hj⟩ := List.getElem?_of_mem hu
      have hjl := (List.getElem?_eq_some_iff.1 hj).1
      obtain ⟨u', hu', _, h1⟩ := hnews j (by omega)
      rw [hj] at hu'
      cases hu'
      exact h1
    have hadd : ∀ j, (⟨b, o, none⟩ : Addr).add j = ⟨b, o + j, none⟩ := fun j => by unfold Addr.add; split <;> simp_all
    obtain ⟨v', w', hr, ho, hgr, _, hat⟩ := run_append_own_at (P := Tryz.prog) w N 27 ty 29 i0 zeroVal 5 80 hu hi hz0 hz1 hz2 rfl (by decide) lv xs.length vs h.1 ⟨b, o, none⟩ ys.length cl news hnl
      (fun j u hj => by rw [hadd]; obtain ⟨u', h1, h2, _⟩ := hnews j (by have := (List.getElem?_eq_some_iff.1 hj).1; omega); rw [hj] at h1; cases h1; exact h2) hone (by unfold maxLen; omega) (by omega) hN
    have hsame : Same S w w' := fun c hc => hgr.block c (hSN c hc).1 (hSN c hc).2
    have hlen : vs.length = xs.length * 5 := h.1.1
    have hto : VTo S N w' v' (xs ++ ys) (vs ++ news) := by
      refine ⟨by rw [List.length_append]; exact ho, fun j x hx => ?_⟩
      by_cases e : j < xs.length
      · rw [List.getElem?_append_left e] at hx
        obtain ⟨c0, c1, c2, c3, c4, e0, e1, e2, e3, e4, hvx⟩ := h.2 j x hx
        refine ⟨c0, c1, c2, c3, c4, ?_, ?_, ?_, ?_, ?_, hvx.same hsame⟩
        · rw [List.getElem?_append_left (by omega)]; exact e0
        · rw [List.getElem?_append_left (by omega)]; exact e1
        · rw [List.getElem?_append_left (by omega)]; exact e2
        · rw [List.getElem?_append_left (by omega)]; exact e3
        · rw [List.getElem?_append_left (by omega)]; exact e4
      · rw [List.getElem?_append_right (by omega)] at hx
        obtain ⟨c0, c1, c2, c3, c4, e0, e1, e2, e3, e4, hval⟩ := hcell _ x hx
        have hjl := (List.getElem?_eq_some_iff.1 hx).1
        have hn : ∀ m c, m < 5 → w.cell? ⟨b, o + ((j - xs.length) * 5 + m), none⟩ = some c → (vs ++ news)[j * 5 + m]? = some c := fun m c hm hc => by
          rw [List.getElem?_append_right (by omega), show j * 5 + m - vs.length = (j - xs.length) * 5 + m by omega]
          obtain ⟨u, h1, h2, _⟩ := hnews ((j - xs.length) * 5 + m) (by omega)
          rw [hc] at h2
          cases h2
          exact h1
        exact ⟨c0, c1, c2, c3, c4, hn 0 _ (by omega) e0, hn 1 _ (by omega) (by rw [← Nat.add_assoc]; exact e1), hn 2 _ (by omega) (by rw [← Nat.add_assoc]; exact e2), hn 3 _ (by omega) (by rw [← Nat.add_assoc]; exact e3), hn 4 _ (by omega) (by rw [← Nat.add_assoc]; exact e4), hval.same hsame⟩
    obtain ⟨a, c, e⟩ := hto.slice
    rw [List.length_append] at e
    exact ⟨v', w', hr, ⟨_, hto⟩, hgr, ⟨a, c, e⟩, hat⟩
end Go.Proofs.YtilgbnnjecpneaaGreatDoor
