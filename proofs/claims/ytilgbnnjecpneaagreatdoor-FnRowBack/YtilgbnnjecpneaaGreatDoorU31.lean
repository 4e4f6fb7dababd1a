/- Texts of the proof, put together by program: WCutA, WCapT, WCutP, WMrgI, PMrg, WOfsortedRow, WOfleastOfRow, WMrgR. -/
import Derived.Test.YtilgbnnjecpneaaGreatDoorU25
import Derived.Test.YtilgbnnjecpneaaGreatDoorU3
import Derived.Test.YtilgbnnjecpneaaGreatDoorU30
import Derived.Test.YtilgbnnjecpneaaGreatDoorU29
import Derived.Test.YtilgbnnjecpneaaGreatDoorU24
import Derived.Test.YtilgbnnjecpneaaGreatDoorU22
/- Places of a piece: l1Max, l1Min, l4Edge of the model; fromStart, within, piece of the program. -/
namespace Go.Proofs.YtilgbnnjecpneaaGreatDoor
open Go.RowKit Go.Deep

/-- A place of so many, moved to the nearest end, if it is beyond. -/
def edge (i : Int) (n : Nat) : Nat := if i < 0 then (i + (n : Int)).toNat else min i.toNat n
theorem edge_le (i : Int) (n : Nat) : edge i n ≤ n := by
  unfold edge
  split <;> omega
theorem edge_neg {i : Int} {n : Nat} (h : i < 0) : edge i n = (i + (n : Int)).toNat := if_pos h
theorem edge_pos {i : Int} {n : Nat} (h : ¬ i < 0) : edge i n = min i.toNat n := if_neg h

set_option maxRecDepth 100000 in
theorem fromStart_cut (i : Int) (n : Nat) (w : World) (hi : I64 i) (hn : n ≤ 1000) : Calls Tryz.prog 116 #[.int .i64 i, .int .i64 (n : Int)] w fun e w' => e = .returned (.int .i64 (if i < 0 then i + (n : Int) else i)) ∧ w' = w := by
  obtain ⟨h1, h2⟩ := hi
  by_cases h : i < 0
  · rw [if_pos h]
    go_enter Tryz.func116, Tryz.ntmps116
    go_wp2_with fail
    go_ret
    exact ⟨rfl, rfl⟩
  · rw [if_neg h]
    go_enter Tryz.func116, Tryz.ntmps116
    go_wp2_with fail
    go_ret
    exact ⟨rfl, rfl⟩

set_option maxRecDepth 100000 in
theorem within_any (i : Int) (n : Nat) (w : World) (hi : I64 i) (hn : n ≤ 1000) : Calls Tryz.prog 99 #[.int .i64 i, .int .i64 (n : Int)] w fun e w' => e = .returned (.int .i64 (edge i n : Int)) ∧ w' = w := by
  by_cases h : i < 0
  · have hv : Hid (min (max (i + (n : Int)) 0) (n : Int) = (edge i n : Int)) := by
      show _ = (edge i n : Int)
      rw [edge_neg h]
      omega
    have hc := fromStart_cut i n w hi hn
    rw [if_pos h] at hc
    have HC := hide hc
    clear hc
    go_enter Tryz.func99, Tryz.ntmps99
    go_wp2_with fail
    refine Calls.mono HC.out ?_
    rintro e w1 ⟨rfl, rfl⟩
    go_wp2_with fail
    rw [hv.out]
    go_ret
    exact ⟨rfl, rfl⟩
  · have hv : Hid (min (max i 0) (n : Int) = (edge i n : Int)) := by
      show _ = (edge i n : Int)
      rw [edge_pos h]
      omega
    have hc := fromStart_cut i n w hi hn
    rw [if_neg h] at hc
    have HC := hide hc
    clear hc
    go_enter Tryz.func99, Tryz.ntmps99
    go_wp2_with fail
    refine Calls.mono HC.out ?_
    rintro e w1 ⟨rfl, rfl⟩
    go_wp2_with fail
    rw [hv.out]
    go_ret
    exact ⟨rfl, rfl⟩

/-- The two ends of a piece. -/
def cutA (i : Int) (n : Nat) : Nat := edge i n
def cutB (i j : Int) (n : Nat) : Nat := max (edge i n) (edge j n)
theorem cut_le (i j : Int) (n : Nat) : cutA i n ≤ cutB i j n ∧ cutB i j n ≤ n := by
  have h1 := edge_le i n
  have h2 := edge_le j n
  unfold cutA cutB
  omega
set_option maxRecDepth 100000 in
theorem piece_any (i j : Int) (n : Nat) (w : World) (hi : I64 i) (hj : I64 j) (hn : n ≤ 1000) : Calls Tryz.prog 80 #[.int .i64 i, .int .i64 j, .int .i64 (n : Int)] w fun e w' => e = .returned (.tuple #[.int .i64 (cutA i n : Int), .int .i64 (cutB i j n : Int)]) ∧ w' = w := by
  have hv : Hid (max (edge i n : Int) (edge j n : Int) = (cutB i j n : Int)) := by
    show _ = (cutB i j n : Int)
    unfold cutB
    omega
  go_enter Tryz.func80, Tryz.ntmps80
  go_wp2_with fail
  refine (within_any i n w hi hn).mono ?_
  rintro e w1 ⟨rfl, rfl⟩
  go_wp2_with fail
  refine (within_any j n _ hj hn).mono ?_
  rintro e w2 ⟨rfl, rfl⟩
  go_wp2_with fail
  go_ret2
  exact ⟨by rw [← hv.out]; rfl, rfl⟩
end Go.Proofs.YtilgbnnjecpneaaGreatDoor

/- toVal: the list of what it makes has room for its trees. -/
namespace Go.Proofs.YtilgbnnjecpneaaGreatDoor
open Go.RowKit

end Go.Proofs.YtilgbnnjecpneaaGreatDoor

/- RowCut: pieces of rows and texts. -/
namespace Go.Proofs.YtilgbnnjecpneaaGreatDoor
open Go.RowKit Go.Deep

/-- A text as a tree. -/
def wordT (d : Nat) (s : ByteArray) : Tr (d + 1) := (Nd.mk 4 0 s [] [] : Nd (Tr d))
/-- A piece of a row, or of a text. -/
def cutF (d : Nat) (t : Tr (d + 1)) (i j : Int) : Option (Tr (d + 1)) :=
  if Nd.kind t = 5 then some (rowT d (((Nd.list t).drop (cutA i (Nd.list t).length)).take (cutB i j (Nd.list t).length - cutA i (Nd.list t).length)))
  else if Nd.kind t = 4 then some (wordT d ((Nd.str t).extract (cutA i (Nd.str t).size) (cutB i j (Nd.str t).size))) else none
/-- What RowCut tells. -/
def cutR (d : Nat) (t : Tr (d + 1)) (i j : Int) : Tr (d + 1) × Bool :=
  if okT (d + 1) t = true then (match cutF d t i j with | none => (zeroT d, false) | some x => (toldT d x, okT (d + 1) x)) else (zeroT d, false)
theorem cutR_bad {d : Nat} {t : Tr (d + 1)} {i j : Int} (h : okT (d + 1) t = false) : cutR d t i j = (zeroT d, false) := if_neg (by rw [h]; simp)
theorem cutR_none {d : Nat} {t : Tr (d + 1)} {i j : Int} (h : cutF d t i j = none) : cutR d t i j = (zeroT d, false) := by
  unfold cutR
  split
  · rw [h]
  · rfl
theorem cutR_some {d : Nat} {t x : Tr (d + 1)} {i j : Int} (h : okT (d + 1) t = true) (hx : cutF d t i j = some x) : cutR d t i j = (toldT d x, okT (d + 1) x) := by
  unfold cutR
  rw [if_pos h, hx]
theorem cutF_row {d : Nat} {t : Tr (d + 1)} {i j : Int} (h : Nd.kind t = 5) : cutF d t i j = some (rowT d (((Nd.list t).drop (cutA i (Nd.list t).length)).take (cutB i j (Nd.list t).length - cutA i (Nd.list t).length))) := if_pos h
theorem cutF_word {d : Nat} {t : Tr (d + 1)} {i j : Int} (h : Nd.kind t = 4) : cutF d t i j = some (wordT d ((Nd.str t).extract (cutA i (Nd.str t).size) (cutB i j (Nd.str t).size))) := by
  unfold cutF
  rw [if_neg (by rw [h]; decide), if_pos h]
theorem cutF_other {d : Nat} {t : Tr (d + 1)} {i j : Int} (h5 : Nd.kind t ≠ 5) (h4 : Nd.kind t ≠ 4) : cutF d t i j = none := by
  unfold cutF
  rw [if_neg h5, if_neg h4]

theorem RowAt.cut {α : Type} {S : Nat → Prop} {w : World} {At : α → Value → Prop} {b o n cap : Nat} {xs : List α} (h : RowAt S w At (.slice (some ⟨b, o, none⟩) n cap) xs) {p q : Nat} (c' : Nat) (hpq : p ≤ q) (hq : q ≤ xs.length) : RowAt S w At (.slice (some ⟨b, o + p * 5, none⟩) (q - p) c') ((xs.drop p).take (q - p)) := by
  obtain ⟨h1, a', cap', hv, h3⟩ := h
  have hl : ((xs.drop p).take (q - p)).length = q - p := by rw [List.length_take, List.length_drop]; omega
  refine ⟨by omega, some ⟨b, o + p * 5, none⟩, c', by rw [hl], ?_⟩
  rcases h3 with rfl | ⟨b', o', hB, ha, hc⟩
  · exact Or.inl (by simp)
  · simp at hv
    obtain ⟨e1, _, _⟩ := hv
    rw [← e1] at ha
    simp at ha
    obtain ⟨rfl, rfl⟩ := ha
    refine Or.inr ⟨b, o + p * 5, hB, rfl, fun i x hx => ?_⟩
    have hi := (List.getElem?_eq_some_iff.1 hx).1
    rw [hl] at hi
    rw [List.getElem?_take_of_lt hi, List.getElem?_drop] at hx
    have hh := hc (p + i) x hx
    rw [show o + (p + i) * 5 = o + p * 5 + i * 5 by omega] at hh
    exact hh
theorem Row1At.cut {α : Type} {S : Nat → Prop} {w : World} {At : α → Value → Prop} {b o n cap : Nat} {xs : List α} (h : Row1At S w At (.slice (some ⟨b, o, none⟩) n cap) xs) {p q : Nat} (c' : Nat) (hpq : p ≤ q) (hq : q ≤ xs.length) : Row1At S w At (.slice (some ⟨b, o + p, none⟩) (q - p) c') ((xs.drop p).take (q - p)) := by
  obtain ⟨h1, a', cap', hv, h3⟩ := h
  have hl : ((xs.drop p).take (q - p)).length = q - p := by rw [List.length_take, List.length_drop]; omega
  refine ⟨by omega, some ⟨b, o + p, none⟩, c', by rw [hl], ?_⟩
  rcases h3 with rfl | ⟨b', o', hB, ha, hc⟩
  · exact Or.inl (by simp)
  · simp at hv
    obtain ⟨e1, _, _⟩ := hv
    rw [← e1] at ha
    simp at ha
    obtain ⟨rfl, rfl⟩ := ha
    refine Or.inr ⟨b, o + p, hB, rfl, fun i x hx => ?_⟩
    have hi := (List.getElem?_eq_some_iff.1 hx).1
    rw [hl] at hi
    rw [List.getElem?_take_of_lt hi, List.getElem?_drop] at hx
    have hh := hc (p + i) x hx
    rw [show o + (p + i) = o + p + i by omega] at hh
    exact hh
/-- A row of nothing, wherever. -/
theorem RowAt.noneR {α : Type} {S : Nat → Prop} {w : World} {At : α → Value → Prop} (a : Option Addr) (c : Nat) : RowAt S w At (.slice a 0 c) ([] : List α) := ⟨by simp, a, c, rfl, Or.inl rfl⟩
theorem Row1At.noneR {α : Type} {S : Nat → Prop} {w : World} {At : α → Value → Prop} (a : Option Addr) (c : Nat) : Row1At S w At (.slice a 0 c) ([] : List α) := ⟨by simp, a, c, rfl, Or.inl rfl⟩
theorem add_at (b o m : Nat) : (⟨b, o, Option.none⟩ : Addr).add m = ⟨b, o + m, Option.none⟩ := by unfold Addr.add; split <;> simp_all
theorem RowAt.piece {α : Type} {S : Nat → Prop} {w : World} {At : α → Value → Prop} {al : Option Addr} {cap : Nat} {xs : List α} (h : RowAt S w At (.slice al xs.length cap) xs) {p q : Nat} (c' : Nat) (hpq : p ≤ q) (hq : q ≤ xs.length) : RowAt S w At (.slice (al.map (fun x => x.add (p * 5))) (q - p) c') ((xs.drop p).take (q - p)) := by
  by_cases h0 : xs = []
  · subst h0
    have : q - p = 0 := by simp at hq; omega
    rw [this]
    simp
    exact RowAt.noneR _ _
  · obtain ⟨b, o, _, _, _, _, _, _, rfl, _⟩ := h.cell (List.length_pos_iff.2 h0)
    have := h.cut c' hpq hq
    rw [Option.map_some, add_at]
    exact this
theorem Row1At.piece {α : Type} {S : Nat → Prop} {w : World} {At : α → Value → Prop} {al : Option Addr} {cap : Nat} {xs : List α} (h : Row1At S w At (.slice al xs.length cap) xs) {p q : Nat} (c' : Nat) (hpq : p ≤ q) (hq : q ≤ xs.length) : Row1At S w At (.slice (al.map (fun x => x.add p)) (q - p) c') ((xs.drop p).take (q - p)) := by
  by_cases h0 : xs = []
  · subst h0
    have : q - p = 0 := by simp at hq; omega
    rw [this]
    simp
    exact Row1At.noneR _ _
  · have h' := h
    obtain ⟨_, a', cap', hv, h3⟩ := h'
    rcases h3 with h3 | ⟨b, o, _, ha, _⟩
    · exact absurd h3 h0
    · simp at hv
      obtain ⟨e1, _⟩ := hv
      rw [← e1] at ha
      subst ha
      have := h.cut c' hpq hq
      rw [Option.map_some, add_at]
      exact this
end Go.Proofs.YtilgbnnjecpneaaGreatDoor

/- inOrder of the program. -/
namespace Go.Proofs.YtilgbnnjecpneaaGreatDoor
open Go.RowKit Go.Deep

/-- What inOrder gives: the row itself, if it has less than two trees; else a row of its own. -/
def InQ (N : Nat) {d : Nat} (xs : List (Tr d)) (a : Option Addr) (cap : Nat) (w : World) (e : Ending) (w' : World) : Prop :=
  Below w.heap.size w w' ∧ ((xs.length < 2 ∧ e = .returned (.slice a xs.length cap) ∧ w' = w) ∨ (2 ≤ xs.length ∧ ∃ a' c' vs M, e = .returned (.slice a' xs.length c') ∧ w.heap.size ≤ M ∧ GF (fun b => N ≤ b ∧ b < M) M w' (.slice a' xs.length c') (sortL (ordT d) xs) vs))
theorem InQ.row {N d : Nat} {xs : List (Tr (d + 1))} {a : Option Addr} {cap : Nat} {w w' : World} {e : Ending} (h : InQ N xs a cap w e w') (hN : N ≤ w.heap.size) (hx : Row1At (fun b => N ≤ b ∧ b < w.heap.size) w (TreeG (fun b => N ≤ b ∧ b < w.heap.size) w (d + 1)) (.slice a xs.length cap) xs) (hc : xs.length ≤ cap) (hl : xs.length ≤ 1000) :
    ∃ a' c', e = .returned (.slice a' xs.length c') ∧ xs.length ≤ c' ∧ Row1At (fun b => N ≤ b ∧ b < w'.heap.size) w' (TreeG (fun b => N ≤ b ∧ b < w'.heap.size) w' (d + 1)) (.slice a' (sortL (ordT (d + 1)) xs).length c') (sortL (ordT (d + 1)) xs) := by
  rcases h.2 with ⟨h2, rfl, rfl⟩ | ⟨h2, a', c', vs, M, rfl, hM, hg⟩
  · refine ⟨a, cap, rfl, hc, ?_⟩
    rw [sort_few h2]
    exact hx
  · refine ⟨a', c', rfl, hg.cap, ?_⟩
    rw [sort_len]
    have hlt : M ≤ w'.heap.size ∨ xs.length = 0 := by
      rcases hg.1.2 with ⟨_, h0⟩ | ⟨g, cp, cur, _, hgM, hh, _⟩
      · exact Or.inr (by rw [sort_len] at h0; exact h0)
      · exact Or.inl (by have := (Array.getElem?_eq_some_iff.1 hh).1; omega)
    have hMw : M ≤ w'.heap.size := by omega
    have hr := hg.row (M := N) (by rw [sort_len]; exact hl) (by omega) (fun b hb => ⟨hb.1, by have := hb.2; omega⟩)
    exact hr
theorem half_div (n : Nat) : (n : Int).tdiv 2 = ((n / 2 : Nat) : Int) := by
  rw [Int.tdiv_eq_ediv_of_nonneg (by omega)]
  omega

set_option maxRecDepth 100000 in
set_option maxHeartbeats 8000000 in
theorem inOrder_any (d N : Nat) : ∀ (k : Nat) (xs : List (Tr (d + 1))) (a : Option Addr) (cap : Nat) (w : World), xs.length ≤ k → N ≤ w.heap.size → Row1At (fun b => N ≤ b ∧ b < w.heap.size) w (TreeG (fun b => N ≤ b ∧ b < w.heap.size) w (d + 1)) (.slice a xs.length cap) xs → xs.length ≤ cap → xs.length ≤ 1000 → (∀ x ∈ xs, (nodes (d + 1) x : Int) ≤ 4194304) →
    Calls Tryz.prog 63 #[.slice a xs.length cap, .func (.func 64) #[] #[]] w (InQ N xs a cap w) := by
  intro k
  induction k with
  | zero =>
    intro xs a cap w hk hN hx hc hl hnd
    have h2 : xs.length < 2 := by omega
    have h2i : (xs.length : Int) < 2 := by omega
    have HX := hide hx
    clear hx
    go_enter Tryz.func63, Tryz.ntmps63
    go_wp2_with fail
    go_ret
    exact ⟨Below.refl _ _, Or.inl ⟨h2, rfl, rfl⟩⟩
  | succ k ih =>
    intro xs a cap w hk hN hx hc hl hnd
    by_cases h2 : xs.length < 2
    · have h2i : (xs.length : Int) < 2 := by omega
      clear hx hnd ih
      go_enter Tryz.func63, Tryz.ntmps63
      go_wp2_with fail
      go_ret
      exact ⟨Below.refl _ _, Or.inl ⟨h2, rfl, rfl⟩⟩
    · have h2i : ¬ (xs.length : Int) < 2 := by omega
      have hdv := half_div xs.length
      obtain ⟨m, hm⟩ : ∃ m, m = xs.length / 2 := ⟨_, rfl⟩
      rw [← hm] at hdv
      have hm1 : m + 1 ≤ xs.length := by omega
      have hm2 : 1 ≤ m := by omega
      have hcm : ¬ cap = m := by omega
      have hmi1 : (m : Int) ≤ (cap : Int) := by omega
      have hmi2 : (m : Int) ≤ (xs.length : Int) := by omega
      have hmi3 : m ≤ cap := by omega
      have hmi4 : m ≤ xs.length := by omega
      have hmi5 : (0 : Int) ≤ (m : Int) := by omega
      have hmi6 : (xs.length : Int) ≤ (cap : Int) := by omega
      have hmi7 : ¬ (m : Int) < 0 := by omega
      obtain ⟨b, o, ha⟩ : ∃ b o, a = some ⟨b, o, none⟩ := by
        cases xs with
        | nil => simp at hm1
        | cons x r =>
          obtain ⟨b, o, _, ha, _⟩ := hx.first
          exact ⟨b, o, ha⟩
      subst ha
      have hyl : (xs.take m).length = m := by rw [List.length_take]; omega
      have hzl : (xs.drop m).length = xs.length - m := List.length_drop
      have hS0 : Within (fun b => N ≤ b ∧ b < w.heap.size) w := fun b hb => hb.2
      have hmv : ∀ (W : World) (v : Value) (zs : List (Tr (d + 1))), Below w.heap.size w W → Row1At (fun b => N ≤ b ∧ b < w.heap.size) w (TreeG (fun b => N ≤ b ∧ b < w.heap.size) w (d + 1)) v zs → Row1At (fun b => N ≤ b ∧ b < W.heap.size) W (TreeG (fun b => N ≤ b ∧ b < W.heap.size) W (d + 1)) v zs := fun W v zs hW h => by
        have hz := hW.size
        exact h.moved (hS0.same hW) (fun b hb => ⟨hb.1, by have := hb.2; omega⟩) (fun x u hx => TreeG.moved (hS0.same hW) (fun b hb => ⟨hb.1, by have := hb.2; omega⟩) (d + 1) x u hx)
      have hr1 : Row1At (fun b => N ≤ b ∧ b < w.heap.size) w (TreeG (fun b => N ≤ b ∧ b < w.heap.size) w (d + 1)) (.slice (some ⟨b, o, none⟩) (xs.take m).length cap) (xs.take m) := by
        have h := hx.cut (p := 0) (q := m) cap (Nat.zero_le _) (by omega)
        rw [Nat.add_zero o, Nat.sub_zero, List.drop_zero] at h
        rw [hyl]
        exact h
      have hr2 : Row1At (fun b => N ≤ b ∧ b < w.heap.size) w (TreeG (fun b => N ≤ b ∧ b < w.heap.size) w (d + 1)) (.slice (some ⟨b, o + m, none⟩) (xs.drop m).length (cap - m)) (xs.drop m) := by
        have h := hx.cut (p := m) (q := xs.length) (cap - m) (by omega) (Nat.le_refl _)
        rw [List.take_of_length_le (by rw [List.length_drop]; exact Nat.le_refl _)] at h
        rw [hzl]
        exact h
      have hDr : Below w.heap.size w w.drew := ⟨rfl, rfl, rfl, Nat.le_refl _, fun _ _ => rfl⟩
      have HI1 : Hid (∀ W, Below w.heap.size w W → Calls Tryz.prog 63 #[.slice (some ⟨b, o, none⟩) m cap, .func (.func 64) #[] #[]] W fun e w' => Below W.heap.size W w' ∧ ∃ a' c', e = .returned (.slice a' m c') ∧ (xs.take m).length ≤ c' ∧ Row1At (fun b => N ≤ b ∧ b < w'.heap.size) w' (TreeG (fun b => N ≤ b ∧ b < w'.heap.size) w' (d + 1)) (.slice a' (sortL (ordT (d + 1)) (xs.take m)).length c') (sortL (ordT (d + 1)) (xs.take m))) := by
        intro W hW
        have hz := hW.size
        have h := ih (xs.take m) (some ⟨b, o, none⟩) cap W (by omega) (by omega) (hmv W _ _ hW hr1) (by omega) (by omega) (fun x hx => hnd x (List.mem_of_mem_take hx))
        rw [hyl] at h
        refine h.mono (fun e w' hq => ⟨hq.1, ?_⟩)
        obtain ⟨a', c', e1, e2, e3⟩ := hq.row (by omega) (hmv W _ _ hW hr1) (by omega) (by omega)
        rw [hyl] at e1
        exact ⟨a', c', e1, e2, e3⟩
      have HI2 : Hid (∀ W, Below w.heap.size w W → Calls Tryz.prog 63 #[.slice (some ⟨b, o + m, none⟩) (xs.length - m) (cap - m), .func (.func 64) #[] #[]] W fun e w' => Below W.heap.size W w' ∧ ∃ a' c', e = .returned (.slice a' (xs.length - m) c') ∧ (xs.drop m).length ≤ c' ∧ Row1At (fun b => N ≤ b ∧ b < w'.heap.size) w' (TreeG (fun b => N ≤ b ∧ b < w'.heap.size) w' (d + 1)) (.slice a' (sortL (ordT (d + 1)) (xs.drop m)).length c') (sortL (ordT (d + 1)) (xs.drop m))) := by
        intro W hW
        have hz := hW.size
        have h := ih (xs.drop m) (some ⟨b, o + m, none⟩) (cap - m) W (by omega) (by omega) (hmv W _ _ hW hr2) (by omega) (by omega) (fun x hx => hnd x (List.mem_of_mem_drop hx))
        rw [hzl] at h
        refine h.mono (fun e w' hq => ⟨hq.1, ?_⟩)
        obtain ⟨a', c', e1, e2, e3⟩ := hq.row (by omega) (hmv W _ _ hW hr2) (by omega) (by omega)
        rw [hzl] at e1
        exact ⟨a', c', e1, e2, e3⟩
      have HMG : Hid (∀ (W wA : World) (a1 a2 : Option Addr) (c1 c2 : Nat), Below w.heap.size w wA → Below wA.heap.size wA W → (xs.take m).length ≤ c1 → Row1At (fun b => N ≤ b ∧ b < wA.heap.size) wA (TreeG (fun b => N ≤ b ∧ b < wA.heap.size) wA (d + 1)) (.slice a1 (sortL (ordT (d + 1)) (xs.take m)).length c1) (sortL (ordT (d + 1)) (xs.take m)) → (xs.drop m).length ≤ c2 → Row1At (fun b => N ≤ b ∧ b < W.heap.size) W (TreeG (fun b => N ≤ b ∧ b < W.heap.size) W (d + 1)) (.slice a2 (sortL (ordT (d + 1)) (xs.drop m)).length c2) (sortL (ordT (d + 1)) (xs.drop m)) →
          Calls Tryz.prog 90 #[.slice a1 m c1, .slice a2 (xs.length - m) c2, .func (.func 64) #[] #[]] W fun e w' => ∃ sv vs M, e = .returned sv ∧ GF (fun b => N ≤ b ∧ b < M) M w' sv (sortL (ordT (d + 1)) xs) vs ∧ Below W.heap.size W w' ∧ W.heap.size ≤ M) := by
        intro W wA a1 a2 c1 c2 hA hW g1 q1 g2 q2
        have hzA := hA.size
        have hzW := hW.size
        have hSA : Within (fun b => N ≤ b ∧ b < wA.heap.size) wA := fun b hb => hb.2
        have q1' := q1.moved (S' := fun b => N ≤ b ∧ b < W.heap.size) (At' := TreeG (fun b => N ≤ b ∧ b < W.heap.size) W (d + 1)) (hSA.same hW) (fun b hb => ⟨hb.1, by have := hb.2; omega⟩) (fun x u hx => TreeG.moved (hSA.same hW) (fun b hb => ⟨hb.1, by have := hb.2; omega⟩) (d + 1) x u hx)
        have e1 : (sortL (ordT (d + 1)) (xs.take m)).length = m := by rw [sort_len, hyl]
        have e2 : (sortL (ordT (d + 1)) (xs.drop m)).length = xs.length - m := by rw [sort_len, hzl]
        have h := merged_any d N W _ rfl (sortL (ordT (d + 1)) (xs.take m)) (sortL (ordT (d + 1)) (xs.drop m)) a1 a2 c1 c2 (by omega) q1' q2 (by rw [e1]; omega) (by rw [e2]; omega) (by rw [e1, e2]; omega) (fun x hx => hnd x (by
          rcases List.mem_append.1 hx with hx | hx
          · exact List.mem_of_mem_take (sort_mem.1 hx)
          · exact List.mem_of_mem_drop (sort_mem.1 hx))) (sortL_ord (ord_T (d + 1)) _) (sortL_ord (ord_T (d + 1)) _)
        rw [e1, e2, sort_halves, List.take_append_drop] at h
        exact h
      clear hm hx hnd ih hr1 hr2 hmv hS0 hyl hzl
      go_enter Tryz.func63, Tryz.ntmps63
      go_upto_region 4 with fail
      have htr : True := trivial
      go_region_held3 (fun _ => True)
        (exact trivial)
        (first
          | (go_at_call 63; have hseen := HA; clear hseen; refine (HI2.out _ HA.out).mono ?_; rintro eB wB ⟨hbB, a2, c2, rfl, g2, q2⟩; have HB := hide hbB; have bB := below_trans HA.out hbB; have HQ2 := hide (And.intro g2 q2); clear hbB g2 q2)
          | (go_at_call 63; refine (HI1.out _ hDr).mono ?_; rintro eA wA ⟨hbA, a1, c1, rfl, g1, q1⟩; have HA := hide (below_trans hDr hbA); have HQ1 := hide (And.intro g1 q1); clear hbA g1 q1)
          | (go_at_call 90; refine (HMG.out _ _ _ _ _ _ HA.out HB.out HQ1.out.1 HQ1.out.2 HQ2.out.1 HQ2.out.2).mono ?_; rintro eC wC ⟨sv, vs, M, rfl, hg, hbC, hM⟩; have HC := hide (below_trans bB hbC); have HG := hide hg; clear hg hbC))
      all_goals
        obtain ⟨a3, c3, rfl⟩ := HG.out.slice
        have hGG := HG.out
        rw [sort_len] at hGG
        have hsz := bB.size
        have h22 : 2 ≤ xs.length := by omega
        have hwM : w.heap.size ≤ M := by omega
        have HF := hide hGG
        have hls := sort_len (ordT (d + 1)) xs
        rw [hls]
        clear hGG HG HA HB HQ1 HQ2 HI1 HI2 HMG hls
        go_wp2_with fail
        go_ret
        exact ⟨HC.out, Or.inr ⟨h22, a3, c3, vs, M, rfl, hwM, HF.out⟩⟩
end Go.Proofs.YtilgbnnjecpneaaGreatDoor

/- RowSort, RowLeast: what they tell. -/
namespace Go.Proofs.YtilgbnnjecpneaaGreatDoor
open Go.RowKit Go.Deep

/-- The first of a row by its order; nothing, if it is empty. -/
def leastF (d : Nat) (xs : List (Tr (d + 1))) : Option (Tr (d + 1)) :=
  match sortL (ordT (d + 1)) xs with
  | [] => some (zeroT d)
  | x :: _ => some x
theorem least_cons {d : Nat} {xs r : List (Tr (d + 1))} {x : Tr (d + 1)} (h : sortL (ordT (d + 1)) xs = x :: r) : leastF d xs = some x := by
  unfold leastF
  rw [h]
end Go.Proofs.YtilgbnnjecpneaaGreatDoor

/- ofRow of the program, at sortedRow. -/
namespace Go.Proofs.YtilgbnnjecpneaaGreatDoor
open Go.RowKit Go.Deep

end Go.Proofs.YtilgbnnjecpneaaGreatDoor

/- ofRow of the program, at leastOfRow. -/
namespace Go.Proofs.YtilgbnnjecpneaaGreatDoor
open Go.RowKit Go.Deep

set_option maxRecDepth 100000 in
set_option maxHeartbeats 2000000 in
theorem ofRow_leastOfRow (d e : Nat) (S : Nat → Prop) (t : Tr (d + 1)) (v : Value) (f : List (Tr d) → Option (Tr (e + 1))) (w : World) (hv : ValAt S w (d + 1) t v) (hS : Within S w) (hg : ErrType w)
    (H : Hid (∀ (N : Nat) (xs : List (Tr d)) (a : Option Addr) (cap : Nat) (vs : List Value) (w1 : World), treesL d t = some xs → GTo N w1 (.slice a xs.length cap) xs vs → w.heap.size ≤ N → N ≤ w1.heap.size → ErrType w1 → Calls Tryz.prog 48 #[.slice a xs.length cap] w1 (TellF e N (f xs) w1))) :
    Calls Tryz.prog 38 #[v, .func (.func 48) #[] #[]] w (TellQ e (rowTell f t).1 (rowTell f t).2 w) := by
  obtain ⟨k, n, s, ak, lk, ck, al, ll, cl, rfl⟩ := hv.shape
  obtain ⟨W0, hW⟩ : ∃ W0, W0 = (w.alloc (.cells #[.int .i64 k, .int .i64 n, .string s, .slice ak lk ck, .slice al ll cl] 29)).alloc (.cells #[.int .i64 0, .int .i64 0, .string { data := #[] }, .slice none 0 0, .slice none 0 0] 29) := ⟨_, rfl⟩
  have hW0 : Below w.heap.size w W0 := by rw [hW]; exact below_trans (below_alloc1 _ _) (below_alloc1 _ _)
  have k1 : Blk5 W0 (w.heap.size + 1) 29 (.int .i64 0) (.int .i64 0) (.string { data := #[] }) (.slice none 0 0) (.slice none 0 0) := by
    have := Blk5.new (w.alloc (.cells #[.int .i64 k, .int .i64 n, .string s, .slice ak lk ck, .slice al ll cl] 29)) 29 (.int .i64 0) (.int .i64 0) (.string { data := #[] }) (.slice none 0 0) (.slice none 0 0)
    rw [World.size_alloc] at this
    rw [hW]
    exact this
  have HW := hide hW
  clear hW
  go_enter Tryz.func38, Tryz.ntmps38
  go_wp2_with fail
  rw [← HW.out]
  clear HW
  refine (treesInRow_own d S t _ W0 (hv.same (hS.same hW0)) (hS.later hW0.size)).mono ?_
  rintro en w1 ⟨hb1, hq⟩
  have hB1 := below_trans hW0 hb1
  have k2 := k1.below hb1
  have hg1 := hg.below hB1
  have hl1 := k1.lt
  have hs0 := hW0.size
  have hs1 := hb1.size
  clear hv
  -- what is told, however it is
  have hfin : ∀ (w1' : World), Below W0.heap.size w1 w1' → ∀ (x : Tr (e + 1)) (ok : Bool), Hid (∀ en w2, TellQ e x ok w1' en w2 → ∃ v0 v1 v2 v3 v4 v5 v6 v7 v8, en = .returned (.tuple #[.agg #[.int .i64 v0, .int .i64 v1, .string v2, .slice v3 v4 v5, .slice v6 v7 v8], .bool ok]) ∧
      Blk5 w2 (w.heap.size + 1) 29 (.int .i64 0) (.int .i64 0) (.string { data := #[] }) (.slice none 0 0) (.slice none 0 0) ∧
      ∀ wF, wF = set5 w2 (w.heap.size + 1) 0 (.int .i64 v0) (.int .i64 v1) (.string v2) (.slice v3 v4 v5) (.slice v6 v7 v8) → ValOwn wF (e + 1) (Fresh w wF) x (.agg #[.int .i64 v0, .int .i64 v1, .string v2, .slice v3 v4 v5, .slice v6 v7 v8]) ∧ Below w.heap.size w wF) := fun w1' hb' x ok => by
    intro en w2 ⟨v, he, hv, hb2⟩
    obtain ⟨v0, v1, v2, v3, v4, v5, v6, v7, v8, rfl⟩ := (ValOwn.at _ _ _ _ hv).shape
    have hs' := hb'.size
    exact ⟨v0, v1, v2, v3, v4, v5, v6, v7, v8, he, (k2.of_block (hb'.block _ hl1)).below hb2, tell_end hv (below_trans (hB1.trans (hb'.mono hs0)) hb2) (by omega) (by omega)⟩
  clear hW0 k1 hb1
  rcases hq with ⟨xs, xa, xc, vs, hrow, rfl, hto⟩ | ⟨hrow, why, rfl⟩
  · have hcall := hide (H.out W0.heap.size xs xa xc vs w1 hrow hto hs0 hs1 hg1)
    have HR := hide hrow
    clear hto H hrow
    go_wp2_with fail
    refine Calls.mono hcall.out ?_
    rintro en w2 ⟨hb2, hq⟩
    clear hcall
    have hz2 := hb2.size
    have h00 : 0 < W0.heap.size := Nat.lt_of_lt_of_le hg.lt hs0
    have hg2 : ErrType w2 := (hb2.cell (p := ⟨0, 0, none⟩) h00).trans hg1
    rcases hq with ⟨x, u, hx, rfl, hu⟩ | ⟨hx, why, rfl⟩
    · obtain ⟨T, u', rfl⟩ := hu.iface
      have hT := hide (rowTell_some HR.out hx)
      have hcall := hide (told_tree e _ x _ w2 hu (fun b hb => hb.2))
      clear hx hu
      go_wp2_with fail
      refine Calls.mono hcall.out ?_
      intro en w3 hq
      obtain ⟨v0, v1, v2, v3, v4, v5, v6, v7, v8, rfl, k3, hF⟩ := (hfin w2 hb2 _ _).out en w3 hq
      have HF := hide hF
      obtain ⟨y0, y1, y2, y3, y4⟩ := k3.cell
      have yf := k3.frozen
      clear hF hq hfin hcall k3
      go_wp2_with fail
      refine bodyPost_ret (v := .tuple #[.agg #[.int .i64 v0, .int .i64 v1, .string v2, .slice v3 v4 v5, .slice v6 v7 v8], .bool (okT (e + 1) x)]) (by simp [results, Tryz.results38, go_sem, y0, y1, y2, y3, y4]) rfl ⟨_, by rw [hT.out], by rw [hT.out]; exact (HF.out _ rfl).1, (HF.out _ rfl).2⟩
    · have hT := hide (rowTell_fault HR.out hx)
      have hcall := hide (told_fault e .nilIface why w2 hg2)
      unfold faultV
      clear hx
      go_wp2_with fail
      refine Calls.mono hcall.out ?_
      intro en w3 hq
      obtain ⟨v0, v1, v2, v3, v4, v5, v6, v7, v8, rfl, k3, hF⟩ := (hfin w2 hb2 _ _).out en w3 hq
      have HF := hide hF
      obtain ⟨y0, y1, y2, y3, y4⟩ := k3.cell
      have yf := k3.frozen
      clear hF hq hfin hcall k3
      go_wp2_with fail
      refine bodyPost_ret (v := .tuple #[.agg #[.int .i64 v0, .int .i64 v1, .string v2, .slice v3 v4 v5, .slice v6 v7 v8], .bool false]) (by simp [results, Tryz.results38, go_sem, y0, y1, y2, y3, y4]) rfl ⟨_, by rw [hT.out], by rw [hT.out]; exact (HF.out _ rfl).1, (HF.out _ rfl).2⟩
  · have hT := hide (rowTell_none (f := f) hrow)
    have hcall := hide (told_fault e .nilIface why w1 hg1)
    unfold faultV
    clear hrow H
    go_wp2_with fail
    refine Calls.mono hcall.out ?_
    intro en w2 hq
    obtain ⟨v0, v1, v2, v3, v4, v5, v6, v7, v8, rfl, k3, hF⟩ := (hfin w1 (Below.refl _ _) _ _).out en w2 hq
    have HF := hide hF
    obtain ⟨y0, y1, y2, y3, y4⟩ := k3.cell
    have yf := k3.frozen
    clear hF hq hfin hcall k3
    go_wp2_with fail
    refine bodyPost_ret (v := .tuple #[.agg #[.int .i64 v0, .int .i64 v1, .string v2, .slice v3 v4 v5, .slice v6 v7 v8], .bool false]) (by simp [results, Tryz.results38, go_sem, y0, y1, y2, y3, y4]) rfl ⟨_, by rw [hT.out], by rw [hT.out]; exact (HF.out _ rfl).1, (HF.out _ rfl).2⟩
end Go.Proofs.YtilgbnnjecpneaaGreatDoor

/- RowSort, RowLeast of the program. -/
namespace Go.Proofs.YtilgbnnjecpneaaGreatDoor
open Go.RowKit Go.Deep

theorem GTo.cap {d N n c : Nat} {w : World} {a : Option Addr} {xs : List (Tr d)} {vs : List Value} (h : GTo N w (.slice a n c) xs vs) : n ≤ c := by
  rcases h.1.2 with ⟨e, h0⟩ | ⟨g, cap, cur, e, _, _, hn, _⟩
  · cases e; omega
  · cases e; exact hn
set_option maxRecDepth 100000 in
set_option maxHeartbeats 2000000 in
theorem leastOfRow_any (d N : Nat) (xs : List (Tr (d + 1))) (a : Option Addr) (cap : Nat) (vs : List Value) (w : World) (hto : GTo N w (.slice a xs.length cap) xs vs) (hN : N ≤ w.heap.size) (hl : xs.length ≤ 60) (hnd : ∀ x ∈ xs, (nodes (d + 1) x : Int) ≤ 4194304) :
    Calls Tryz.prog 48 #[.slice a xs.length cap] w (TellF d N (leastF d xs) w) := by
  have hrow := hto.row (by omega)
  have hc := hto.cap
  have hcall := hide (inOrder_any d N xs.length xs a cap w (Nat.le_refl _) hN hrow hc (by omega) hnd)
  have HR := hide hrow
  clear hto hrow hnd
  by_cases h0 : xs.length = 0
  · have hx := hide (List.eq_nil_of_length_eq_zero h0)
    rw [h0]
    clear hcall HR hc hl
    go_enter Tryz.func48, Tryz.ntmps48
    go_wp2_with fail
    go_ret2
    exact ⟨Below.refl _ _, Or.inl ⟨zeroT d, _, by rw [hx.out]; rfl, rfl, Or.inl ⟨0, by omega, rfl, rfl⟩⟩⟩
  · have h0b : ((xs.length : Int) == 0) = false := beq_false_of_ne (by omega)
    have h0p : (0 : Int) < (xs.length : Int) := by omega
    have h0n : 0 < xs.length := by omega
    go_enter Tryz.func48, Tryz.ntmps48
    go_wp2_with fail
    refine Calls.mono hcall.out ?_
    rintro e w2 hq
    obtain ⟨a2, c2, rfl, hc2, hr2⟩ := hq.row hN HR.out hc (by omega)
    have HB := hide (hq.1.mono hN)
    obtain ⟨x, r, hs⟩ : ∃ x r, sortL (ordT (d + 1)) xs = x :: r := by
      have e := sort_len (ordT (d + 1)) xs
      cases hz : sortL (ordT (d + 1)) xs with
      | nil => rw [hz] at e; simp at e; omega
      | cons x r => exact ⟨x, r, rfl⟩
    rw [hs] at hr2
    obtain ⟨b, o, u, rfl, hB, e0, hu⟩ := hr2.first
    have HL := hide (least_cons hs)
    have HU := hide hu
    obtain ⟨T, u', rfl⟩ := hu.iface
    clear hq hr2 hcall HR hs hu hB
    go_wp2_with fail
    go_ret2
    exact ⟨HB.out, Or.inl ⟨x, _, HL.out, rfl, HU.out⟩⟩

set_option maxRecDepth 100000 in
set_option maxHeartbeats 2000000 in
theorem implRowLeast_any (d : Nat) (S : Nat → Prop) (t : Tr (d + 1 + 1)) (v : Value) (w : World) (hv : ValAt S w (d + 1 + 1) t v) (hS : Within S w) (hg : ErrType w) :
    Calls Tryz.prog 19 #[v] w (TellQ (d) (rowTell (leastF d) t).1 (rowTell (leastF d) t).2 w) := by
  obtain ⟨k, n, s, ak, lk, ck, al, ll, cl, rfl⟩ := hv.shape
  obtain ⟨W0, hW⟩ : ∃ W0, W0 = (w.alloc (.cells #[.int .i64 k, .int .i64 n, .string s, .slice ak lk ck, .slice al ll cl] 29)).alloc (.cells #[.int .i64 0, .int .i64 0, .string { data := #[] }, .slice none 0 0, .slice none 0 0] 29) := ⟨_, rfl⟩
  have hW0 : Below w.heap.size w W0 := by rw [hW]; exact below_trans (below_alloc1 _ _) (below_alloc1 _ _)
  have k1 : Blk5 W0 (w.heap.size + 1) 29 (.int .i64 0) (.int .i64 0) (.string { data := #[] }) (.slice none 0 0) (.slice none 0 0) := by
    have := Blk5.new (w.alloc (.cells #[.int .i64 k, .int .i64 n, .string s, .slice ak lk ck, .slice al ll cl] 29)) 29 (.int .i64 0) (.int .i64 0) (.string { data := #[] }) (.slice none 0 0) (.slice none 0 0)
    rw [World.size_alloc] at this
    rw [hW]
    exact this
  have hcall := hide (ofRow_leastOfRow (d + 1) (d) S t _ (leastF d) W0 (hv.same (hS.same hW0)) (hS.later hW0.size) (hg.below hW0) (fun N xs a cap vs w1 hrow hto _ hN hg => by obtain ⟨hok, _, rfl⟩ := treesL_some hrow; exact leastOfRow_any d N _ a cap vs w1 hto hN (okT_kinds hok).2.1 (fun x hx => by have h := nodes_ok (okT_part hok hx); omega)))
  have HW := hide hW
  have hlt := k1.lt
  clear hW hv
  go_enter Tryz.func19, Tryz.ntmps19
  go_wp2_with fail
  rw [← HW.out]
  clear HW
  refine Calls.mono hcall.out ?_
  rintro e w1 ⟨r, rfl, hr, hb1⟩
  obtain ⟨v0, v1, v2, v3, v4, v5, v6, v7, v8, rfl⟩ := (ValOwn.at _ _ _ _ hr).shape
  have HF := hide (tell_end hr (below_trans hW0 hb1) (by omega) hlt)
  have k3 := k1.below hb1
  obtain ⟨y0, y1, y2, y3, y4⟩ := k3.cell
  have yf := k3.frozen
  clear hr hb1 k3 k1 hcall hW0
  go_wp2_with fail
  refine bodyPost_ret (v := .tuple #[.agg #[.int .i64 v0, .int .i64 v1, .string v2, .slice v3 v4 v5, .slice v6 v7 v8], .bool (rowTell (leastF d) t).2]) (by simp [results, Tryz.results19, go_sem, y0, y1, y2, y3, y4]) rfl ⟨_, rfl, (HF.out _ rfl).1, (HF.out _ rfl).2⟩
end Go.Proofs.YtilgbnnjecpneaaGreatDoor
