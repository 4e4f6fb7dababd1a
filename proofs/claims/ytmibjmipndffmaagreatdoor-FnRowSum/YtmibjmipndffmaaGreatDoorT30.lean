/- Texts of the proof, put together by program: WCutA, WCapT, WCutP, WCutS, WCutI, WDrawR. -/
import Derived.Test.YtmibjmipndffmaaGreatDoorT23
import Derived.Test.YtmibjmipndffmaaGreatDoorT3
import Derived.Test.YtmibjmipndffmaaGreatDoorT21
import Derived.Test.YtmibjmipndffmaaGreatDoorT9
import Derived.Test.YtmibjmipndffmaaGreatDoorT18
import Derived.Test.YtmibjmipndffmaaGreatDoorT24
/- Places of a piece: l1Max, l1Min, l4Edge of the model; fromStart, within, piece of the program. -/
namespace Go.Proofs.YtmibjmipndffmaaGreatDoor
open Go.RowKit Go.Deep

/-- A place of so many, moved to the nearest end, if it is beyond. -/
def edge (i : Int) (n : Nat) : Nat := if i < 0 then (i + (n : Int)).toNat else min i.toNat n
theorem edge_le (i : Int) (n : Nat) : edge i n ≤ n := by
  unfold edge
  split <;> omega
theorem edge_neg {i : Int} {n : Nat} (h : i < 0) : edge i n = (i + (n : Int)).toNat := if_pos h
theorem edge_pos {i : Int} {n : Nat} (h : ¬ i < 0) : edge i n = min i.toNat n := if_neg h

set_option maxRecDepth 100000 in
theorem fromStart_cut (i : Int) (n : Nat) (w : World) (hi : I64 i) (hn : n ≤ 1000) : Calls Tryz.prog 60 #[.int .i64 i, .int .i64 (n : Int)] w fun e w' => e = .returned (.int .i64 (if i < 0 then i + (n : Int) else i)) ∧ w' = w := by
  obtain ⟨h1, h2⟩ := hi
  by_cases h : i < 0
  · rw [if_pos h]
    go_enter Tryz.func60, Tryz.ntmps60
    go_wp2_with fail
    go_ret
    exact ⟨rfl, rfl⟩
  · rw [if_neg h]
    go_enter Tryz.func60, Tryz.ntmps60
    go_wp2_with fail
    go_ret
    exact ⟨rfl, rfl⟩

set_option maxRecDepth 100000 in
theorem within_any (i : Int) (n : Nat) (w : World) (hi : I64 i) (hn : n ≤ 1000) : Calls Tryz.prog 138 #[.int .i64 i, .int .i64 (n : Int)] w fun e w' => e = .returned (.int .i64 (edge i n : Int)) ∧ w' = w := by
  by_cases h : i < 0
  · have hv : Hid (min (max (i + (n : Int)) 0) (n : Int) = (edge i n : Int)) := by
      show _ = (edge i n : Int)
      rw [edge_neg h]
      omega
    have hc := fromStart_cut i n w hi hn
    rw [if_pos h] at hc
    have HC := hide hc
    clear hc
    go_enter Tryz.func138, Tryz.ntmps138
    go_wp2_with fail
    refine Calls.mono HC.out ?_
    rintro e w1 ⟨rfl, rfl⟩
    go_wp2_with fail
    rw [hv.out]
    go_ret
    exact ⟨rfl, rfl⟩
  · have hv : Hid (min (max i 0) (n : Int) = (edge i n : Int)) := by
      show _ = (edge i n : Int)
      rw [edge_pos h]
      omega
    have hc := fromStart_cut i n w hi hn
    rw [if_neg h] at hc
    have HC := hide hc
    clear hc
    go_enter Tryz.func138, Tryz.ntmps138
    go_wp2_with fail
    refine Calls.mono HC.out ?_
    rintro e w1 ⟨rfl, rfl⟩
    go_wp2_with fail
    rw [hv.out]
    go_ret
    exact ⟨rfl, rfl⟩

/-- The two ends of a piece. -/
def cutA (i : Int) (n : Nat) : Nat := edge i n
def cutB (i j : Int) (n : Nat) : Nat := max (edge i n) (edge j n)
theorem cut_le (i j : Int) (n : Nat) : cutA i n ≤ cutB i j n ∧ cutB i j n ≤ n := by
  have h1 := edge_le i n
  have h2 := edge_le j n
  unfold cutA cutB
  omega
set_option maxRecDepth 100000 in
theorem piece_any (i j : Int) (n : Nat) (w : World) (hi : I64 i) (hj : I64 j) (hn : n ≤ 1000) : Calls Tryz.prog 111 #[.int .i64 i, .int .i64 j, .int .i64 (n : Int)] w fun e w' => e = .returned (.tuple #[.int .i64 (cutA i n : Int), .int .i64 (cutB i j n : Int)]) ∧ w' = w := by
  have hv : Hid (max (edge i n : Int) (edge j n : Int) = (cutB i j n : Int)) := by
    show _ = (cutB i j n : Int)
    unfold cutB
    omega
  go_enter Tryz.func111, Tryz.ntmps111
  go_wp2_with fail
  refine (within_any i n w hi hn).mono ?_
  rintro e w1 ⟨rfl, rfl⟩
  go_wp2_with fail
  refine (within_any j n _ hj hn).mono ?_
  rintro e w2 ⟨rfl, rfl⟩
  go_wp2_with fail
  go_ret2
  exact ⟨by rw [← hv.out]; rfl, rfl⟩
end Go.Proofs.YtmibjmipndffmaaGreatDoor

/- toVal: the list of what it makes has room for its trees. -/
namespace Go.Proofs.YtmibjmipndffmaaGreatDoor
open Go.RowKit

end Go.Proofs.YtmibjmipndffmaaGreatDoor

/- RowCut: pieces of rows and texts. -/
namespace Go.Proofs.YtmibjmipndffmaaGreatDoor
open Go.RowKit Go.Deep

/-- A text as a tree. -/
def wordT (d : Nat) (s : ByteArray) : Tr (d + 1) := (Nd.mk 4 0 s [] [] : Nd (Tr d))
/-- A piece of a row, or of a text. -/
def cutF (d : Nat) (t : Tr (d + 1)) (i j : Int) : Option (Tr (d + 1)) :=
  if Nd.kind t = 5 then some (rowT d (((Nd.list t).drop (cutA i (Nd.list t).length)).take (cutB i j (Nd.list t).length - cutA i (Nd.list t).length)))
  else if Nd.kind t = 4 then some (wordT d ((Nd.str t).extract (cutA i (Nd.str t).size) (cutB i j (Nd.str t).size))) else none
/-- What RowCut tells. -/
def cutR (d : Nat) (t : Tr (d + 1)) (i j : Int) : Tr (d + 1) × Bool :=
  if okT (d + 1) t = true then (match cutF d t i j with | none => (zeroT d, false) | some x => (toldT d x, okT (d + 1) x)) else (zeroT d, false)
theorem okT_cut (d : Nat) (t : Tr (d + 1)) (i j : Int) : okT (d + 1) (cutR d t i j).1 = true := by
  unfold cutR
  split
  · split
    · exact okT_zero _
    · exact okT_told _ _
  · exact okT_zero _
theorem cutR_bad {d : Nat} {t : Tr (d + 1)} {i j : Int} (h : okT (d + 1) t = false) : cutR d t i j = (zeroT d, false) := if_neg (by rw [h]; simp)
theorem cutR_none {d : Nat} {t : Tr (d + 1)} {i j : Int} (h : cutF d t i j = none) : cutR d t i j = (zeroT d, false) := by
  unfold cutR
  split
  · rw [h]
  · rfl
theorem cutR_some {d : Nat} {t x : Tr (d + 1)} {i j : Int} (h : okT (d + 1) t = true) (hx : cutF d t i j = some x) : cutR d t i j = (toldT d x, okT (d + 1) x) := by
  unfold cutR
  rw [if_pos h, hx]
theorem cutF_row {d : Nat} {t : Tr (d + 1)} {i j : Int} (h : Nd.kind t = 5) : cutF d t i j = some (rowT d (((Nd.list t).drop (cutA i (Nd.list t).length)).take (cutB i j (Nd.list t).length - cutA i (Nd.list t).length))) := if_pos h
theorem cutF_word {d : Nat} {t : Tr (d + 1)} {i j : Int} (h : Nd.kind t = 4) : cutF d t i j = some (wordT d ((Nd.str t).extract (cutA i (Nd.str t).size) (cutB i j (Nd.str t).size))) := by
  unfold cutF
  rw [if_neg (by rw [h]; decide), if_pos h]
theorem cutF_other {d : Nat} {t : Tr (d + 1)} {i j : Int} (h5 : Nd.kind t ≠ 5) (h4 : Nd.kind t ≠ 4) : cutF d t i j = none := by
  unfold cutF
  rw [if_neg h5, if_neg h4]

theorem RowAt.cut {α : Type} {S : Nat → Prop} {w : World} {At : α → Value → Prop} {b o n cap : Nat} {xs : List α} (h : RowAt S w At (.slice (some ⟨b, o, none⟩) n cap) xs) {p q : Nat} (c' : Nat) (hpq : p ≤ q) (hq : q ≤ xs.length) : RowAt S w At (.slice (some ⟨b, o + p * 5, none⟩) (q - p) c') ((xs.drop p).take (q - p)) := by
  obtain ⟨h1, a', cap', hv, h3⟩ := h
  have hl : ((xs.drop p).take (q - p)).length = q - p := by rw [List.length_take, List.length_drop]; omega
  refine ⟨by omega, some ⟨b, o + p * 5, none⟩, c', by rw [hl], ?_⟩
  rcases h3 with rfl | ⟨b', o', hB, ha, hc⟩
  · exact Or.inl (by simp)
  · simp at hv
    obtain ⟨e1, _, _⟩ := hv
    rw [← e1] at ha
    simp at ha
    obtain ⟨rfl, rfl⟩ := ha
    refine Or.inr ⟨b, o + p * 5, hB, rfl, fun i x hx => ?_⟩
    have hi := (List.getElem?_eq_some_iff.1 hx).1
    rw [hl] at hi
    rw [List.getElem?_take_of_lt hi, List.getElem?_drop] at hx
    have hh := hc (p + i) x hx
    rw [show o + (p + i) * 5 = o + p * 5 + i * 5 by omega] at hh
    exact hh
theorem Row1At.cut {α : Type} {S : Nat → Prop} {w : World} {At : α → Value → Prop} {b o n cap : Nat} {xs : List α} (h : Row1At S w At (.slice (some ⟨b, o, none⟩) n cap) xs) {p q : Nat} (c' : Nat) (hpq : p ≤ q) (hq : q ≤ xs.length) : Row1At S w At (.slice (some ⟨b, o + p, none⟩) (q - p) c') ((xs.drop p).take (q - p)) := by
  obtain ⟨h1, a', cap', hv, h3⟩ := h
  have hl : ((xs.drop p).take (q - p)).length = q - p := by rw [List.length_take, List.length_drop]; omega
  refine ⟨by omega, some ⟨b, o + p, none⟩, c', by rw [hl], ?_⟩
  rcases h3 with rfl | ⟨b', o', hB, ha, hc⟩
  · exact Or.inl (by simp)
  · simp at hv
    obtain ⟨e1, _, _⟩ := hv
    rw [← e1] at ha
    simp at ha
    obtain ⟨rfl, rfl⟩ := ha
    refine Or.inr ⟨b, o + p, hB, rfl, fun i x hx => ?_⟩
    have hi := (List.getElem?_eq_some_iff.1 hx).1
    rw [hl] at hi
    rw [List.getElem?_take_of_lt hi, List.getElem?_drop] at hx
    have hh := hc (p + i) x hx
    rw [show o + (p + i) = o + p + i by omega] at hh
    exact hh
/-- A row of nothing, wherever. -/
theorem RowAt.none {α : Type} {S : Nat → Prop} {w : World} {At : α → Value → Prop} (a : Option Addr) (c : Nat) : RowAt S w At (.slice a 0 c) ([] : List α) := ⟨by simp, a, c, rfl, Or.inl rfl⟩
theorem Row1At.none {α : Type} {S : Nat → Prop} {w : World} {At : α → Value → Prop} (a : Option Addr) (c : Nat) : Row1At S w At (.slice a 0 c) ([] : List α) := ⟨by simp, a, c, rfl, Or.inl rfl⟩
theorem add_at (b o m : Nat) : (⟨b, o, Option.none⟩ : Addr).add m = ⟨b, o + m, Option.none⟩ := by unfold Addr.add; split <;> simp_all
theorem RowAt.piece {α : Type} {S : Nat → Prop} {w : World} {At : α → Value → Prop} {al : Option Addr} {cap : Nat} {xs : List α} (h : RowAt S w At (.slice al xs.length cap) xs) {p q : Nat} (c' : Nat) (hpq : p ≤ q) (hq : q ≤ xs.length) : RowAt S w At (.slice (al.map (fun x => x.add (p * 5))) (q - p) c') ((xs.drop p).take (q - p)) := by
  by_cases h0 : xs = []
  · subst h0
    have : q - p = 0 := by simp at hq; omega
    rw [this]
    simp
    exact RowAt.none _ _
  · obtain ⟨b, o, _, _, _, _, _, _, rfl, _⟩ := h.cell (List.length_pos_iff.2 h0)
    have := h.cut c' hpq hq
    rw [Option.map_some, add_at]
    exact this
theorem Row1At.piece {α : Type} {S : Nat → Prop} {w : World} {At : α → Value → Prop} {al : Option Addr} {cap : Nat} {xs : List α} (h : Row1At S w At (.slice al xs.length cap) xs) {p q : Nat} (c' : Nat) (hpq : p ≤ q) (hq : q ≤ xs.length) : Row1At S w At (.slice (al.map (fun x => x.add p)) (q - p) c') ((xs.drop p).take (q - p)) := by
  by_cases h0 : xs = []
  · subst h0
    have : q - p = 0 := by simp at hq; omega
    rw [this]
    simp
    exact Row1At.none _ _
  · have h' := h
    obtain ⟨_, a', cap', hv, h3⟩ := h'
    rcases h3 with h3 | ⟨b, o, _, ha, _⟩
    · exact absurd h3 h0
    · simp at hv
      obtain ⟨e1, _⟩ := hv
      rw [← e1] at ha
      subst ha
      have := h.cut c' hpq hq
      rw [Option.map_some, add_at]
      exact this
end Go.Proofs.YtmibjmipndffmaaGreatDoor

/- RowCut of the model. -/
namespace Go.Proofs.YtmibjmipndffmaaGreatDoor
open Go.RowKit Go.Deep

end Go.Proofs.YtmibjmipndffmaaGreatDoor

/- pieceOf, RowCut of the program. -/
namespace Go.Proofs.YtmibjmipndffmaaGreatDoor
open Go.RowKit Go.Deep

/-- What pieceOf is asked to give. -/
def PieceQ (d : Nat) (S : Nat → Prop) (t : Tr (d + 1)) (i j : Int) (w : World) (e : Ending) (w' : World) : Prop :=
  Below w.heap.size w w' ∧ ((∃ x u, cutF d t i j = some x ∧ e = .returned (.tuple #[u, .nilIface]) ∧ TreeG S w' (d + 1) x u) ∨ (cutF d t i j = none ∧ ∃ why, e = .returned (.tuple #[.nilIface, faultV why])))

set_option maxRecDepth 100000 in
set_option maxHeartbeats 4000000 in
theorem pieceOf_any (d : Nat) (S : Nat → Prop) (t : Tr (d + 1)) (u : Value) (i j : Int) (hi : I64 i) (hj : I64 j) (w : World) (hu : TreeG S w (d + 1) t u) (hS : Within S w) (hcap : ∀ sa n sc, u = .iface 148 (.agg #[.slice sa n sc]) → n ≤ sc) :
    Calls Tryz.prog 69 #[u, .int .i64 i, .int .i64 j] w (PieceQ d S t i j w) := by
  go_enter Tryz.func69, Tryz.ntmps69
  rcases hu with ⟨k', h1, hxe, rfl⟩ | ⟨n', h1, hxe, rfl⟩ | ⟨s', h1, hxe, rfl⟩ | ⟨ys, sv, h1, hxe, rfl, hr⟩ | ⟨keys, ys, ps, r, es, h1, h2, h3, h4, hxe, rfl, hr, hm, he⟩
  · have a5 := Tryz.asR_B
    have a4 := Tryz.asS_B
    have hq : Hid (cutF d t i j = none) := cutF_other (by rw [hxe]; show k' ≠ 5; omega) (by rw [hxe]; show k' ≠ 4; omega)
    clear hxe hcap
    go_wp2_with fail
    go_ret2
    exact ⟨by first | exact Below.refl _ _ | exact below_alloc1 _ _ | exact below_trans (below_alloc1 _ _) (below_alloc1 _ _), Or.inr ⟨hq.out, _, rfl⟩⟩
  · have a5 := Tryz.asR_N
    have a4 := Tryz.asS_N
    have hq : Hid (cutF d t i j = none) := cutF_other (by rw [hxe]; show (3 : Int) ≠ 5; omega) (by rw [hxe]; show (3 : Int) ≠ 4; omega)
    clear hxe hcap
    go_wp2_with fail
    go_ret2
    exact ⟨by first | exact Below.refl _ _ | exact below_alloc1 _ _ | exact below_trans (below_alloc1 _ _) (below_alloc1 _ _), Or.inr ⟨hq.out, _, rfl⟩⟩
  · have a5 := Tryz.asR_S
    have a4 := Tryz.asS_S
    have hF : Hid (cutF d t i j = some (wordT d (s'.extract (cutA i s'.size) (cutB i j s'.size)))) := by
      show cutF d t i j = _
      rw [cutF_word (by rw [hxe]), hxe]
    obtain ⟨hab, hbn⟩ := cut_le i j s'.size
    have hesz : Hid ((s'.extract (cutA i s'.size) (cutB i j s'.size)).size ≤ 1000) := by
      show (s'.extract (cutA i s'.size) (cutB i j s'.size)).size ≤ 1000
      rw [ByteArray.size_extract]
      omega
    have hpc := hide (fun w' => piece_any i j s'.size w' hi hj h1)
    clear hxe hcap
    go_wp2_with fail
    refine Calls.mono (hpc.out _) ?_
    rintro e w1 ⟨rfl, rfl⟩
    go_wp2_with fail
    go_ret2
    exact ⟨below_alloc1 _ _, Or.inl ⟨_, _, hF.out, rfl, Or.inr (Or.inr (Or.inl ⟨_, hesz.out, rfl, rfl⟩))⟩⟩
  · have a5 := Tryz.asR_R
    obtain ⟨sa, sc, rfl, _⟩ := hr.open'
    have hcs : ys.length ≤ sc := hcap _ _ _ rfl
    have hF : Hid (cutF d t i j = some (rowT d ((ys.drop (cutA i ys.length)).take (cutB i j ys.length - cutA i ys.length)))) := by
      show cutF d t i j = _
      rw [cutF_row (by rw [hxe]), hxe]
    obtain ⟨hab, hbn⟩ := cut_le i j ys.length
    have hpc := hide (fun w' => piece_any i j ys.length w' hi hj h1)
    have hlen : Hid (((ys.drop (cutA i ys.length)).take (cutB i j ys.length - cutA i ys.length)).length ≤ 1000) := by
      show ((ys.drop (cutA i ys.length)).take (cutB i j ys.length - cutA i ys.length)).length ≤ 1000
      rw [List.length_take, List.length_drop]
      omega
    have hA := below_alloc1 w (.cells #[.slice sa ys.length sc] 148)
    have hrA := hr.moved (At' := TreeG S (w.alloc (.cells #[.slice sa ys.length sc] 148)) d) (hS.same hA) (fun _ h => h) (fun x u hx => TreeG.moved (hS.same hA) (fun _ h => h) d x u hx)
    by_cases hca : sc = cutA i ys.length
    · subst hca
      have hpr : Hid (Row1At S (w.alloc (.cells #[.slice sa ys.length (cutA i ys.length)] 148)) (TreeG S (w.alloc (.cells #[.slice sa ys.length (cutA i ys.length)] 148)) d) (.slice sa (cutB i j ys.length - cutA i ys.length) 0) ((ys.drop (cutA i ys.length)).take (cutB i j ys.length - cutA i ys.length))) := by
        have e0 : cutB i j ys.length - cutA i ys.length = 0 := by omega
        rw [e0, List.take_zero]
        exact Row1At.none _ _
      have HA := hide hA
      clear hxe hcap hr hrA hA
      go_wp2_with fail
      refine Calls.mono (hpc.out _) ?_
      rintro e w1 ⟨rfl, rfl⟩
      go_wp2_with fail
      go_ret2
      exact ⟨HA.out, Or.inl ⟨_, _, hF.out, rfl, Or.inr (Or.inr (Or.inr (Or.inl ⟨_, _, hlen.out, rfl, rfl, hpr.out⟩)))⟩⟩
    · have hpr : Hid (Row1At S (w.alloc (.cells #[.slice sa ys.length sc] 148)) (TreeG S (w.alloc (.cells #[.slice sa ys.length sc] 148)) d) (.slice (sa.map (fun x => x.add (cutA i ys.length))) (cutB i j ys.length - cutA i ys.length) (sc - cutA i ys.length)) ((ys.drop (cutA i ys.length)).take (cutB i j ys.length - cutA i ys.length))) := hrA.piece _ hab hbn
      have HA := hide hA
      clear hxe hcap hr hrA hA
      go_wp2_with fail
      refine Calls.mono (hpc.out _) ?_
      rintro e w1 ⟨rfl, rfl⟩
      go_wp2_with fail
      go_ret2
      exact ⟨HA.out, Or.inl ⟨_, _, hF.out, rfl, Or.inr (Or.inr (Or.inr (Or.inl ⟨_, _, hlen.out, rfl, rfl, hpr.out⟩)))⟩⟩
  · have a5 := Tryz.asR_M
    have a4 := Tryz.asS_M
    have hq : Hid (cutF d t i j = none) := cutF_other (by rw [hxe]; show (6 : Int) ≠ 5; omega) (by rw [hxe]; show (6 : Int) ≠ 4; omega)
    clear hxe hcap he hm hr h4 h3 h2
    go_wp2_with fail
    go_ret2
    exact ⟨by first | exact Below.refl _ _ | exact below_alloc1 _ _ | exact below_trans (below_alloc1 _ _) (below_alloc1 _ _), Or.inr ⟨hq.out, _, rfl⟩⟩

set_option maxRecDepth 100000 in
set_option maxHeartbeats 2000000 in
theorem implRowCut_any (d : Nat) (S : Nat → Prop) (t : Tr (d + 1)) (v : Value) (i j : Int) (hi : I64 i) (hj : I64 j) (w : World) (hv : ValAt S w (d + 1) t v) (hS : Within S w) (hg : ErrType w) :
    Calls Tryz.prog 29 #[v, .int .i64 i, .int .i64 j] w (TellQ d (cutR d t i j).1 (cutR d t i j).2 w) := by
  obtain ⟨k, n, s, ak, lk, ck, al, ll, cl, rfl⟩ := hv.shape
  obtain ⟨W0, hW⟩ : ∃ W0, W0 = (w.alloc (.cells #[.int .i64 k, .int .i64 n, .string s, .slice ak lk ck, .slice al ll cl] 26)).alloc (.cells #[.int .i64 0, .int .i64 0, .string { data := #[] }, .slice none 0 0, .slice none 0 0] 26) := ⟨_, rfl⟩
  have hW0 : Below w.heap.size w W0 := by rw [hW]; exact below_trans (below_alloc1 _ _) (below_alloc1 _ _)
  have k1 : Blk5 W0 (w.heap.size + 1) 26 (.int .i64 0) (.int .i64 0) (.string { data := #[] }) (.slice none 0 0) (.slice none 0 0) := by
    have := Blk5.new (w.alloc (.cells #[.int .i64 k, .int .i64 n, .string s, .slice ak lk ck, .slice al ll cl] 26)) 26 (.int .i64 0) (.int .i64 0) (.string { data := #[] }) (.slice none 0 0) (.slice none 0 0)
    rw [World.size_alloc] at this
    rw [hW]
    exact this
  have HW := hide hW
  clear hW
  go_enter Tryz.func29, Tryz.ntmps29
  go_wp2_with fail
  rw [← HW.out]
  clear HW
  refine (given_own d S t _ W0 (hv.same (hS.same hW0)) (hS.later hW0.size)).mono ?_
  rintro en w1 ⟨hb1, hq⟩
  have hB1 := below_trans hW0 hb1
  have k2 := k1.below hb1
  have hg1 := hg.below hB1
  have hl1 := k1.lt
  have hs0 := hW0.size
  have hs1 := hb1.size
  clear hv
  -- what is told, however it is
  have hfin : ∀ (w1' : World), Below W0.heap.size w1 w1' → ∀ (x : Tr (d + 1)) (ok : Bool), Hid (∀ en w2, TellQ d x ok w1' en w2 → ∃ v0 v1 v2 v3 v4 v5 v6 v7 v8, en = .returned (.tuple #[.agg #[.int .i64 v0, .int .i64 v1, .string v2, .slice v3 v4 v5, .slice v6 v7 v8], .bool ok]) ∧
      Blk5 w2 (w.heap.size + 1) 26 (.int .i64 0) (.int .i64 0) (.string { data := #[] }) (.slice none 0 0) (.slice none 0 0) ∧
      ∀ wF, wF = set5 w2 (w.heap.size + 1) 0 (.int .i64 v0) (.int .i64 v1) (.string v2) (.slice v3 v4 v5) (.slice v6 v7 v8) → ValOwn wF (d + 1) (Fresh w wF) x (.agg #[.int .i64 v0, .int .i64 v1, .string v2, .slice v3 v4 v5, .slice v6 v7 v8]) ∧ Below w.heap.size w wF) := fun w1' hb' x ok => by
    intro en w2 ⟨v, he, hv, hb2⟩
    obtain ⟨v0, v1, v2, v3, v4, v5, v6, v7, v8, rfl⟩ := (ValOwn.at _ _ _ _ hv).shape
    have hs' := hb'.size
    exact ⟨v0, v1, v2, v3, v4, v5, v6, v7, v8, he, (k2.of_block (hb'.block _ hl1)).below hb2, tell_end hv (below_trans (hB1.trans (hb'.mono hs0)) hb2) (by omega) (by omega)⟩
  clear hW0 k1 hb1
  rcases hq with ⟨hok, u0, rfl, hu0, htop⟩ | ⟨hok, why, rfl⟩
  · have hcapU : ∀ sa n sc, u0 = .iface 148 (.agg #[.slice sa n sc]) → n ≤ sc := by
      intro sa n' sc he
      subst he
      rcases hu0 with ⟨k', h1, _, h3⟩ | ⟨k', h1, _, h3⟩ | ⟨k', h1, _, h3⟩ | ⟨ys, sv, h1, hxe, h3, hr⟩ | ⟨keys, ys, ps, r, es, h1, h2, h3, h4, _, h6, hr, hm, he⟩
      · simp at h3
      · simp at h3
      · simp at h3
      · obtain ⟨sv', vs, he, hto⟩ := htop.1 (by rw [hxe])
        simp at he
        subst he
        rcases hto.1.2 with ⟨h, _⟩ | ⟨g, cap, cur, h, _, _, hle, _⟩
        · simp at h; omega
        · simp at h; omega
      · simp at h6
    have hcall := hide (pieceOf_any d (Fresh W0 w1) t u0 i j hi hj w1 hu0 (Fresh.within _ _) hcapU)
    obtain ⟨T0, u1, rfl⟩ := hu0.iface
    have HR := hide hok
    clear hu0 htop hcapU hok
    go_wp2_with fail
    refine Calls.mono hcall.out ?_
    rintro en w2 ⟨hb2, hq⟩
    clear hcall
    have hz2 := hb2.size
    have h00 : 0 < W0.heap.size := Nat.lt_of_lt_of_le hg.lt hs0
    have hg2 : ErrType w2 := hg1.below hb2
    rcases hq with ⟨x, u, hx, rfl, hu⟩ | ⟨hx, why, rfl⟩
    · obtain ⟨T, u', rfl⟩ := hu.iface
      have hT := hide (cutR_some HR.out hx)
      have hcall := hide (told_tree d _ x _ w2 hu (fun b hb => Nat.lt_of_lt_of_le hb.2 hz2))
      clear hx hu
      go_wp2_with fail
      refine Calls.mono hcall.out ?_
      intro en w3 hq
      obtain ⟨v0, v1, v2, v3, v4, v5, v6, v7, v8, rfl, k3, hF⟩ := (hfin w2 (hb2.mono hs1) _ _).out en w3 hq
      have HF := hide hF
      obtain ⟨y0, y1, y2, y3, y4⟩ := k3.cell
      have yf := k3.frozen
      clear hF hq hfin hcall k3
      go_wp2_with fail
      refine bodyPost_ret (v := .tuple #[.agg #[.int .i64 v0, .int .i64 v1, .string v2, .slice v3 v4 v5, .slice v6 v7 v8], .bool (okT (d + 1) x)]) (by simp [results, Tryz.results29, go_sem, y0, y1, y2, y3, y4]) rfl ⟨_, by rw [hT.out], by rw [hT.out]; exact (HF.out _ rfl).1, (HF.out _ rfl).2⟩
    · have hT := hide (cutR_none hx)
      have hcall := hide (told_fault d .nilIface why w2 hg2)
      unfold faultV
      clear hx
      go_wp2_with fail
      refine Calls.mono hcall.out ?_
      intro en w3 hq
      obtain ⟨v0, v1, v2, v3, v4, v5, v6, v7, v8, rfl, k3, hF⟩ := (hfin w2 (hb2.mono hs1) _ _).out en w3 hq
      have HF := hide hF
      obtain ⟨y0, y1, y2, y3, y4⟩ := k3.cell
      have yf := k3.frozen
      clear hF hq hfin hcall k3
      go_wp2_with fail
      refine bodyPost_ret (v := .tuple #[.agg #[.int .i64 v0, .int .i64 v1, .string v2, .slice v3 v4 v5, .slice v6 v7 v8], .bool false]) (by simp [results, Tryz.results29, go_sem, y0, y1, y2, y3, y4]) rfl ⟨_, by rw [hT.out], by rw [hT.out]; exact (HF.out _ rfl).1, (HF.out _ rfl).2⟩
  · have hT := hide (cutR_bad (i := i) (j := j) hok)
    have hcall := hide (told_fault d .nilIface why w1 hg1)
    unfold faultV
    go_wp2_with fail
    refine Calls.mono hcall.out ?_
    intro en w2 hq
    obtain ⟨v0, v1, v2, v3, v4, v5, v6, v7, v8, rfl, k3, hF⟩ := (hfin w1 (Below.refl _ _) _ _).out en w2 hq
    have HF := hide hF
    obtain ⟨y0, y1, y2, y3, y4⟩ := k3.cell
    have yf := k3.frozen
    clear hF hq hfin hcall k3
    go_wp2_with fail
    refine bodyPost_ret (v := .tuple #[.agg #[.int .i64 v0, .int .i64 v1, .string v2, .slice v3 v4 v5, .slice v6 v7 v8], .bool false]) (by simp [results, Tryz.results29, go_sem, y0, y1, y2, y3, y4]) rfl ⟨_, by rw [hT.out], by rw [hT.out]; exact (HF.out _ rfl).1, (HF.out _ rfl).2⟩
end Go.Proofs.YtmibjmipndffmaaGreatDoor

/- What FnRowSum draws. -/
namespace Go.Proofs.YtmibjmipndffmaaGreatDoor
open Go.RowKit Go.Deep

/-- A number as a tree. -/
def numE (k : Int) : Tr 1 := (Nd.mk 3 k ⟨#[]⟩ [] [] : Nd (Tr 0))
theorem numE_at (S : Nat → Prop) (w : World) {k : Int} (h0 : 0 ≤ k) (h1 : k < 1000) : ValAt S w 1 (numE k) (.agg #[.int .i64 3, .int .i64 k, .string { data := #[] }, .slice none 0 0, .slice none 0 0]) :=
  bareT_at S w 0 3 k ⟨#[]⟩ ⟨by omega, by omega⟩ ⟨by omega, by omega⟩ (by show (0 : Nat) < _; omega)
set_option maxRecDepth 100000 in
set_option maxHeartbeats 8000000 in
theorem drawRowSum_any (a : Option Addr) (n cap : Nat) (w : World) (hcap : n ≤ cap) (h : BytesAt w.heap.size w a n) :
    Calls Tryz.prog 24 #[.slice a n cap] w (OneD w) := by
  have hb0 := below_alloc1 w (.cells #[.int .i64 0, .int .i64 0, .string { data := #[] }, .slice none 0 0, .slice none 0 0] 26)
  have kr := res_new w
  obtain ⟨W0, HW⟩ : ∃ W0, Hid (W0 = w.alloc (.cells #[.int .i64 0, .int .i64 0, .string { data := #[] }, .slice none 0 0, .slice none 0 0] 26)) := ⟨_, rfl⟩
  have hz0 : w.heap.size < W0.heap.size := by rw [HW.out]; simp
  rw [← HW.out] at hb0 kr
  have hBy := h.wider (r' := W0.heap.size) (fun b hb => hb0.block b hb) (by omega)
  clear h
  go_enter Tryz.func24, Tryz.ntmps24
  go_wp2_with fail
  rw [← HW.out]
  clear HW
  refine (l11Open_any a n cap W0 hcap hBy).mono ?_
  rintro e w0 ⟨rfl, hR0, hb1, hz1⟩
  replace kr := kr.below hb1
  have hB0 := below_trans hb0 hb1
  obtain ⟨r, hr⟩ : ∃ r, r = W0.heap.size := ⟨_, rfl⟩
  rw [← hr] at hR0 ⊢
  have hwr : w.heap.size < r := by omega
  have hw0 : w.heap.size ≤ w0.heap.size := hB0.size
  clear hBy hb0 hb1 hr hz0 hz1
  go_wp2_with fail
  refine (pick_any r 0 3 w0 hR0 (by omega) (by omega) (by omega)).mono ?_
  rintro e w1 ⟨k1, rfl, k10, k11, h1, b1, z1⟩
  replace kr := kr.butr b1 (by omega)
  have hB1 := but_below hB0 b1 (by omega) (by omega)
  have hN : w.heap.size < w1.heap.size := by have := h1.lt; omega
  clear hR0 b1 hB0 z1
  by_cases hk1 : k1 = 0
  · subst hk1
    go_wp2_with fail
    refine (l4RowDraw_any r 1 w1 h1 (by omega)).mono ?_
    rintro e w2 ⟨u, t, p2, rfl, hv, hw, hR2, hp2, hb2⟩
    obtain ⟨v0, v1, v2, v3, v4, v5, v6, v7, v8, rfl⟩ := hv.shape
    have hB2 := but_below hB1 hb2 (by omega) (by omega)
    replace kr := kr.butr hb2 (by omega)
    have HF := hide (oneD_end ((ValAt.upN (d := 10) hv 1).mono (S' := FreshQ w w2) (fun b hb => ⟨by have := hb.1.1; omega, hb.1.2, hb.2⟩)) (Nat.le_trans (Nat.le_of_eq (wtT_upN 10 1 t)) (by omega)) hB2)
    obtain ⟨y0, y1, y2, y3, y4⟩ := kr.cell
    have yf := kr.frozen
    clear kr hB2 hb2 hv h1 hR2 hB1
    go_wp2_with fail
    exact bodyPost_ret (v := .agg #[.int .i64 v0, .int .i64 v1, .string v2, .slice v3 v4 v5, .slice v6 v7 v8]) (by simp [results, Tryz.results24, go_sem, y0, y1, y2, y3, y4]) rfl (HF.out _ rfl)
  · have hk1' : (k1 == 0) = false := by simpa using hk1
    have ha := below_alloc1 w1 (.cells #[] 26)
    have hst0 := RTo.start (d := 1) (r := r) w1 h1.lt
    obtain ⟨W2, HW⟩ : ∃ W2, Hid (W2 = w1.alloc (.cells #[] 26)) := ⟨_, rfl⟩
    rw [← HW.out] at ha hst0
    replace kr := kr.below ha
    have h2 := h1.below ha
    have hB2 := below_trans hB1 ha
    have hz2 := ha.size
    clear h1
    go_wp2_with fail
    rw [← HW.out]
    clear HW
    refine (pick_any r 1 5 W2 h2 (by omega) (by omega) (by omega)).mono ?_
    rintro e w3 ⟨k2, rfl, k20, k21, h3, b3, z3⟩
    replace kr := kr.butr b3 (by omega)
    have hB3 := but_below hB2 b3 (by omega) (by omega)
    have hst : Hid (RTo (d := 1) w1.heap.size r w3 (.slice (some ⟨w1.heap.size, 0, none⟩) 0 0) [] []) := hst0.moved b3
    obtain ⟨n, rfl⟩ := Int.eq_ofNat_of_zero_le k20
    have HS3 := hide (And.intro h3 (And.intro hB3 kr))
    have hn6 : n ≤ 4 := by omega
    clear h2 b3 z3 hB2 ha hst0 kr h3 hB3 hB1
    go_wp2_with fail
    go_loopw [4, 5] (fun out i wr => ∃ (m ln : Nat) (la : Option Addr) (lc : Nat) (xs : List (Tr 1)) (vs : List Value) (p' : Nat), m ≤ 4 ∧ i = .int .i64 (m : Int) ∧ out = .slice la ln lc ∧ Hid (ln = xs.length) ∧ ln + m ≤ 4 ∧ p' + 2 * m ≤ 2 + 2 * n ∧ Hid (∀ x ∈ xs, wtT 1 x ≤ 10) ∧ Hid (RTo (d := 1) w1.heap.size r wr (.slice la ln lc) xs vs) ∧ Hid (Rd wr r p' ∧ Below w.heap.size w wr ∧ Blk5 wr w.heap.size 26 (.int .i64 0) (.int .i64 0) (.string { data := #[] }) (.slice none 0 0) (.slice none 0 0))) (fun _ i _ => (intOf i).toNat)
    case atStart => exact ⟨n, 0, _, _, [], [], 2, hn6, rfl, rfl, rfl, by omega, by omega, (fun x hx => by cases hx), hst, HS3⟩
    case round =>
      clear hst HS3
      obtain ⟨m, ln, la, lc, xs, vs, p', hm, rfl, rfl, hln, hxm, hpm, hxw, hto, hall⟩ := hrel
      have hR := hall.out.1
      have hBr := hall.out.2.1
      have krr := hall.out.2.2
      have hNw : w1.heap.size ≤ wr.heap.size := hto.out.NS
      by_cases hm0 : 0 < m
      · have hm0' : (0 : Int) < (m : Int) := by omega
        clear hall
        go_wp2_with fail
        refine (pick_any r p' 2 wr hR (by omega) (by omega) (by omega)).mono ?_
        rintro e w4 ⟨k3, rfl, k30, k31, h4, b4, z4⟩
        have hB4 := but_below hBr b4 (by omega) (by omega)
        have kr4 := krr.butr b4 (by omega)
        have hto4 := hto.out.moved b4
        clear hR
        by_cases hk3 : k3 = 0 ∧ 0 < ln
        · obtain ⟨rfl, hl0⟩ := hk3
          clear z4
          have hl0' : (0 : Int) < (ln : Int) := by omega
          obtain ⟨t, ht⟩ : ∃ t, xs[0]? = some t := ⟨_, List.getElem?_eq_getElem (by have := hln.out; omega)⟩
          obtain ⟨c0, c1, c2, c3, c4, e0, e1, e2, e3, e4, hx⟩ := hto4.trees 0 t ht
          obtain ⟨u0, u1, u2, u3, u4, u5, u6, u7, u8, hsh⟩ := hx.shape
          cases hsh
          have hwt : wtT 1 t ≤ 10 := hxw.out t (List.mem_of_getElem? ht)
          obtain ⟨gA, rfl⟩ : ∃ g, la = some ⟨g, 0, none⟩ := by
            rcases hto4.vown.2 with ⟨_, h0⟩ | ⟨g, cap, cur, e, _⟩
            · have := hln.out; omega
            · cases e; exact ⟨g, rfl⟩
          have hvo := hto4.vown
          rw [show ln = xs.length from hln.out] at hvo
          have hcell : ∀ j c, j < xs.length * 5 → vs[j]? = some c → w4.cell? ⟨gA, j, none⟩ = some c := fun j c hj hc => (hvo.cellAt j hj).trans hc
          have x0 := hcell 0 _ (by have := hln.out; omega) e0
          have x1 := hcell 1 _ (by have := hln.out; omega) e1
          have x2 := hcell 2 _ (by have := hln.out; omega) e2
          have x3 := hcell 3 _ (by have := hln.out; omega) e3
          have x4 := hcell 4 _ (by have := hln.out; omega) e4
          have hown := hto4.vown
          rw [← hln.out] at hown
          have HO := hide (hown.alloc (.cells #[.int .i64 u0, .int .i64 u1, .string u2, .slice u3 u4 u5, .slice u6 u7 u8] 26))
          have hnb : ∀ g, (Value.slice (some ⟨gA, 0, none⟩) ln lc).ownBlock = some g → w1.heap.size ≤ g ∧ g < w4.heap.size := fun g hg => hown.lt g hg
          have hstep : Hid (∀ lv' w6, w6.ownsRow w1.heap.size 26 5 lv' (ln + 1) (vs ++ [.int .i64 u0, .int .i64 u1, .string u2, .slice u3 u4 u5, .slice u6 u7 u8]) → (w4.alloc (.cells #[.int .i64 u0, .int .i64 u1, .string u2, .slice u3 u4 u5, .slice u6 u7 u8] 26)).grownBy w6 (Value.slice (some ⟨gA, 0, none⟩) ln lc).ownBlock → (lv'.ownBlock = (Value.slice (some ⟨gA, 0, none⟩) ln lc).ownBlock ∨ lv'.ownBlock = some (w4.heap.size + 1)) →
              ∃ a c, lv' = .slice a (ln + 1) c ∧ RTo (d := 1) w1.heap.size r w6 lv' (xs ++ [t]) (vs ++ [.int .i64 u0, .int .i64 u1, .string u2, .slice u3 u4 u5, .slice u6 u7 u8]) ∧ Rd w6 r (p' + 1) ∧ Below w.heap.size w w6 ∧ Blk5 w6 w.heap.size 26 (.int .i64 0) (.int .i64 0) (.string { data := #[] }) (.slice none 0 0) (.slice none 0 0)) := by
            intro lv' w6 o1 o2 o3
            have hal := below_alloc1 w4 (.cells #[.int .i64 u0, .int .i64 u1, .string u2, .slice u3 u4 u5, .slice u6 u7 u8] 26)
            have hz6 : (w4.alloc (.cells #[.int .i64 u0, .int .i64 u1, .string u2, .slice u3 u4 u5, .slice u6 u7 u8] 26)).heap.size = w4.heap.size + 1 := by simp
            have hNW : w1.heap.size ≤ w4.heap.size := hto4.NS
            have hbk : ∀ b, b < w1.heap.size → w6.heap[b]? = w4.heap[b]? := fun b hb => (o2.block b (by omega) (fun e => by have := (hnb b e.symm).1; omega)).trans (Below.heap_alloc _ _ _ (by omega))
            have hform : ∃ a c, lv' = .slice a (ln + 1) c := by
              rcases o1.2 with ⟨_, h0⟩ | ⟨g, cap, cur, e, _⟩
              · omega
              · exact ⟨_, _, e⟩
            obtain ⟨a, c, e⟩ := hform
            refine ⟨a, c, e, hto4.push hx (by rw [← hln.out]; exact o1) o2 (by rw [hz6]; exact o3), ?_, ?_, kr4.of_block (hbk _ hN)⟩
            · obtain ⟨qa, qn, qc, e1, e2, e3⟩ := h4
              have hrw : r < w1.heap.size := hto4.rN
              exact ⟨qa, qn, qc, (hbk r hrw).trans e1, e2, e3.moved (fun b hb => hbk b (by omega))⟩
            · have hs6 := o2.size
              exact ⟨o2.os.trans (hal.os.trans hB4.os), o2.tape.trans (hal.tape.trans hB4.tape), o2.output.trans (hal.output.trans hB4.output), by have := hB4.size; omega, fun i hi => (hbk i (by omega)).trans (hB4.block i hi)⟩
          have HLN : Hid (ln + 1 = (xs ++ [t]).length) := by show _ = _; rw [List.length_append, List.length_singleton, hln.out]
          have HXW : Hid (∀ q ∈ xs ++ [t], wtT 1 q ≤ 10) := by
            intro q hq
            rcases List.mem_append.1 hq with h | h
            · exact hxw.out q h
            · rw [List.mem_singleton.1 h]; exact hwt
          obtain ⟨i0, hi, hz0', hz1', hz2'⟩ := info_parts Tryz.infoV2
          have hn5 : w1.heap.size ≤ w4.heap.size + 1 := by have := hto4.NS; omega
          clear h4 b4 hB4 kr4 hto4 hto hx hown hxw krr hBr hvo hcell e0 e1 e2 e3 e4 hnb hwt ht
          go_wp2_with (at_builtin; refine wpList_append_own_at _ rfl _ _ 24 rfl w1.heap.size 26 i0 zeroVal 5 80 Tryz.underlying24 hi hz0' hz1' hz2' rfl (by decide) _ _ _ rfl HO.out ⟨w4.heap.size, 0, none⟩ 1 1 [.int .i64 u0, .int .i64 u1, .string u2, .slice u3 u4 u5, .slice u6 u7 u8] rfl rfl (cell_five_new _ _ _ _ _ _ _) ?c2 ?c3 ?c4 ?c5 ?_)
          case c2 => intro y hy; simp at hy; rcases hy with rfl | rfl | rfl | rfl | rfl <;> rfl
          case c3 => unfold maxLen; omega
          case c4 => omega
          case c5 => simp; omega
          · intro lv' w6 o1 o2 _ o3
            obtain ⟨a6, c6, e6, g1, g2, g3, g4⟩ := hstep.out lv' w6 o1 o2 o3
            subst e6
            have HT := hide g1
            have HQ := hide (And.intro g2 (And.intro g3 g4))
            clear o1 o2 o3 hstep HO g1 g2 g3 g4 hi hz0' hz1' hz2'
            go_wp2_with fail
            go_roundw
            case rel => exact ⟨m - 1, ln + 1, a6, c6, xs ++ [t], _, (p' + 1), by omega, by rw [show (((m - 1 : Nat)) : Int) = (m : Int) - 1 by omega], rfl, HLN, by omega, by omega, HXW, HT, HQ⟩
            case measure => simp [intOf]; omega
        · have hside : k3 ≠ 0 ∨ (k3 = 0 ∧ ln = 0) := by omega
          clear z4
          have hnum : Hid (∀ k : Int, 0 ≤ k → k < 9 → ∀ W, ValAt (InR w1.heap.size W (.slice la ln lc)) W 1 (numE k) (.agg #[.int .i64 3, .int .i64 k, .string { data := #[] }, .slice none 0 0, .slice none 0 0])) := fun k h0 h1 W => numE_at _ _ h0 (by omega)
          have HB4 := hide hB4
          have HK4 := hide kr4
          have HT4 := hide hto4
          have hpick := hide (pick_any r (p' + 1) 9 w4 h4 (by omega) (by omega) (by omega))
          clear h4 b4 hB4 kr4 hto4 hto krr hBr
          rcases hside with hk | ⟨rfl, hl⟩
          · have hk' : (k3 == 0) = false := by simpa using hk
            clear hk3
            go_wp2_with fail
            refine hpick.out.mono ?_
            rintro e w5 ⟨k5, rfl, k50, k51, h5, b5, z5⟩
            clear z5
            have hz4 : w.heap.size ≤ w4.heap.size := HB4.out.size
            have hB5 := but_below HB4.out b5 (by omega) (by omega)
            have kr5 := HK4.out.butr b5 (by omega)
            have hto5 := HT4.out.moved b5
            have hx := hnum.out k5 k50 k51 w5
            have hwt : wtT 1 (numE k5) ≤ 10 := by show 3 + 0 + 0 ≤ 10; omega
            have hown := hto5.vown
            rw [← hln.out] at hown
            have HO := hide (hown.alloc (.cells #[.int .i64 3, .int .i64 k5, .string { data := #[] }, .slice none 0 0, .slice none 0 0] 26))
            have hnb : ∀ g, (Value.slice la ln lc).ownBlock = some g → w1.heap.size ≤ g ∧ g < w5.heap.size := fun g hg => hown.lt g hg
            have hstep : Hid (∀ lv' w6, w6.ownsRow w1.heap.size 26 5 lv' (ln + 1) (vs ++ [.int .i64 3, .int .i64 k5, .string { data := #[] }, .slice none 0 0, .slice none 0 0]) → (w5.alloc (.cells #[.int .i64 3, .int .i64 k5, .string { data := #[] }, .slice none 0 0, .slice none 0 0] 26)).grownBy w6 (Value.slice la ln lc).ownBlock → (lv'.ownBlock = (Value.slice la ln lc).ownBlock ∨ lv'.ownBlock = some (w5.heap.size + 1)) →
                ∃ a c, lv' = .slice a (ln + 1) c ∧ RTo (d := 1) w1.heap.size r w6 lv' (xs ++ [numE k5]) (vs ++ [.int .i64 3, .int .i64 k5, .string { data := #[] }, .slice none 0 0, .slice none 0 0]) ∧ Rd w6 r (p' + 1 + 1) ∧ Below w.heap.size w w6 ∧ Blk5 w6 w.heap.size 26 (.int .i64 0) (.int .i64 0) (.string { data := #[] }) (.slice none 0 0) (.slice none 0 0)) := by
              intro lv' w6 o1 o2 o3
              have hal := below_alloc1 w5 (.cells #[.int .i64 3, .int .i64 k5, .string { data := #[] }, .slice none 0 0, .slice none 0 0] 26)
              have hz6 : (w5.alloc (.cells #[.int .i64 3, .int .i64 k5, .string { data := #[] }, .slice none 0 0, .slice none 0 0] 26)).heap.size = w5.heap.size + 1 := by simp
              have hNW : w1.heap.size ≤ w5.heap.size := hto5.NS
              have hbk : ∀ b, b < w1.heap.size → w6.heap[b]? = w5.heap[b]? := fun b hb => (o2.block b (by omega) (fun e => by have := (hnb b e.symm).1; omega)).trans (Below.heap_alloc _ _ _ (by omega))
              have hform : ∃ a c, lv' = .slice a (ln + 1) c := by
                rcases o1.2 with ⟨_, h0⟩ | ⟨g, cap, cur, e, _⟩
                · omega
                · exact ⟨_, _, e⟩
              obtain ⟨a, c, e⟩ := hform
              refine ⟨a, c, e, hto5.push hx (by rw [← hln.out]; exact o1) o2 (by rw [hz6]; exact o3), ?_, ?_, kr5.of_block (hbk _ hN)⟩
              · obtain ⟨qa, qn, qc, e1, e2, e3⟩ := h5
                have hrw : r < w1.heap.size := hto5.rN
                exact ⟨qa, qn, qc, (hbk r hrw).trans e1, e2, e3.moved (fun b hb => hbk b (by omega))⟩
              · have hs6 := o2.size
                exact ⟨o2.os.trans (hal.os.trans hB5.os), o2.tape.trans (hal.tape.trans hB5.tape), o2.output.trans (hal.output.trans hB5.output), by have := hB5.size; omega, fun i hi => (hbk i (by omega)).trans (hB5.block i hi)⟩
            have HLN : Hid (ln + 1 = (xs ++ [numE k5]).length) := by show _ = _; rw [List.length_append, List.length_singleton, hln.out]
            have HXW : Hid (∀ q ∈ xs ++ [numE k5], wtT 1 q ≤ 10) := by
              intro q hq
              rcases List.mem_append.1 hq with h | h
              · exact hxw.out q h
              · rw [List.mem_singleton.1 h]; exact hwt
            obtain ⟨i0, hi, hz0', hz1', hz2'⟩ := info_parts Tryz.infoV2
            have hn5 : w1.heap.size ≤ w5.heap.size + 1 := by have := hto5.NS; omega
            clear h5 b5 hB5 kr5 hto5 hx hown hxw hnb hwt HB4 HK4 HT4 hnum hpick
            go_wp2_with (at_builtin; refine wpList_append_own_at _ rfl _ _ 24 rfl w1.heap.size 26 i0 zeroVal 5 80 Tryz.underlying24 hi hz0' hz1' hz2' rfl (by decide) _ _ _ rfl HO.out ⟨w5.heap.size, 0, none⟩ 1 1 [.int .i64 3, .int .i64 k5, .string { data := #[] }, .slice none 0 0, .slice none 0 0] rfl rfl (cell_five_new _ _ _ _ _ _ _) ?c2 ?c3 ?c4 ?c5 ?_)
            case c2 => intro y hy; simp at hy; rcases hy with rfl | rfl | rfl | rfl | rfl <;> rfl
            case c3 => unfold maxLen; omega
            case c4 => omega
            case c5 => simp; omega
            · intro lv' w6 o1 o2 _ o3
              obtain ⟨a6, c6, e6, g1, g2, g3, g4⟩ := hstep.out lv' w6 o1 o2 o3
              subst e6
              have HT := hide g1
              have HQ := hide (And.intro g2 (And.intro g3 g4))
              clear o1 o2 o3 hstep HO g1 g2 g3 g4 hi hz0' hz1' hz2'
              go_wp2_with fail
              go_roundw
              case rel => exact ⟨m - 1, ln + 1, a6, c6, xs ++ [numE k5], _, (p' + 1 + 1), by omega, by rw [show (((m - 1 : Nat)) : Int) = (m : Int) - 1 by omega], rfl, HLN, by omega, by omega, HXW, HT, HQ⟩
              case measure => simp [intOf]; omega
          · have hl0' : ¬ (0 : Int) < (ln : Int) := by omega
            clear hl
            clear hk3
            go_wp2_with fail
            refine hpick.out.mono ?_
            rintro e w5 ⟨k5, rfl, k50, k51, h5, b5, z5⟩
            clear z5
            have hz4 : w.heap.size ≤ w4.heap.size := HB4.out.size
            have hB5 := but_below HB4.out b5 (by omega) (by omega)
            have kr5 := HK4.out.butr b5 (by omega)
            have hto5 := HT4.out.moved b5
            have hx := hnum.out k5 k50 k51 w5
            have hwt : wtT 1 (numE k5) ≤ 10 := by show 3 + 0 + 0 ≤ 10; omega
            have hown := hto5.vown
            rw [← hln.out] at hown
            have HO := hide (hown.alloc (.cells #[.int .i64 3, .int .i64 k5, .string { data := #[] }, .slice none 0 0, .slice none 0 0] 26))
            have hnb : ∀ g, (Value.slice la ln lc).ownBlock = some g → w1.heap.size ≤ g ∧ g < w5.heap.size := fun g hg => hown.lt g hg
            have hstep : Hid (∀ lv' w6, w6.ownsRow w1.heap.size 26 5 lv' (ln + 1) (vs ++ [.int .i64 3, .int .i64 k5, .string { data := #[] }, .slice none 0 0, .slice none 0 0]) → (w5.alloc (.cells #[.int .i64 3, .int .i64 k5, .string { data := #[] }, .slice none 0 0, .slice none 0 0] 26)).grownBy w6 (Value.slice la ln lc).ownBlock → (lv'.ownBlock = (Value.slice la ln lc).ownBlock ∨ lv'.ownBlock = some (w5.heap.size + 1)) →
                ∃ a c, lv' = .slice a (ln + 1) c ∧ RTo (d := 1) w1.heap.size r w6 lv' (xs ++ [numE k5]) (vs ++ [.int .i64 3, .int .i64 k5, .string { data := #[] }, .slice none 0 0, .slice none 0 0]) ∧ Rd w6 r (p' + 1 + 1) ∧ Below w.heap.size w w6 ∧ Blk5 w6 w.heap.size 26 (.int .i64 0) (.int .i64 0) (.string { data := #[] }) (.slice none 0 0) (.slice none 0 0)) := by
              intro lv' w6 o1 o2 o3
              have hal := below_alloc1 w5 (.cells #[.int .i64 3, .int .i64 k5, .string { data := #[] }, .slice none 0 0, .slice none 0 0] 26)
              have hz6 : (w5.alloc (.cells #[.int .i64 3, .int .i64 k5, .string { data := #[] }, .slice none 0 0, .slice none 0 0] 26)).heap.size = w5.heap.size + 1 := by simp
              have hNW : w1.heap.size ≤ w5.heap.size := hto5.NS
              have hbk : ∀ b, b < w1.heap.size → w6.heap[b]? = w5.heap[b]? := fun b hb => (o2.block b (by omega) (fun e => by have := (hnb b e.symm).1; omega)).trans (Below.heap_alloc _ _ _ (by omega))
              have hform : ∃ a c, lv' = .slice a (ln + 1) c := by
                rcases o1.2 with ⟨_, h0⟩ | ⟨g, cap, cur, e, _⟩
                · omega
                · exact ⟨_, _, e⟩
              obtain ⟨a, c, e⟩ := hform
              refine ⟨a, c, e, hto5.push hx (by rw [← hln.out]; exact o1) o2 (by rw [hz6]; exact o3), ?_, ?_, kr5.of_block (hbk _ hN)⟩
              · obtain ⟨qa, qn, qc, e1, e2, e3⟩ := h5
                have hrw : r < w1.heap.size := hto5.rN
                exact ⟨qa, qn, qc, (hbk r hrw).trans e1, e2, e3.moved (fun b hb => hbk b (by omega))⟩
              · have hs6 := o2.size
                exact ⟨o2.os.trans (hal.os.trans hB5.os), o2.tape.trans (hal.tape.trans hB5.tape), o2.output.trans (hal.output.trans hB5.output), by have := hB5.size; omega, fun i hi => (hbk i (by omega)).trans (hB5.block i hi)⟩
            have HLN : Hid (ln + 1 = (xs ++ [numE k5]).length) := by show _ = _; rw [List.length_append, List.length_singleton, hln.out]
            have HXW : Hid (∀ q ∈ xs ++ [numE k5], wtT 1 q ≤ 10) := by
              intro q hq
              rcases List.mem_append.1 hq with h | h
              · exact hxw.out q h
              · rw [List.mem_singleton.1 h]; exact hwt
            obtain ⟨i0, hi, hz0', hz1', hz2'⟩ := info_parts Tryz.infoV2
            have hn5 : w1.heap.size ≤ w5.heap.size + 1 := by have := hto5.NS; omega
            clear h5 b5 hB5 kr5 hto5 hx hown hxw hnb hwt HB4 HK4 HT4 hnum hpick
            go_wp2_with (at_builtin; refine wpList_append_own_at _ rfl _ _ 24 rfl w1.heap.size 26 i0 zeroVal 5 80 Tryz.underlying24 hi hz0' hz1' hz2' rfl (by decide) _ _ _ rfl HO.out ⟨w5.heap.size, 0, none⟩ 1 1 [.int .i64 3, .int .i64 k5, .string { data := #[] }, .slice none 0 0, .slice none 0 0] rfl rfl (cell_five_new _ _ _ _ _ _ _) ?c2 ?c3 ?c4 ?c5 ?_)
            case c2 => intro y hy; simp at hy; rcases hy with rfl | rfl | rfl | rfl | rfl <;> rfl
            case c3 => unfold maxLen; omega
            case c4 => omega
            case c5 => simp; omega
            · intro lv' w6 o1 o2 _ o3
              obtain ⟨a6, c6, e6, g1, g2, g3, g4⟩ := hstep.out lv' w6 o1 o2 o3
              subst e6
              have HT := hide g1
              have HQ := hide (And.intro g2 (And.intro g3 g4))
              clear o1 o2 o3 hstep HO g1 g2 g3 g4 hi hz0' hz1' hz2'
              go_wp2_with fail
              go_roundw
              case rel => exact ⟨m - 1, ln + 1, a6, c6, xs ++ [numE k5], _, (p' + 1 + 1), by omega, by rw [show (((m - 1 : Nat)) : Int) = (m : Int) - 1 by omega], rfl, HLN, by omega, by omega, HXW, HT, HQ⟩
              case measure => simp [intOf]; omega
      · obtain rfl : m = 0 := by omega
        clear hall
        go_wp2_with fail
        refine (l4Of_any _ _ _ wr).mono ?_
        rintro e w4 ⟨rfl, hb4⟩
        have hto4 := hto.out.moved (But.of_below (rb := r) hb4)
        have hB4 := below_trans hBr hb4
        have kr4 := krr.below hb4
        have hval := hto4.done (wb := w) (by have := hln.out; omega) (by omega)
        have hwt : wtT 2 (rowE xs) ≤ 430 := by
          show 3 + 0 + (xs.map (wtT 1)).sum ≤ 430
          have := sum_le_all (f := wtT 1) (c := 10) (xs := xs) 5 (by have := hln.out; omega) hxw.out
          omega
        have HF := hide (oneD_end (t := upN 2 9 (rowE xs)) (ValAt.upN (d := 2) hval 9) (Nat.le_trans (Nat.le_of_eq (wtT_upN 2 9 (rowE xs))) (by omega)) hB4)
        obtain ⟨y0, y1, y2, y3, y4⟩ := kr4.cell
        have yf := kr4.frozen
        clear kr4 hval hto hto4 hR hBr krr hb4 hB4
        go_wp2_with fail
        exact bodyPost_ret (v := .agg #[.int .i64 5, .int .i64 0, .string ByteArray.empty, .slice none 0 0, .slice la ln lc]) (by simp [results, Tryz.results24, go_sem, y0, y1, y2, y3, y4]) rfl (HF.out _ rfl)
end Go.Proofs.YtmibjmipndffmaaGreatDoor
