/- Texts of the proof, put together by program: WSameI, LDraw, LFnOrd, LFnRow0, WEq, WManyT, WManyM, LValMany, LFnMany0, WDrawK, WDrawL. -/
import Derived.Test.YtohdpgclokgohaaGreatDoorP19
import Derived.Test.YtohdpgclokgohaaGreatDoorP16
import Derived.Test.YtohdpgclokgohaaGreatDoorP17
import Derived.Test.YtohdpgclokgohaaGreatDoorP1
import Derived.Test.YtohdpgclokgohaaGreatDoorP4
import Derived.Test.YtohdpgclokgohaaGreatDoorP6
import Derived.Test.YtohdpgclokgohaaGreatDoorP12
import Derived.Deep.LoopGhost
import Derived.Test.YtohdpgclokgohaaGreatDoorP7
import Derived.Deep.RegionHeld
import Derived.Test.YtohdpgclokgohaaGreatDoorP13
import Derived.Test.YtohdpgclokgohaaGreatDoorP14
/- ValSame of the program; the order says that two are one. -/
namespace Go.Proofs.YtohdpgclokgohaaGreatDoor
open Go.RowKit Go.Deep

theorem under_freshP (w w' : World) : Under (FreshP w w') w' w'.heap.size := fun _ h => ⟨h.2, h.1.2⟩
theorem within_freshP (w w' : World) : Within (FreshP w w') w' := fun _ h => h.1.2
theorem Under.below {S : Nat → Prop} {w w' : World} (h : Under S w w.heap.size) (hb : Below w.heap.size w w') : Under S w' w'.heap.size := fun b hS => ⟨(h b hS).1.of_block (hb.block b (h b hS).2), Nat.lt_of_lt_of_le (h b hS).2 hb.size⟩

theorem orI_eq0 {x y : Int} : orI x y = 0 ↔ x = 0 ∧ y = 0 := by
  unfold orI
  split <;> simp_all
theorem cmpI_eq0 (a b : Int) : cmpI a b = 0 ↔ (a == b) = true := by
  unfold cmpI
  split
  · simp; omega
  · split
    · simp; omega
    · simp; omega
theorem cmpS_eq0 (a b : ByteArray) : cmpS a b = 0 ↔ (a.toList == b.toList) = true := by
  constructor
  · intro h
    unfold cmpS at h
    split at h
    · omega
    · split at h
      · assumption
      · omega
  · exact cmpS_eq
theorem ordL_strs : ∀ (xs ys : List ByteArray), ordL cmpS xs ys = 0 ↔ eqStrs xs ys = true
  | [], [] => by simp [ordL, eqStrs]
  | [], _ :: _ => by simp [ordL, eqStrs]
  | _ :: _, [] => by simp [ordL, eqStrs]
  | a :: r, b :: s => by rw [ordL, orI_eq0, cmpS_eq0, ordL_strs r s, eqStrs, Bool.and_eq_true]
theorem ordL_eqL {α : Type} {f : α → α → Int} {g : α → α → Bool} (h : ∀ a b, f a b = 0 ↔ g a b = true) : ∀ (xs ys : List α), ordL f xs ys = 0 ↔ eqL g xs ys = true
  | [], [] => by simp [ordL, eqL]
  | [], _ :: _ => by simp [ordL, eqL]
  | _ :: _, [] => by simp [ordL, eqL]
  | a :: r, b :: s => by rw [ordL, orI_eq0, h, ordL_eqL h r s, eqL, Bool.and_eq_true]
theorem ordT_eqT : ∀ (d : Nat) (a b : Tr d), ordT d a b = 0 ↔ eqT d a b = true
  | 0, _, _ => by simp [ordT, eqT]
  | d + 1, a, b => by
    have hh : headO (α := Tr d) a b = 0 ↔ ((Nd.kind a == Nd.kind b) = true ∧ (Nd.num a == Nd.num b) = true ∧ ((Nd.str a).toList == (Nd.str b).toList) = true ∧ eqStrs (Nd.keys a) (Nd.keys b) = true) := by
      show orI (cmpI (Nd.kind a) (Nd.kind b)) (orI (cmpI (Nd.num a) (Nd.num b)) (orI (cmpS (Nd.str a) (Nd.str b)) (ordL cmpS (Nd.keys a) (Nd.keys b)))) = 0 ↔ _
      rw [orI_eq0, orI_eq0, orI_eq0, cmpI_eq0, cmpI_eq0, cmpS_eq0, ordL_strs]
    rw [ordT, orI_eq0, hh, ordL_eqL (ordT_eqT d), eqT, Bool.and_eq_true, Bool.and_eq_true, Bool.and_eq_true, Bool.and_eq_true]
    constructor
    · rintro ⟨⟨h1, h2, h3, h4⟩, h5⟩
      exact ⟨h1, h2, h3, h4, h5⟩
    · rintro ⟨h1, h2, h3, h4, h5⟩
      exact ⟨⟨h1, h2, h3, h4⟩, h5⟩

set_option maxHeartbeats 1000000 in
theorem implSame_any (d : Nat) (S S' : Nat → Prop) (t t' : Tr d) (v v' : Value) (w : World) (hv : ValAt S w d t v) (hv' : ValAt S' w d t' v') (hS : Under S w w.heap.size) (hS' : Under S' w w.heap.size) (hsm : (nodes d t : Int) ≤ 4194304) :
    Calls Tryz.prog 12 #[v, v'] w fun e w' => e = .returned (.bool (eqT d t t')) ∧ Below w.heap.size w w' := by
  obtain ⟨k, n, s, ak, lk, ck, al, ll, cl, rfl⟩ := hv.shape
  obtain ⟨k', n', s', ak', lk', ck', al', ll', cl', rfl⟩ := hv'.shape
  obtain ⟨_, _, hA⟩ := two_blocks w 26 (.int .i64 k) (.int .i64 n) (.string s) (.slice ak lk ck) (.slice al ll cl) (.int .i64 k') (.int .i64 n') (.string s') (.slice ak' lk' ck') (.slice al' ll' cl')
  have hf : Hid ((ordT d t t' == 0) = eqT d t t') := by
    show (ordT d t t' == 0) = eqT d t t'
    rw [Bool.eq_iff_iff, beq_iff_eq]
    exact ordT_eqT d t t'
  go_enter Tryz.func12, Tryz.ntmps12
  go_wp2_with fail
  refine (implOrder_any d S S' t t' _ _ _ (hv.same (fun b hb => hA.block b (hS b hb).2)) (hv'.same (fun b hb => hA.block b (hS' b hb).2)) (hS.below hA) (hS'.below hA) hsm).mono ?_
  rintro e w1 ⟨rfl, hb1⟩
  have hB := below_trans hA hb1
  clear hA hb1
  go_wp2_with fail
  go_ret
  rw [← hf.out]
  exact ⟨rfl, hB⟩

end Go.Proofs.YtohdpgclokgohaaGreatDoor

/- What the laws draw: two trees. -/
namespace Go.Proofs.YtohdpgclokgohaaGreatDoor
open Go.RowKit Go.Deep

theorem freshP_after {w W0 w1 w2 : World} (h0 : w.heap.size ≤ W0.heap.size) (b1 : Below w1.heap.size w1 w2) : ∀ b, FreshP W0 w1 b → FreshP w w2 b := fun b hb => ⟨⟨Nat.le_trans h0 hb.1.1, Nat.lt_of_lt_of_le hb.1.2 b1.size⟩, hb.2.of_block (b1.block b hb.1.2)⟩

end Go.Proofs.YtohdpgclokgohaaGreatDoor

/- FnValOrder: for all bytes that lie in memory the law answers true. -/
namespace Go.Proofs.YtohdpgclokgohaaGreatDoor
open Go.RowKit Go.Deep

/-- What stands when three trees are drawn: their cells, in variables; the trees themselves, in plain new blocks. -/
structure Three (w wX : World) (A B C : Nat) (a0 a1 a2 a3 a4 b0 b1 b2 b3 b4 c0 c1 c2 c3 c4 : Value) (ta tb tc : Tr 11) : Prop where
  ka : Blk5 wX A 26 a0 a1 a2 a3 a4
  kb : Blk5 wX B 26 b0 b1 b2 b3 b4
  kc : Blk5 wX C 26 c0 c1 c2 c3 c4
  va : ValAt (FreshP w wX) wX 11 ta (.agg #[a0, a1, a2, a3, a4])
  vb : ValAt (FreshP w wX) wX 11 tb (.agg #[b0, b1, b2, b3, b4])
  vc : ValAt (FreshP w wX) wX 11 tc (.agg #[c0, c1, c2, c3, c4])
  sa : wtT 11 ta ≤ 1000
  sb : wtT 11 tb ≤ 1000
  sc : wtT 11 tc ≤ 1000
  below : Below w.heap.size w wX

theorem freshP_go {w wX wY : World} {d : Nat} {t : Tr d} {u : Value} (h : ValAt (FreshP w wX) wX d t u) (hb : Below wX.heap.size wX wY) : ValAt (FreshP w wY) wY d t u := by
  have hs : Same (FreshP w wX) wX wY := fun b hb' => hb.block b hb'.1.2
  exact ValAt.moved hs (fun b hb' => ⟨⟨hb'.1.1, Nat.lt_of_lt_of_le hb'.1.2 hb.size⟩, hb'.2.of_block (hs b hb')⟩) d t u h
theorem freshP_wide {w W0 w1 : World} {d : Nat} {t : Tr d} {u : Value} (h : ValAt (FreshP W0 w1) w1 d t u) (h0 : w.heap.size ≤ W0.heap.size) : ValAt (FreshP w w1) w1 d t u := h.mono (fun _ hb => ⟨⟨Nat.le_trans h0 hb.1.1, hb.1.2⟩, hb.2⟩)
theorem Three.go {w wX wY : World} {A B C : Nat} {a0 a1 a2 a3 a4 b0 b1 b2 b3 b4 c0 c1 c2 c3 c4 : Value} {ta tb tc : Tr 11} (h : Three w wX A B C a0 a1 a2 a3 a4 b0 b1 b2 b3 b4 c0 c1 c2 c3 c4 ta tb tc) (hb : Below wX.heap.size wX wY) : Three w wY A B C a0 a1 a2 a3 a4 b0 b1 b2 b3 b4 c0 c1 c2 c3 c4 ta tb tc :=
  ⟨h.ka.below hb, h.kb.below hb, h.kc.below hb, freshP_go h.va hb, freshP_go h.vb hb, freshP_go h.vc hb, h.sa, h.sb, h.sc, below_trans h.below hb⟩
theorem under_P {w wX : World} : Under (FreshP w wX) wX wX.heap.size := fun _ h => ⟨h.2, h.1.2⟩
theorem within_P {w wX : World} : Within (FreshP w wX) wX := fun _ h => h.1.2

theorem ordI_any {w W : World} {t t' : Tr 11} {v v' : Value} (h : ValAt (FreshP w W) W 11 t v) (h' : ValAt (FreshP w W) W 11 t' v') (hs : wtT 11 t ≤ 1000) : Calls Tryz.prog 44 #[v, v'] W fun e w' => e = .returned (.int .i64 (ordT 11 t t')) ∧ Below W.heap.size W w' :=
  implOrder_any 11 _ _ t t' v v' W h h' under_P under_P (by have := nodes_wt' 11 t; omega)
theorem samI_any {w W : World} {t t' : Tr 11} {v v' : Value} (h : ValAt (FreshP w W) W 11 t v) (h' : ValAt (FreshP w W) W 11 t' v') (hs : wtT 11 t ≤ 1000) : Calls Tryz.prog 12 #[v, v'] W fun e w' => e = .returned (.bool (ordT 11 t t' == 0)) ∧ Below W.heap.size W w' := by
  have e : eqT 11 t t' = (ordT 11 t t' == 0) := by rw [Bool.eq_iff_iff, beq_iff_eq]; exact (ordT_eqT 11 t t').symm
  rw [← e]
  exact implSame_any 11 _ _ t t' v v' W h h' under_P under_P (by have := nodes_wt' 11 t; omega)
end Go.Proofs.YtohdpgclokgohaaGreatDoor

/- FnValRow: rows of drawn trees, and how they stand. -/
namespace Go.Proofs.YtohdpgclokgohaaGreatDoor
open Go.RowKit Go.Deep

theorem ordI_at {d : Nat} {w W : World} {t t' : Tr d} {v v' : Value} (h : ValAt (FreshP w W) W d t v) (h' : ValAt (FreshP w W) W d t' v') (hs : wtT d t ≤ 10000) : Calls Tryz.prog 44 #[v, v'] W fun e w' => e = .returned (.int .i64 (ordT d t t')) ∧ Below W.heap.size W w' :=
  implOrder_any d _ _ t t' v v' W h h' under_P under_P (by have := nodes_wt' d t; omega)
theorem samI_at {d : Nat} {w W : World} {t t' : Tr d} {v v' : Value} (h : ValAt (FreshP w W) W d t v) (h' : ValAt (FreshP w W) W d t' v') (hs : wtT d t ≤ 10000) : Calls Tryz.prog 12 #[v, v'] W fun e w' => e = .returned (.bool (ordT d t t' == 0)) ∧ Below W.heap.size W w' := by
  have e : eqT d t t' = (ordT d t t' == 0) := by rw [Bool.eq_iff_iff, beq_iff_eq]; exact (ordT_eqT d t t').symm
  rw [← e]
  exact implSame_any d _ _ t t' v v' W h h' under_P under_P (by have := nodes_wt' d t; omega)

/-- A row of trees, as a tree. -/
def rowD {d : Nat} (xs : List (Tr d)) : Tr (d + 1) := ({ kind := 5, num := 0, str := ⟨#[]⟩, keys := [], list := xs } : Nd (Tr d))
theorem ordT_rowD {d : Nat} (xs ys : List (Tr d)) : ordT (d + 1) (rowD xs) (rowD ys) = ordL (ordT d) xs ys := by
  show orI (orI (cmpI 5 5) (orI (cmpI 0 0) (orI (cmpS ⟨#[]⟩ ⟨#[]⟩) (ordL cmpS [] [])))) (ordL (ordT d) xs ys) = _
  have h1 : cmpI 5 5 = 0 := by decide
  have h2 : cmpI 0 0 = 0 := by decide
  have h3 : cmpS ⟨#[]⟩ ⟨#[]⟩ = 0 := cmpS_eq (by simp)
  rw [h1, h2, h3]
  rfl
theorem rowD_at {S : Nat → Prop} {w : World} {d : Nat} {xs : List (Tr d)} {a : Option Addr} {n c : Nat} (h : RowAt S w (ValAt S w d) (.slice a n c) xs) : ValAt S w (d + 1) (rowD xs) (.agg #[.int .i64 5, .int .i64 0, .string { data := #[] }, .slice none 0 0, .slice a n c]) :=
  build_of ⟨by omega, by omega⟩ ⟨by omega, by omega⟩ (by show (0 : Nat) < _; omega) ⟨by show (0 : Nat) < _; omega, (fun s hs => by cases hs), none, 0, rfl, Or.inl rfl⟩ h
theorem row1_at {S : Nat → Prop} {w : World} {d g : Nat} {t : Tr d} {a0 a1 a2 a3 a4 : Value} (h : Blk5 w g 26 a0 a1 a2 a3 a4) (hg : S g) (ht : ValAt S w d t (.agg #[a0, a1, a2, a3, a4])) : RowAt S w (ValAt S w d) (.slice (some ⟨g, 0, none⟩) 1 1) [t] := by
  obtain ⟨e0, e1, e2, e3, e4⟩ := h.cell
  exact ⟨by simp, some ⟨g, 0, none⟩, 1, rfl, Or.inr ⟨g, 0, hg, rfl, fun i x hx => by
    match i, hx with
    | 0, hx => cases hx; exact ⟨a0, a1, a2, a3, a4, e0, e1, e2, e3, e4, ht⟩
    | i + 1, hx => simp at hx⟩⟩
theorem row2_at {S : Nat → Prop} {w : World} {d g : Nat} {c l : Tr d} {c0 c1 c2 c3 c4 l0 l1 l2 l3 l4 : Value} (h : w.heap[g]? = some (.cells #[c0, c1, c2, c3, c4, l0, l1, l2, l3, l4] 26 (0, 0))) (hg : S g) (hC : ValAt S w d c (.agg #[c0, c1, c2, c3, c4])) (hL : ValAt S w d l (.agg #[l0, l1, l2, l3, l4])) : RowAt S w (ValAt S w d) (.slice (some ⟨g, 0, none⟩) 2 2) [c, l] := by
  have hcl : ∀ j u, (#[c0, c1, c2, c3, c4, l0, l1, l2, l3, l4] : Array Value)[j]? = some u → w.cell? ⟨g, j, none⟩ = some u := fun j u hj => (cell_of_cells h).trans hj
  exact ⟨by simp, some ⟨g, 0, none⟩, 2, rfl, Or.inr ⟨g, 0, hg, rfl, fun i x hx => by
    match i, hx with
    | 0, hx => cases hx; exact ⟨c0, c1, c2, c3, c4, hcl 0 _ rfl, hcl 1 _ rfl, hcl 2 _ rfl, hcl 3 _ rfl, hcl 4 _ rfl, hC⟩
    | 1, hx => cases hx; exact ⟨l0, l1, l2, l3, l4, hcl 5 _ rfl, hcl 6 _ rfl, hcl 7 _ rfl, hcl 8 _ rfl, hcl 9 _ rfl, hL⟩
    | i + 2, hx => simp at hx⟩⟩
theorem freshP_new (w W : World) (o : Array Value) (T : TypeId) (h : w.heap.size ≤ W.heap.size) : FreshP w (W.alloc (.cells o T)) W.heap.size := ⟨⟨h, by simp⟩, ⟨o, T, heap_alloc_new W _⟩⟩
end Go.Proofs.YtohdpgclokgohaaGreatDoor

/- eqStringS, eqVal, eqValS: two trees are one. -/
namespace Go.Proofs.YtohdpgclokgohaaGreatDoor
open Go.RowKit Go.Deep
end Go.Proofs.YtohdpgclokgohaaGreatDoor

/- many: how many parts one of the program's own trees has. -/
namespace Go.Proofs.YtohdpgclokgohaaGreatDoor
open Go.RowKit Go.Deep

/-- How many parts there are, as the program's own trees have them. -/
def cntT : (d : Nat) → Tr d → Nat
  | 0, _ => 0
  | d + 1, t => 1 + (if Nd.kind t = 5 ∨ Nd.kind t = 6 then ((Nd.list t).map (cntT d)).sum else 0)

/-- What many is asked to give. -/
def ManyQ (n : Nat) (w : World) (e : Ending) (w' : World) : Prop := e = .returned (.int .i64 n) ∧ Below w.heap.size w w'

/-- Which function a call of many is, and that it gives the number. -/
def ManyOf (u : Value) (n : Nat) (w : World) : Prop :=
  ∃ v, (u = .iface 67 v ∧ Calls Tryz.prog 143 #[v] w (ManyQ n w)) ∨
    (u = .iface 94 v ∧ Calls Tryz.prog 153 #[v] w (ManyQ n w)) ∨
    (u = .iface 84 v ∧ Calls Tryz.prog 150 #[v] w (ManyQ n w)) ∨
    (u = .iface 80 v ∧ Calls Tryz.prog 147 #[v] w (ManyQ n w)) ∨
    (u = .iface 100 v ∧ Calls Tryz.prog 156 #[v] w (ManyQ n w))

def ManyC (d : Nat) : Prop := ∀ (S : Nat → Prop) (t : Tr d) (u : Value) (w : World), TreeAt S w d t u → Within S w → (cntT d t : Int) ≤ 4194304 → ManyOf u (cntT d t) w

theorem bareMany_any (k : Int) (w : World) : Calls Tryz.prog 143 #[.agg #[.int .i64 k]] w (ManyQ 1 w) := by
  go_enter Tryz.func143, Tryz.ntmps143
  go_wp2_with fail
  go_ret
  exact ⟨rfl, below_alloc1 _ _⟩
theorem numMany_any (k : Int) (w : World) : Calls Tryz.prog 153 #[.agg #[.int .i64 k]] w (ManyQ 1 w) := by
  go_enter Tryz.func153, Tryz.ntmps153
  go_wp2_with fail
  go_ret
  exact ⟨rfl, below_alloc1 _ _⟩
theorem strMany_any (s : ByteArray) (w : World) : Calls Tryz.prog 150 #[.agg #[.string s]] w (ManyQ 1 w) := by
  go_enter Tryz.func150, Tryz.ntmps150
  go_wp2_with fail
  go_ret
  exact ⟨rfl, below_alloc1 _ _⟩

set_option maxRecDepth 100000 in
set_option maxHeartbeats 2000000 in
theorem rowMany_any (d : Nat) (ih : ManyC d) (S : Nat → Prop) (xs : List (Tr d)) (sv : Value) (w : World) (hv : Row1At S w (TreeAt S w d) sv xs) (hS : Within S w) (hsm : ((1 + (xs.map (cntT d)).sum : Nat) : Int) ≤ 4194304) :
    Calls Tryz.prog 147 #[.agg #[sv]] w (ManyQ (1 + (xs.map (cntT d)).sum) w) := by
  obtain ⟨a, cap, rfl, hlen⟩ := hv.open'
  obtain ⟨W0, hW⟩ : ∃ W0, W0 = w.alloc (.cells #[.slice a xs.length cap] 80) := ⟨_, rfl⟩
  have hW0 : Below w.heap.size w W0 := by rw [hW]; exact below_alloc1 _ _
  have HW : Hid _ := hW
  clear hW
  go_enter Tryz.func147, Tryz.ntmps147
  go_wp2_with fail
  rw [← HW.out]
  clear HW
  go_loopw [3, 9] (fun n i wr => ∃ k s : Nat, k ≤ xs.length ∧ i = .int .i64 k ∧ n = .int .i64 (1 + (s : Int)) ∧ Hid (s = ((xs.take k).map (cntT d)).sum) ∧ Below W0.heap.size W0 wr) (fun _ i _ => xs.length - (intOf i).toNat)
  case atStart => exact ⟨0, 0, Nat.zero_le _, rfl, rfl, by simp [Hid], Below.refl _ _⟩
  case round =>
    obtain ⟨k, s, hkk, rfl, rfl, hs, hbel⟩ := hrel
    have hbw := below_trans hW0 hbel
    have hsb : (s : Int) ≤ 4194304 := by
      have h2 := sum_take_le (cntT d) xs k
      have h3 := hs.out
      omega
    by_cases hkl2 : k < xs.length
    · have hsame := hS.same hbw
      obtain ⟨b, o, x, u, rfl, _, hx, hc, hu⟩ := (hv.moved hsame (fun _ h => h) (fun x u hx => TreeAt.moved hsame (fun _ h => h) d x u hx)).cell hkl2
      have hst : Hid (_ = _) := sum_take_step (cntT d) hx
      have hnx := mem_sum_le (cntT d) hx
      obtain ⟨v, hm⟩ := ih S x u wr hu (hS.later hbw.size) (by omega)
      clear hx hv hu hsame
      rcases hm with ⟨rfl, hcall⟩ | ⟨rfl, hcall⟩ | ⟨rfl, hcall⟩ | ⟨rfl, hcall⟩ | ⟨rfl, hcall⟩
      all_goals
        have HC : Hid _ := hcall
        clear hcall
        go_wp2_with fail
        refine Calls.mono (R := ManyQ (cntT d x) wr) HC.out ?_
        rintro e w1 ⟨rfl, hb1⟩
        have hb2 := below_trans hbel hb1
        clear hb1 hbel hc hbw HC
        go_wp2_with fail
        go_roundw
        case rel => exact ⟨k + 1, s + cntT d x, by omega, by go_num, by go_num, by show _ = _; rw [hst.out, hs.out], hb2⟩
        case measure => simp [intOf]; omega
    · have HF : Hid ((1 + (xs.map (cntT d)).sum : Nat) = 1 + s) := by
        show _ = _
        rw [hs.out, List.take_of_length_le (by omega)]
      go_wp2_with fail
      go_ret
      refine ⟨?_, hbw⟩
      rw [HF.out]
      simp
end Go.Proofs.YtohdpgclokgohaaGreatDoor

/- many: maps, and all of them together. -/
namespace Go.Proofs.YtohdpgclokgohaaGreatDoor
open Go.RowKit Go.Deep

theorem seen_perm {n : Nat} {seen : List Nat} (hd : seen.Nodup) (hl : ∀ i ∈ seen, i < n) : (List.range n).Perm (seen ++ (List.range n).filter (fun i => !seen.contains i)) := by
  rw [List.perm_ext_iff_of_nodup List.nodup_range]
  · intro a
    simp only [List.mem_range, List.mem_append, List.mem_filter, Bool.not_eq_true', List.contains_eq_mem, decide_eq_false_iff_not]
    constructor
    · intro h
      by_cases hm : a ∈ seen
      · exact Or.inl hm
      · exact Or.inr ⟨h, hm⟩
    · rintro (h | h)
      · exact hl a h
      · exact h.1
  · rw [List.nodup_append]
    refine ⟨hd, List.Pairwise.filter _ List.nodup_range, fun a ha b hb e => ?_⟩
    subst e
    simp only [List.mem_filter, List.contains_eq_mem, Bool.not_eq_true', decide_eq_false_iff_not] at hb
    exact hb.2 ha
theorem seen_sum_le {n : Nat} {seen : List Nat} (f : Nat → Nat) (hd : seen.Nodup) (hl : ∀ i ∈ seen, i < n) : (seen.map f).sum ≤ ((List.range n).map f).sum := by
  have := ((seen_perm hd hl).map f).sum_nat
  rw [List.map_append, List.sum_append] at this
  omega
theorem seen_sum_all {n : Nat} {seen : List Nat} (f : Nat → Nat) (hd : seen.Nodup) (hl : ∀ i ∈ seen, i < n) (ha : ∀ i, i < n → i ∈ seen) : (seen.map f).sum = ((List.range n).map f).sum := by
  have hp : seen.Perm (List.range n) := by
    rw [List.perm_ext_iff_of_nodup hd List.nodup_range]
    intro a
    simp only [List.mem_range]
    exact ⟨hl a, ha a⟩
  exact (hp.map f).sum_nat
theorem seen_len {n : Nat} {seen : List Nat} (hd : seen.Nodup) (hl : ∀ i ∈ seen, i < n) : seen.length ≤ n := by
  have := List.Nodup.length_le_of_subset hd (l₂ := List.range n) (fun i hi => List.mem_range.2 (hl i hi))
  simpa using this
/-- A number for the thing at a place. -/
def atN {α : Type} (f : α → Nat) (xs : List α) (i : Nat) : Nat := match xs[i]? with | some x => f x | none => 0
theorem atN_sum {α : Type} (f : α → Nat) (xs : List α) : ((List.range xs.length).map (atN f xs)).sum = (xs.map f).sum := by
  congr 1
  apply List.ext_getElem
  · simp
  · intro i h1 h2
    simp only [List.length_map, List.length_range] at h1
    simp [atN, h1]
theorem OneOff.below {r B : Nat} {a w w' : World} (h : Below B a w) (k : OneOff r w w') (hr : B ≤ r) : Below B a w' :=
  h.trans ⟨k.os, k.tape, k.output, by rw [k.size]; exact Nat.le_refl _, fun i hi => k.block i (by omega)⟩

theorem cntT_pos : ∀ (d : Nat) (t : Tr d), 1 ≤ cntT d t
  | 0, t => Empty.elim t
  | d + 1, t => by rw [cntT]; omega
theorem len_le_cnt {d : Nat} : ∀ xs : List (Tr d), xs.length ≤ (xs.map (cntT d)).sum
  | [] => Nat.le_refl _
  | x :: r => by
    have := cntT_pos d x
    have := len_le_cnt r
    simp only [List.length_cons, List.map_cons, List.sum_cons]
    omega

set_option maxRecDepth 100000 in
set_option maxHeartbeats 2000000 in
theorem mapMany_any (d : Nat) (ih : ManyC d) (S : Nat → Prop) (keys : List ByteArray) (xs : List (Tr d)) (m : Nat) (es : Array MapEntry) (w : World) (hSm : S m) (hobj : w.heap[m]? = some (.map es keys.length)) (hmap : MapIs (TreeAt S w d) es keys xs) (hS : Within S w)
    (hsm : ((1 + (xs.map (cntT d)).sum : Nat) : Int) ≤ 4194304) :
    Calls Tryz.prog 156 #[.agg #[.map (some m)]] w (ManyQ (1 + (xs.map (cntT d)).sum) w) := by
  obtain ⟨hes, hkl, hent⟩ := hmap
  have hmw := hS m hSm
  have hborn : ∀ (j : Nat) (x : MapEntry), es[j]? = some x → x.born = j := fun j x hx => by
    have hj := (Array.getElem?_eq_some_iff.1 hx).1
    obtain ⟨u, hu, _⟩ := hent j keys[j] xs[j] (List.getElem?_eq_getElem (by omega)) (List.getElem?_eq_getElem (by omega))
    rw [hx] at hu
    cases hu
    rfl
  have hrg := fun w' h => run_range_map (P := Tryz.prog) (T := 62) Tryz.underlying62 w' m keys.length es h
  obtain ⟨W0, hW⟩ : ∃ W0, W0 = w.alloc (.cells #[.map (some m)] 100) := ⟨_, rfl⟩
  have hW0 : Below w.heap.size w W0 := by rw [hW]; exact below_alloc1 _ _
  have hrun := hrg (w.alloc (.cells #[.map (some m)] 100)) ((Below.heap_alloc _ _ _ hmw).trans hobj)
  obtain ⟨W1, hW1⟩ : ∃ W1, W1 = (w.alloc (.cells #[.map (some m)] 100)).alloc (.mapIter (some m) keys.length #[] keys.length) := ⟨_, rfl⟩
  have hB1 : Below w.heap.size w W1 := by rw [hW1]; exact below_trans (below_alloc1 _ _) (below_alloc1 _ _)
  have hI1 : Iter W1 (w.heap.size + 1) m keys.length [] := by
    rw [hW1]
    have := heap_alloc_new (w.alloc (.cells #[.map (some m)] 100)) (.mapIter (some m) keys.length #[] keys.length)
    simpa [Iter] using this
  have HW : Hid _ := hW1
  have HK : Hid (keys.length = xs.length) := hkl
  have hkb : keys.length < 4194305 := by
    have h1 : xs.length ≤ 4194304 := by
      have := len_le_cnt xs
      omega
    omega
  clear hW hW1 hrg hW0 hkl
  go_enter Tryz.func156, Tryz.ntmps156
  go_wp2_with fail
  rw [← HW.out]
  clear HW hrun
  go_loopg [3] keys.length (fun gk v wr => ∃ (seen : List Nat) (s : Nat), seen.length + gk = keys.length ∧ v = .int .i64 (1 + (s : Int)) ∧ Hid (seen.Nodup ∧ (∀ i ∈ seen, i < keys.length) ∧ s = (seen.map (atN (cntT d) xs)).sum ∧ Iter wr (w.heap.size + 1) m keys.length seen) ∧ Below w.heap.size w wr)
  case atStart => exact ⟨[], 0, by simp, rfl, ⟨List.nodup_nil, (fun i h => by cases h), rfl, hI1⟩, hB1⟩
  case round =>
    clear hI1 hB1
    obtain ⟨seen, s, hlen, rfl, hinv, hbel⟩ := hrel
    have HL : Hid _ := hlen
    clear hlen
    have hobj2 : wr.heap[m]? = some (.map es keys.length) := (hbel.block m hmw).trans hobj
    have hsb : (s : Int) ≤ 4194303 := by
      have h2 := seen_sum_le (atN (cntT d) xs) hinv.out.1 hinv.out.2.1
      rw [HK.out, atN_sum] at h2
      have h3 := hinv.out.2.2.1
      omega
    rcases run_next_map (P := Tryz.prog) wr (w.heap.size + 1) m keys.length seen es hinv.out.2.2.2 hobj2 hes hborn with ⟨hall, hnext⟩ | ⟨i, e, w1, hi, hns, hei, hI, hoff, hnext⟩
    · have HF : Hid ((1 + (xs.map (cntT d)).sum : Nat) = 1 + s) := by
        show _ = _
        rw [hinv.out.2.2.1, seen_sum_all _ hinv.out.1 hinv.out.2.1 hall, HK.out, atN_sum]
      clear hall hobj2
      go_wp2_with fail
      go_ret
      refine ⟨?_, hbel⟩
      rw [HF.out]
      simp
    · have hxi : i < xs.length := by rw [← HK.out]; exact hi
      obtain ⟨u, hu, htu⟩ := hent i keys[i] xs[i] (List.getElem?_eq_getElem hi) (List.getElem?_eq_getElem hxi)
      rw [hei] at hu
      cases hu
      have hb1 : Below w.heap.size w w1 := OneOff.below hbel hoff (by omega)
      have hobj3 : w1.heap[m]? = some (.map es keys.length) := (hb1.block m hmw).trans hobj
      have hentry := run_entry_map (P := Tryz.prog) w1 (w.heap.size + 1) m keys.length i seen es _ hI hobj3 hborn hei
      have hnx := mem_sum_le (cntT d) (List.getElem?_eq_getElem hxi)
      have hsame := hS.same hb1
      obtain ⟨v, hm⟩ := ih S xs[i] u w1 (TreeAt.moved hsame (fun _ h => h) d _ u htu) (hS.later hb1.size) (by omega)
      have HI : Hid (Iter w1 (w.heap.size + 1) m keys.length (seen ++ [i])) := hI
      have HX : Hid (atN (cntT d) xs i = cntT d xs[i]) := by
        show atN (cntT d) xs i = _
        simp [atN, hxi]
      have hrl : w.heap.size + 1 < w1.heap.size := (Array.getElem?_eq_some_iff.1 hI).1
      have HNS : Hid ((seen ++ [i]).Nodup ∧ ∀ j ∈ seen ++ [i], j < keys.length) := by
        refine ⟨?_, fun j hj => ?_⟩
        · rw [List.nodup_append]
          exact ⟨hinv.out.1, by simp, fun a ha b hb e => by simp at hb; subst hb; subst e; exact hns ha⟩
        · rcases List.mem_append.1 hj with h | h
          · exact hinv.out.2.1 j h
          · simp at h; subst h; exact hi
      have hgk : 1 ≤ gk := by
        have h1 := seen_len HNS.out.1 HNS.out.2
        have h2 := HL.out
        simp at h1
        omega
      generalize hcx : cntT d xs[i] = cx at *
      clear hobj2 hobj3 htu hei hI hoff hsame hns hcx
      rcases hm with ⟨rfl, hcall⟩ | ⟨rfl, hcall⟩ | ⟨rfl, hcall⟩ | ⟨rfl, hcall⟩ | ⟨rfl, hcall⟩
      all_goals
        have HC : Hid _ := hcall
        clear hcall
        go_wp2_with fail
        refine Calls.mono (R := ManyQ cx w1) HC.out ?_
        rintro e w2 ⟨rfl, hb2⟩
        have hb3 := below_trans hb1 hb2
        have HI2 : Hid (Iter w2 (w.heap.size + 1) m keys.length (seen ++ [i])) := (hb2.block _ hrl).trans HI.out
        clear hb1 hb2 hbel HC HI hnext hentry
        go_wp2_with fail
        go_roundg (gk - 1)
        case rel =>
          refine ⟨seen ++ [i], s + cx, by have := HL.out; simp; omega, by go_num, ⟨HNS.out.1, HNS.out.2, ?_, HI2.out⟩, hb3⟩
          · rw [List.map_append, List.sum_append, ← hinv.out.2.2.1]
            simp [HX.out]
        case measure => omega
end Go.Proofs.YtohdpgclokgohaaGreatDoor

/- FnExactValMany: for every tree that lies in memory the law answers true. -/
namespace Go.Proofs.YtohdpgclokgohaaGreatDoor
open Go.RowKit Go.Deep

theorem many_any : ∀ (d : Nat), ManyC d
  | 0 => fun _ _ _ _ h => h.elim
  | d + 1 => by
    intro S t u w hu hS hsm
    have ih := many_any d
    obtain ⟨kind, num, str, keys, list⟩ := t
    have hc : cntT (d + 1) (Nd.mk kind num str keys list) = 1 + (if kind = 5 ∨ kind = 6 then (list.map (cntT d)).sum else 0) := rfl
    rw [hc] at hsm ⊢
    rcases hu with ⟨hk, rfl⟩ | ⟨hk, rfl⟩ | ⟨hk, rfl⟩ | ⟨hk, sv, rfl, hr⟩ | ⟨hk, r, es, rfl, hr, hm, he⟩
    · rw [if_neg (by have : kind = 0 ∨ kind = 1 ∨ kind = 2 := hk; omega)]
      exact ⟨_, Or.inl ⟨rfl, bareMany_any _ w⟩⟩
    · rw [if_neg (by have : kind = 3 := hk; omega)]
      exact ⟨_, Or.inr (Or.inl ⟨rfl, numMany_any _ w⟩)⟩
    · rw [if_neg (by have : kind = 4 := hk; omega)]
      exact ⟨_, Or.inr (Or.inr (Or.inl ⟨rfl, strMany_any _ w⟩))⟩
    · have hk5 : kind = 5 ∨ kind = 6 := Or.inl hk
      rw [if_pos hk5] at hsm ⊢
      exact ⟨_, Or.inr (Or.inr (Or.inr (Or.inl ⟨rfl, rowMany_any d ih S list sv w hr hS hsm⟩)))⟩
    · have hk6 : kind = 5 ∨ kind = 6 := Or.inr hk
      rw [if_pos hk6] at hsm ⊢
      exact ⟨_, Or.inr (Or.inr (Or.inr (Or.inr ⟨rfl, mapMany_any d ih S keys list r es w hr hm he hS hsm⟩)))⟩

theorem cntT_le : ∀ (d : Nat) (t : Tr d), cntT d t ≤ nodes d t
  | 0, _ => Nat.le_refl _
  | d + 1, t => by
    rw [cntT, nodes]
    split
    · have := sum_map_le (cntT d) (nodes d) (cntT_le d) (Nd.list t)
      omega
    · omega
theorem sum_map_congr {α : Type} {f g : α → Nat} : ∀ {xs : List α}, (∀ x ∈ xs, f x = g x) → (xs.map f).sum = (xs.map g).sum
  | [], _ => rfl
  | x :: r, h => by
    simp only [List.map_cons, List.sum_cons]
    rw [h x (by simp), sum_map_congr (fun y hy => h y (by simp [hy]))]
/-- Of a tree of right form the two counts are one. -/
theorem cntT_many : ∀ (d : Nat) (t : Tr d) (deep : Int), formT d t deep = true → cntT d t = manyT d t deep
  | 0, _, _, h => by simp [formT] at h
  | d + 1, t, deep, h => by
    obtain ⟨kind, num, str, keys, list⟩ := t
    have hc : cntT (d + 1) (Nd.mk kind num str keys list) = 1 + (if kind = 5 ∨ kind = 6 then (list.map (cntT d)).sum else 0) := rfl
    have hm : manyT (d + 1) (Nd.mk kind num str keys list) deep = 1 + (if 0 < deep then (list.map (fun x => manyT d x (deep - 1))).sum else 0) := rfl
    cases hb : headBad kind num str keys.length list.length deep with
    | true => rw [formT_bad hb] at h; cases h
    | false =>
      rw [formT_good hb] at h
      have hg := head_good hb
      rw [hc, hm, if_pos (show 0 < deep by omega)]
      by_cases h56 : kind = 5 ∨ kind = 6
      · rw [if_pos h56]
        have hall : list.all (fun x => formT d x (deep - 1)) = true := by
          rcases h56 with rfl | rfl
          · simpa using h
          · simp at h
            simpa using h.2
        congr 1
        refine sum_map_congr (fun x hx => ?_)
        exact cntT_many d x (deep - 1) (List.all_eq_true.1 hall x hx)
      · rw [if_neg h56]
        have : list.length = 0 := by
          by_cases h5 : kind < 5
          · exact hg.2.2.2.2 h5
          · rw [if_neg (by omega), if_neg (by omega), if_neg (by omega), if_neg (by omega), if_neg (by omega)] at h
            cases h
        obtain rfl : list = [] := List.eq_nil_of_length_eq_zero this
        simp

/-- How many parts a tree has that is ok, 0 of one that is not. -/
def manyOk (d : Nat) (t : Tr d) : Nat := if okT d t = true then manyT d t 6 else 0

set_option maxRecDepth 100000 in
set_option maxHeartbeats 2000000 in
theorem implValMany_any (d : Nat) (S : Nat → Prop) (t : Tr d) (v : Value) (w : World) (hv : ValAt S w d t v) (hS : Within S w) (hsm : (nodes d t : Int) ≤ 4194304) :
    Calls Tryz.prog 29 #[v] w fun e w' => e = .returned (.int .i64 (manyOk d t)) ∧ Below w.heap.size w w' := by
  obtain ⟨k, n, s, ak, lk, ck, al, ll, cl, rfl⟩ := hv.shape
  have hA := below_alloc1 w (.cells #[.int .i64 k, .int .i64 n, .string s, .slice ak lk ck, .slice al ll cl] 26)
  have hle := cntT_le d t
  go_enter Tryz.func29, Tryz.ntmps29
  go_wp2_with fail
  refine (treeOf_any d S t _ _ (hv.same (hS.same hA)) (hS.later hA.size)).mono ?_
  rintro e w1 ⟨u, rfl, hu, hb1⟩
  rw [treeP_okT] at hu ⊢
  have HB : Hid (Below w.heap.size w w1) := below_trans hA hb1
  cases hf : okT d t with
  | false =>
    have hfin : Hid (manyOk d t = 0) := by
      show manyOk d t = 0
      rw [manyOk, hf]
      rfl
    clear hu hb1 hA hv
    go_wp2_with fail
    go_ret
    rw [hfin.out]
    exact ⟨rfl, HB.out⟩
  | true =>
    have hform : formT d t 6 = true := by
      unfold okT at hf
      simp only [Bool.and_eq_true] at hf
      exact hf.1
    have hfin : Hid (manyOk d t = cntT d t) := by
      show manyOk d t = _
      rw [manyOk, hf, cntT_many d t 6 hform]
      rfl
    obtain ⟨v', hm⟩ := many_any d _ t u w1 (hu hf) (Fresh.within _ _) (by omega)
    clear hu hb1 hA hv hform
    rcases hm with ⟨rfl, hcall⟩ | ⟨rfl, hcall⟩ | ⟨rfl, hcall⟩ | ⟨rfl, hcall⟩ | ⟨rfl, hcall⟩
    all_goals
      have HC : Hid _ := hcall
      clear hcall
      go_wp2_with fail
      refine Calls.mono (R := ManyQ (cntT d t) w1) HC.out ?_
      rintro e w2 ⟨rfl, hb2⟩
      have HB2 : Hid (Below w.heap.size w w2) := below_trans HB.out hb2
      clear hb2 HC
      go_wp2_with fail
      go_ret
      rw [hfin.out]
      exact ⟨rfl, HB2.out⟩

end Go.Proofs.YtohdpgclokgohaaGreatDoor

/- FnValMany: how many parts there are. -/
namespace Go.Proofs.YtohdpgclokgohaaGreatDoor
open Go.RowKit Go.Deep

theorem okT_split {d : Nat} {t : Tr d} : okT d t = true ↔ formT d t 6 = true ∧ manyT d t 6 ≤ 60 := by
  unfold okT
  rw [Bool.and_eq_true, decide_eq_true_eq]
theorem many_pos {d : Nat} {t : Tr (d + 1)} (h : okT (d + 1) t = true) : 1 ≤ manyOk (d + 1) t ∧ manyOk (d + 1) t ≤ 60 := by
  have h2 := (okT_split.1 h).2
  unfold manyOk
  rw [if_pos h]
  exact ⟨by rw [manyT]; omega, h2⟩
theorem many_no {d : Nat} {t : Tr d} (h : okT d t = false) : manyOk d t = 0 := by
  unfold manyOk
  rw [if_neg (by rw [h]; simp)]
theorem form_parts {d : Nat} {t : Tr (d + 1)} (h : formT (d + 1) t 6 = true) : ∀ x ∈ Nd.list t, formT d x 5 = true := by
  obtain ⟨kind, num, str, keys, list⟩ := t
  intro x hx
  have hx : x ∈ list := hx
  cases hb : headBad kind num str keys.length list.length 6 with
  | true => rw [formT_bad hb] at h; cases h
  | false =>
    rw [formT_good hb] at h
    have hg := head_good hb
    by_cases h56 : kind = 5 ∨ kind = 6
    · have hall : list.all (fun x => formT d x 5) = true := by
        rcases h56 with rfl | rfl
        · simpa using h
        · simp at h
          simpa using h.2
      exact List.all_eq_true.1 hall x hx
    · have : list.length = 0 := by
        by_cases h5 : kind < 5
        · exact hg.2.2.2.2 h5
        · rw [if_neg (by omega), if_neg (by omega), if_neg (by omega), if_neg (by omega), if_neg (by omega)] at h
          cases h
      rw [List.eq_nil_of_length_eq_zero this] at hx
      cases hx
theorem many_part {d : Nat} {t : Tr (d + 1)} {x : Tr d} (h : okT (d + 1) t = true) (hx : x ∈ Nd.list t) : manyOk d x = manyT d x 5 := by
  have h1 := form_parts (okT_split.1 h).1 x hx
  unfold manyOk
  rw [if_pos (okT_part h hx)]
  exact (formT_up d x 5 h1).2
theorem many_parts {d : Nat} {t : Tr (d + 1)} (h : okT (d + 1) t = true) : manyOk (d + 1) t = 1 + ((Nd.list t).map (manyOk d)).sum := by
  have e : (Nd.list t).map (manyOk d) = (Nd.list t).map (fun x => manyT d x 5) := List.map_congr_left (fun x hx => many_part h hx)
  rw [e]
  unfold manyOk
  rw [if_pos h]
  rfl
end Go.Proofs.YtohdpgclokgohaaGreatDoor

/- What the laws of chapter 2 draw: a tree, beside a key or a place. -/
namespace Go.Proofs.YtohdpgclokgohaaGreatDoor
open Go.RowKit Go.Deep

/-- The keys that are drawn. -/
def drawKeys : List ByteArray := [⟨#[97]⟩, ⟨#[98]⟩, ⟨#[99]⟩, ⟨#[97]⟩, ⟨#[98]⟩, ⟨#[100]⟩, ⟨#[]⟩, ⟨#[65]⟩, ⟨#[122, 122]⟩]
theorem drawKeys_size {s : ByteArray} (h : s ∈ drawKeys) : s.size ≤ 2 := by
  have : ∀ y ∈ drawKeys, y.size ≤ 2 := by decide
  exact this s h

/-- The tree that was drawn lies in the result's own cells. -/
theorem treeD_end {w wX : World} {t : Tr 11} {v0 v1 v2 v3 v4 : Value} (hv : ValAt (FreshQ w wX) wX 11 t (.agg #[v0, v1, v2, v3, v4])) (hb : Below w.heap.size w wX) :
    ∀ wF, wF = set5 wX w.heap.size 0 v0 v1 v2 v3 v4 → ValAt (FreshP w wF) wF 11 t (.agg #[v0, v1, v2, v3, v4]) ∧ Below w.heap.size w wF := by
  intro wF hF
  have hs : ∀ b, b ≠ w.heap.size → wF.heap[b]? = wX.heap[b]? := fun b hb' => by rw [hF]; exact set5_block _ _ _ _ _ _ _ _ _ hb'
  have hz : wF.heap.size = wX.heap.size := by rw [hF]; exact set5_size _ _ _ _ _ _ _ _
  have hl : Below w.heap.size w wF := by rw [hF]; exact below_set5 hb (Nat.le_refl _) _ _ _ _ _ _
  refine ⟨ValAt.moved (fun b hb' => hs b (by have := hb'.1; omega)) (fun b hb' => ?_) 11 t _ hv, hl⟩
  exact ⟨⟨Nat.le_of_lt hb'.1, by rw [hz]; exact hb'.2.1⟩, hb'.2.2.of_block (hs b (by have := hb'.1; omega))⟩

/-- The places that are drawn. -/
def drawAts : List Int := [0, 1, 2, -1, -2, 5, -5, 100]

end Go.Proofs.YtohdpgclokgohaaGreatDoor

/- What the laws of chapter 2 draw: two trees, with a key or a place between. -/
namespace Go.Proofs.YtohdpgclokgohaaGreatDoor
open Go.RowKit Go.Deep

/-- Plain blocks from lo on, but for one. -/
def FreshZ (lo vb : Nat) (w : World) (b : Nat) : Prop := lo ≤ b ∧ b < w.heap.size ∧ Plain w b ∧ b ≠ vb
theorem FreshZ.but {lo vb r d : Nat} {w w' : World} {t : Tr d} {u : Value} (h : ValAt (FreshZ lo vb w) w d t u) (hb : But r w w') (hr : r < lo) : ValAt (FreshZ lo vb w') w' d t u := by
  have hs : Same (FreshZ lo vb w) w w' := fun b hb' => hb.block b hb'.2.1 (fun e => by have := hb'.1; cases e; omega)
  exact ValAt.moved hs (fun b hb' => ⟨hb'.1, Nat.lt_of_lt_of_le hb'.2.1 hb.size, hb'.2.2.1.of_block (hs b hb'), hb'.2.2.2⟩) d t u h
theorem FreshZ.turn {lo vb d : Nat} {w w' : World} {t : Tr d} {u : Value} (h : ValAt (FreshZ lo vb w) w d t u) (ht : Turn (fun b => b = vb) w w') : ValAt (FreshZ lo vb w') w' d t u := by
  have hs : Same (FreshZ lo vb w) w w' := fun b hb' => ht.block b hb'.2.1 (fun e => hb'.2.2.2 e)
  exact ValAt.moved hs (fun b hb' => ⟨hb'.1, Nat.lt_of_lt_of_le hb'.2.1 ht.size, hb'.2.2.1.of_block (hs b hb'), hb'.2.2.2⟩) d t u h
theorem FreshZ.new {lo vb d : Nat} {wA wB : World} {t : Tr d} {u : Value} (h : ValAt (FreshP wA wB) wB d t u) (hl : lo ≤ wA.heap.size) (hv : vb < wA.heap.size) : ValAt (FreshZ lo vb wB) wB d t u :=
  h.mono (fun b hb => ⟨Nat.le_trans hl hb.1.1, hb.1.2, hb.2, by have := hb.1.1; omega⟩)

/-- What stands while the first tree is drawn anew. -/
structure PutL (w wr : World) (r lo vb p : Nat) (c0 c1 c2 c3 c4 : Value) (t : Tr 10) : Prop where
  var : Blk5 wr vb 26 c0 c1 c2 c3 c4
  r1 : Blk5 wr w.heap.size 26 (.int .i64 0) (.int .i64 0) (.string { data := #[] }) (.slice none 0 0) (.slice none 0 0)
  r2 : Blk5 wr (w.heap.size + 1) 26 (.int .i64 0) (.int .i64 0) (.string { data := #[] }) (.slice none 0 0) (.slice none 0 0)
  rd : Rd wr r p
  val : ValAt (FreshZ lo vb wr) wr 10 t (.agg #[c0, c1, c2, c3, c4])
  wt : wtT 10 t ≤ 360
  bel : Below w.heap.size w wr
  hr : w.heap.size + 1 < r
  hlo : r < lo
  hvb : lo ≤ vb

theorem PutL.but {w wr wX : World} {r lo vb p p' : Nat} {c0 c1 c2 c3 c4 : Value} {t : Tr 10} (h : PutL w wr r lo vb p c0 c1 c2 c3 c4 t) (hb : But r wr wX) (hR : Rd wX r p') : PutL w wX r lo vb p' c0 c1 c2 c3 c4 t :=
  ⟨h.var.butr hb (by have := h.hlo; have := h.hvb; omega), h.r1.butr hb (by have := h.hr; omega), h.r2.butr hb (by have := h.hr; omega), hR, FreshZ.but h.val hb h.hlo, h.wt, but_below h.bel hb (by have := h.hr; omega) h.bel.size, h.hr, h.hlo, h.hvb⟩

/-- Another tree in the variable. -/
theorem PutL.next {w wr wX wF : World} {r lo vb p p' : Nat} {c0 c1 c2 c3 c4 u0 u1 u2 u3 u4 : Value} {t t' : Tr 10} (h : PutL w wr r lo vb p c0 c1 c2 c3 c4 t) (hb : But r wr wX) (hR : Rd wX r p') (hv : ValAt (FreshP wr wX) wX 10 t' (.agg #[u0, u1, u2, u3, u4])) (hw : wtT 10 t' ≤ 360)
    (hF : wF = set5 wX vb 0 u0 u1 u2 u3 u4) : PutL w wF r lo vb p' u0 u1 u2 u3 u4 t' := by
  have h' := h.but hb hR
  have h1 := h.hr
  have h2 := h.hlo
  have h3 := h.hvb
  have hs : ∀ b, b ≠ vb → wF.heap[b]? = wX.heap[b]? := fun b hb' => by rw [hF]; exact set5_block _ _ _ _ _ _ _ _ _ hb'
  have hz : wF.heap.size = wX.heap.size := by rw [hF]; exact set5_size _ _ _ _ _ _ _ _
  have hl : Below w.heap.size w wF := by rw [hF]; exact below_set5 h'.bel (by omega) _ _ _ _ _ _
  have hl2 : Below vb wX wF := by rw [hF]; exact below_set5 (Below.refl _ _) (Nat.le_refl _) _ _ _ _ _ _
  have ht : Turn (fun b => b = vb) wX wF := ⟨hl2.os, hl2.tape, hl2.output, hl2.size, fun b _ hn => hs b hn⟩
  refine ⟨?_, h'.r1.of_block (hs _ (by omega)), h'.r2.of_block (hs _ (by omega)), ?_, FreshZ.turn (FreshZ.new hv (Nat.le_trans h3 (Nat.le_of_lt h.var.lt)) h.var.lt) ht, hw, hl, h1, h2, h3⟩
  · rw [hF]; exact blk_set5 h'.var _ _ _ _ _
  · obtain ⟨a, n, cap, e1, e2, e3⟩ := hR
    exact ⟨a, n, cap, (hs r (by omega)).trans e1, e2, e3.moved (fun b hb' => hs b (by omega))⟩

/-- The places that are drawn for what is set. -/
def drawSets : List Int := [0, 1, 2, -1, -2, 5, 60, -9, 59]

end Go.Proofs.YtohdpgclokgohaaGreatDoor
