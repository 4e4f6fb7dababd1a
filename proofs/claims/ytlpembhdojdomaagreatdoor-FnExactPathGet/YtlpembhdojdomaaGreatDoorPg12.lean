/- Texts of the proof, put together by program: WAssert, WGiven, WLenA, WLenB, WMarkP, WWt. -/
import Derived.Test.YtlpembhdojdomaaGreatDoorPg1
import Derived.Test.YtlpembhdojdomaaGreatDoorRows
import Derived.Test.YtlpembhdojdomaaGreatDoorPg11
import Derived.Test.YtlpembhdojdomaaGreatDoorPg4
import Derived.Test.YtlpembhdojdomaaGreatDoorPg7
/- The program's own trees, asked for their kind: closed facts of the model. -/
namespace Go.Proofs.YtlpembhdojdomaaGreatDoor
open Go.RowKit

theorem Tryz.asB_B (v : Value) (w : World) : (Instr.typeAssert (.iface 116 v) 59 116 true).run Tryz.prog w = .ok (.tuple #[v, .bool true]) w := by kernel_rfl
theorem Tryz.asB_N (v : Value) (w : World) : (Instr.typeAssert (.iface 104 v) 59 116 true).run Tryz.prog w = .ok (.tuple #[.agg #[.int .i64 0], .bool false]) w := by kernel_rfl
theorem Tryz.asB_S (v : Value) (w : World) : (Instr.typeAssert (.iface 107 v) 59 116 true).run Tryz.prog w = .ok (.tuple #[.agg #[.int .i64 0], .bool false]) w := by kernel_rfl
theorem Tryz.asB_R (v : Value) (w : World) : (Instr.typeAssert (.iface 110 v) 59 116 true).run Tryz.prog w = .ok (.tuple #[.agg #[.int .i64 0], .bool false]) w := by kernel_rfl
theorem Tryz.asB_M (v : Value) (w : World) : (Instr.typeAssert (.iface 74 v) 59 116 true).run Tryz.prog w = .ok (.tuple #[.agg #[.int .i64 0], .bool false]) w := by kernel_rfl
theorem Tryz.asN_B (v : Value) (w : World) : (Instr.typeAssert (.iface 116 v) 59 104 true).run Tryz.prog w = .ok (.tuple #[.agg #[.int .i64 0], .bool false]) w := by kernel_rfl
theorem Tryz.asN_N (v : Value) (w : World) : (Instr.typeAssert (.iface 104 v) 59 104 true).run Tryz.prog w = .ok (.tuple #[v, .bool true]) w := by kernel_rfl
theorem Tryz.asN_S (v : Value) (w : World) : (Instr.typeAssert (.iface 107 v) 59 104 true).run Tryz.prog w = .ok (.tuple #[.agg #[.int .i64 0], .bool false]) w := by kernel_rfl
theorem Tryz.asN_R (v : Value) (w : World) : (Instr.typeAssert (.iface 110 v) 59 104 true).run Tryz.prog w = .ok (.tuple #[.agg #[.int .i64 0], .bool false]) w := by kernel_rfl
theorem Tryz.asN_M (v : Value) (w : World) : (Instr.typeAssert (.iface 74 v) 59 104 true).run Tryz.prog w = .ok (.tuple #[.agg #[.int .i64 0], .bool false]) w := by kernel_rfl
theorem Tryz.asS_B (v : Value) (w : World) : (Instr.typeAssert (.iface 116 v) 59 107 true).run Tryz.prog w = .ok (.tuple #[.agg #[.string ByteArray.empty], .bool false]) w := by kernel_rfl
theorem Tryz.asS_N (v : Value) (w : World) : (Instr.typeAssert (.iface 104 v) 59 107 true).run Tryz.prog w = .ok (.tuple #[.agg #[.string ByteArray.empty], .bool false]) w := by kernel_rfl
theorem Tryz.asS_S (v : Value) (w : World) : (Instr.typeAssert (.iface 107 v) 59 107 true).run Tryz.prog w = .ok (.tuple #[v, .bool true]) w := by kernel_rfl
theorem Tryz.asS_R (v : Value) (w : World) : (Instr.typeAssert (.iface 110 v) 59 107 true).run Tryz.prog w = .ok (.tuple #[.agg #[.string ByteArray.empty], .bool false]) w := by kernel_rfl
theorem Tryz.asS_M (v : Value) (w : World) : (Instr.typeAssert (.iface 74 v) 59 107 true).run Tryz.prog w = .ok (.tuple #[.agg #[.string ByteArray.empty], .bool false]) w := by kernel_rfl
theorem Tryz.asR_B (v : Value) (w : World) : (Instr.typeAssert (.iface 116 v) 59 110 true).run Tryz.prog w = .ok (.tuple #[.agg #[.slice none 0 0], .bool false]) w := by kernel_rfl
theorem Tryz.asR_N (v : Value) (w : World) : (Instr.typeAssert (.iface 104 v) 59 110 true).run Tryz.prog w = .ok (.tuple #[.agg #[.slice none 0 0], .bool false]) w := by kernel_rfl
theorem Tryz.asR_S (v : Value) (w : World) : (Instr.typeAssert (.iface 107 v) 59 110 true).run Tryz.prog w = .ok (.tuple #[.agg #[.slice none 0 0], .bool false]) w := by kernel_rfl
theorem Tryz.asR_R (v : Value) (w : World) : (Instr.typeAssert (.iface 110 v) 59 110 true).run Tryz.prog w = .ok (.tuple #[v, .bool true]) w := by kernel_rfl
theorem Tryz.asR_M (v : Value) (w : World) : (Instr.typeAssert (.iface 74 v) 59 110 true).run Tryz.prog w = .ok (.tuple #[.agg #[.slice none 0 0], .bool false]) w := by kernel_rfl
theorem Tryz.asM_B (v : Value) (w : World) : (Instr.typeAssert (.iface 116 v) 59 74 true).run Tryz.prog w = .ok (.tuple #[.agg #[.map none], .bool false]) w := by kernel_rfl
theorem Tryz.asM_N (v : Value) (w : World) : (Instr.typeAssert (.iface 104 v) 59 74 true).run Tryz.prog w = .ok (.tuple #[.agg #[.map none], .bool false]) w := by kernel_rfl
theorem Tryz.asM_S (v : Value) (w : World) : (Instr.typeAssert (.iface 107 v) 59 74 true).run Tryz.prog w = .ok (.tuple #[.agg #[.map none], .bool false]) w := by kernel_rfl
theorem Tryz.asM_R (v : Value) (w : World) : (Instr.typeAssert (.iface 110 v) 59 74 true).run Tryz.prog w = .ok (.tuple #[.agg #[.map none], .bool false]) w := by kernel_rfl
theorem Tryz.asM_M (v : Value) (w : World) : (Instr.typeAssert (.iface 74 v) 59 74 true).run Tryz.prog w = .ok (.tuple #[v, .bool true]) w := by kernel_rfl
end Go.Proofs.YtlpembhdojdomaaGreatDoor

/- given: the tree of a value, or a fault. -/
namespace Go.Proofs.YtlpembhdojdomaaGreatDoor
open Go.RowKit Go.Deep

/-- Why something can not be done. -/
def faultV (why : ByteArray) : Value := .iface 98 (.agg #[.string why])

/-- A tree, or why there is none. -/
def TreeQ2 (d : Nat) (t : Tr d) (ok : Bool) (w : World) (e : Ending) (w' : World) : Prop :=
  Below w.heap.size w w' ∧ ((ok = true ∧ ∃ u, e = .returned (.tuple #[u, .nilIface]) ∧ TreeG (Fresh w w') w' d t u) ∨ (ok = false ∧ ∃ why, e = .returned (.tuple #[.nilIface, faultV why])))

theorem okT_form {d : Nat} {t : Tr d} (h : okT d t = true) : formT d t 6 = true ∧ manyT d t 6 ≤ 60 := by
  unfold okT at h
  simpa using h

set_option maxRecDepth 100000 in
set_option maxHeartbeats 1000000 in
theorem given_any (d : Nat) (S : Nat → Prop) (t : Tr d) (v : Value) (w : World) (hv : ValAt S w d t v) (hS : Within S w) :
    Calls Tryz.prog 35 #[v] w (TreeQ2 d t (okT d t) w) := by
  obtain ⟨k, n, s, ak, lk, ck, al, ll, cl, rfl⟩ := hv.shape
  have hA := below_alloc1 w (.cells #[.int .i64 k, .int .i64 n, .string s, .slice ak lk ck, .slice al ll cl] 29)
  go_enter Tryz.func35, Tryz.ntmps35
  go_wp2_with fail
  refine (treeOf_any d S t _ _ (hv.same (hS.same hA)) (hS.later hA.size)).mono ?_
  rintro e w1 ⟨u, rfl, hu, hb1⟩
  rw [treeP_okT] at hu ⊢
  have HB := hide (below_trans hA hb1)
  have hsz := hA.size
  cases hf : okT d t with
  | false =>
    clear hu hb1 hA hv
    go_wp2_with fail
    go_ret2
    exact ⟨HB.out, Or.inr ⟨hf, _, rfl⟩⟩
  | true =>
    have hG : TreeG (Fresh w w1) w1 d t u := (treeG_of d t 6 u (okT_form hf).1 (okT_form hf).2 (hu hf)).mono (fun b hb => ⟨by have := hb.1; omega, hb.2⟩)
    obtain ⟨T, u', rfl⟩ := hG.iface
    have HG := hide hG
    clear hu hb1 hA hv hG
    go_wp2_with fail
    go_ret2
    exact ⟨HB.out, Or.inl ⟨hf, _, rfl, HG.out⟩⟩

end Go.Proofs.YtlpembhdojdomaaGreatDoor

/- Numbers as trees; what a tree that is ok can be; what is told, in the result's own cells. -/
namespace Go.Proofs.YtlpembhdojdomaaGreatDoor
open Go.RowKit Go.Deep

/-- A number as a tree. -/
def numT (d : Nat) (n : Int) : Tr (d + 1) := (Nd.mk 3 n ByteArray.empty [] [] : Nd (Tr d))
theorem okT_num (d : Nat) (n : Int) (h : -1000000 ≤ n ∧ n ≤ 1000000) : okT (d + 1) (numT d n) = true := by
  have hb : headBad 3 n ByteArray.empty ([] : List ByteArray).length ([] : List (Tr d)).length 6 = false := headBad_iff.2 ⟨by omega, fun h => absurd rfl h, fun _ => empty_toList, fun _ => rfl, fun _ => rfl⟩
  have h1 : formT (d + 1) (numT d n) 6 = true := by
    show formT (d + 1) (Nd.mk 3 n ByteArray.empty [] [] : Nd (Tr d)) 6 = true
    rw [formT_good hb]
    simp [h]
  have h2 : manyT (d + 1) (numT d n) 6 = 1 := rfl
  simp only [okT, h1, h2]
  rfl

/-- What a tree that is ok can be. -/
theorem okT_kinds {d : Nat} {t : Tr (d + 1)} (h : okT (d + 1) t = true) :
    (Nd.kind t = 0 ∨ Nd.kind t = 1 ∨ Nd.kind t = 2 ∨ (Nd.kind t = 3 ∧ -1000000 ≤ Nd.num t ∧ Nd.num t ≤ 1000000) ∨ (Nd.kind t = 4 ∧ (Nd.str t).size ≤ 12) ∨ Nd.kind t = 5 ∨ Nd.kind t = 6) ∧ (Nd.list t).length ≤ 60 ∧ (Nd.kind t ≠ 3 → Nd.num t = 0) := by
  obtain ⟨hf, hm⟩ := okT_form h
  obtain ⟨kind, num, str, keys, list⟩ := t
  cases hb : headBad kind num str keys.length list.length 6 with
  | true => rw [formT_bad hb] at hf; cases hf
  | false =>
    rw [formT_good hb] at hf
    obtain ⟨_, g1, _, _, _⟩ := headBad_iff.1 hb
    have hmany : manyT (d + 1) (Nd.mk kind num str keys list) 6 = 1 + (if (0 : Int) < 6 then (list.map (fun x => manyT d x (6 - 1))).sum else 0) := rfl
    rw [hmany, if_pos (by omega)] at hm
    have hll := len_le_many (d := d) (deep := 6 - 1) list
    refine ⟨?_, by show list.length ≤ 60; omega, g1⟩
    show kind = 0 ∨ kind = 1 ∨ kind = 2 ∨ (kind = 3 ∧ -1000000 ≤ num ∧ num ≤ 1000000) ∨ (kind = 4 ∧ str.size ≤ 12) ∨ kind = 5 ∨ kind = 6
    by_cases k0 : kind = 0 ∨ kind = 1 ∨ kind = 2
    · omega
    rw [if_neg k0] at hf
    by_cases k3 : kind = 3
    · rw [if_pos k3, decide_eq_true_eq] at hf
      omega
    rw [if_neg k3] at hf
    by_cases k4 : kind = 4
    · rw [if_pos k4] at hf
      have := strOk_size hf
      omega
    rw [if_neg k4] at hf
    by_cases k6 : kind = 6
    · omega
    rw [if_neg k6] at hf
    by_cases k5 : kind = 5
    · omega
    rw [if_neg k5] at hf
    cases hf

theorem numTree_at (d : Nat) (n : Int) (hn : I64 n) (S : Nat → Prop) (w : World) : TreeG S w (d + 1) (numT d n) (.iface 104 (.agg #[.int .i64 n])) := Or.inr (Or.inl ⟨n, hn, rfl, rfl⟩)

/-- What was told is put into the result's own cells. -/
theorem tell_end {d : Nat} {t : Tr (d + 1)} {w w1 w2 : World} {v0 v1 : Int} {v2 : ByteArray} {v3 v6 : Option Addr} {v4 v5 v7 v8 rb : Nat} (hv : ValOwn w2 (d + 1) (Fresh w1 w2) t (.agg #[.int .i64 v0, .int .i64 v1, .string v2, .slice v3 v4 v5, .slice v6 v7 v8])) (hb : Below w.heap.size w w2)
    (hr : w.heap.size ≤ rb) (hr1 : rb < w1.heap.size) :
    ∀ wF, wF = set5 w2 rb 0 (.int .i64 v0) (.int .i64 v1) (.string v2) (.slice v3 v4 v5) (.slice v6 v7 v8) → ValOwn wF (d + 1) (Fresh w wF) t (.agg #[.int .i64 v0, .int .i64 v1, .string v2, .slice v3 v4 v5, .slice v6 v7 v8]) ∧ Below w.heap.size w wF := by
  intro wF hF
  have hzF : wF.heap.size = w2.heap.size := by rw [hF, set5_size]
  refine ⟨ValOwn.moved (d + 1) (Fresh w1 w2) _ t _ hv (fun b hb => ?_) (fun b hb => ⟨by have := hb.1; omega, by have := hb.2; omega⟩), ?_⟩
  · rw [hF, set5_block _ _ _ _ _ _ _ _ _ (by have := hb.1; omega)]
  · rw [hF]
    exact below_set5 hb hr _ _ _ _ _ _

end Go.Proofs.YtlpembhdojdomaaGreatDoor

/- What is asked of the model; numbers of the model. -/
namespace Go.Proofs.YtlpembhdojdomaaGreatDoor
open Go.RowKit Go.Deep

/-- What is asked of a function of the model that tells a tree and whether it can. -/
def SpecQ (d : Nat) (t : Tr (d + 1)) (ok : Bool) (w : World) (e : Ending) (w' : World) : Prop :=
  ∃ v, e = .returned (.tuple #[v, .bool ok]) ∧ ValAt (Fresh w w') w' (d + 1) t v ∧ Below w.heap.size w w'

theorem numAt (d : Nat) (n : Int) (hn : I64 n) (S : Nat → Prop) (w : World) : ValAt S w (d + 1) (numT d n) (.agg #[.int .i64 3, .int .i64 n, .string ByteArray.empty, .slice none 0 0, .slice none 0 0]) :=
  ValOwn.at _ _ _ _ (valOwn_leaf d 3 n ByteArray.empty w S ⟨by omega, by omega⟩ hn (by decide))
theorem zeroAt (d : Nat) (S : Nat → Prop) (w : World) : ValAt S w (d + 1) (zeroT d) zeroVal := ValOwn.at _ _ _ _ (zeroVal_own d w S)

end Go.Proofs.YtlpembhdojdomaaGreatDoor

/- Marks, as plain functions of lists and trees. -/
namespace Go.Proofs.YtlpembhdojdomaaGreatDoor

/-- The last digit of a number. -/
def dg (k : Nat) : UInt8 := (48 + k % 10).toUInt8
theorem dg_nat (k : Nat) : (dg k).toNat = 48 + k % 10 := by
  simp only [dg, Nat.toUInt8, UInt8.toNat_ofNat']
  omega
/-- The digits of a number ahead of a text. -/
def mtGo : Nat → Nat → ByteArray → ByteArray
  | 0, _, out => out
  | f + 1, k, out => if k = 0 then out else mtGo f (k / 10) (ByteArray.mk #[dg k] ++ out)
/-- The text of a mark. -/
def mt (k : Nat) : ByteArray := ByteArray.mk #[109] ++ mtGo (k + 1) k ByteArray.empty

theorem mtGo_size : ∀ (f k : Nat) (out : ByteArray), (mtGo f k out).size ≤ f + out.size
  | 0, _, out => by simp [mtGo]
  | f + 1, k, out => by
    rw [mtGo]
    split
    · omega
    · have := mtGo_size f (k / 10) (ByteArray.mk #[dg k] ++ out)
      rw [ByteArray.size_append] at this
      have h1 : (ByteArray.mk #[dg k]).size = 1 := rfl
      omega
theorem mt_size (k : Nat) : (mt k).size ≤ k + 2 := by
  have := mtGo_size (k + 1) k ByteArray.empty
  rw [mt, ByteArray.size_append]
  have h1 : (ByteArray.mk #[109]).size = 1 := rfl
  have h2 : ByteArray.empty.size = 0 := rfl
  omega
/-- Enough fuel is enough. -/
theorem mtGo_fuel : ∀ (f g k : Nat) (out : ByteArray), k < f → k < g → mtGo f k out = mtGo g k out
  | 0, _, k, _, h, _ => by omega
  | _ + 1, 0, k, _, _, h => by omega
  | f + 1, g + 1, k, out, h1, h2 => by
    rw [mtGo, mtGo]
    by_cases e : k = 0
    · rw [if_pos e, if_pos e]
    · rw [if_neg e, if_neg e]
      have := Nat.div_lt_self (Nat.pos_of_ne_zero e) (show 1 < 10 by omega)
      exact mtGo_fuel f g (k / 10) _ (by omega) (by omega)
theorem mtGo_step {f k : Nat} (out : ByteArray) (h : k < f) (h0 : 0 < k) : mtGo f k out = mtGo f (k / 10) (ByteArray.mk #[dg k] ++ out) := by
  cases f with
  | zero => omega
  | succ f =>
    have hd := Nat.div_lt_self h0 (show 1 < 10 by omega)
    conv => lhs; rw [mtGo, if_neg (by omega)]
    exact mtGo_fuel f (f + 1) (k / 10) _ (by omega) (by omega)

/-- Texts with marks in their places. -/
def markStrs : List ByteArray → Nat → List ByteArray
  | [], _ => []
  | _ :: r, k => mt k :: markStrs r (k + 1)
theorem markStrs_length : ∀ (ss : List ByteArray) (k : Nat), (markStrs ss k).length = ss.length
  | [], _ => rfl
  | _ :: r, k => by simp [markStrs, markStrs_length r (k + 1)]
theorem markStrs_get : ∀ (ss : List ByteArray) (k i : Nat) (s : ByteArray), (markStrs ss k)[i]? = some s → s = mt (k + i)
  | [], _, i, s, h => by simp [markStrs] at h
  | _ :: r, k, 0, s, h => by simp [markStrs] at h; rw [← h]; rfl
  | _ :: r, k, i + 1, s, h => by
    rw [markStrs, List.getElem?_cons_succ] at h
    rw [markStrs_get r (k + 1) i s h]
    congr 1
    omega

/-- Things with marks in their places, one behind the other. -/
def markL {α : Type} (f : α → Nat → α × Nat) : List α → Nat → List α × Nat
  | [], k => ([], k)
  | x :: r, k => ((f x k).1 :: (markL f r (f x k).2).1, (markL f r (f x k).2).2)
/-- A part with marks in all its places. -/
def markT : (d : Nat) → Tr d → Nat → Tr d × Nat
  | 0, t, k => (t, k)
  | d + 1, t, k => ((Nd.mk (k : Int) ((k : Int) + 1) (mt (k + 2)) (markStrs (Nd.keys t) (k + 3)) (markL (markT d) (Nd.list t) (k + 3 + (Nd.keys t).length)).1 : Nd (Tr d)),
      (markL (markT d) (Nd.list t) (k + 3 + (Nd.keys t).length)).2)
/-- A tree with marks in all places of its lists. -/
def markTop (d : Nat) (t : Tr (d + 1)) (k : Nat) : Tr (d + 1) × Nat :=
  ((Nd.mk (Nd.kind t) (Nd.num t) (Nd.str t) (markStrs (Nd.keys t) k) (markL (markT d) (Nd.list t) (k + (Nd.keys t).length)).1 : Nd (Tr d)), (markL (markT d) (Nd.list t) (k + (Nd.keys t).length)).2)

theorem markL_length {α : Type} (f : α → Nat → α × Nat) : ∀ (xs : List α) (k : Nat), (markL f xs k).1.length = xs.length
  | [], _ => rfl
  | x :: r, k => by simp [markL, markL_length f r]
/-- How far the marks of the first things go. -/
def markTo {α : Type} (f : α → Nat → α × Nat) (xs : List α) (k i : Nat) : Nat := (markL f (xs.take i) k).2
theorem markTo_zero {α : Type} (f : α → Nat → α × Nat) (xs : List α) (k : Nat) : markTo f xs k 0 = k := by simp [markTo, markL]
theorem markTo_step {α : Type} (f : α → Nat → α × Nat) : ∀ (xs : List α) (k i : Nat) (x : α), xs[i]? = some x → markTo f xs k (i + 1) = (f x (markTo f xs k i)).2
  | [], _, i, x, h => by simp at h
  | y :: r, k, 0, x, h => by simp at h; subst h; simp [markTo, markL]
  | y :: r, k, i + 1, x, h => by
    rw [List.getElem?_cons_succ] at h
    have := markTo_step f r (f y k).2 i x h
    simpa [markTo, markL] using this
theorem markTo_all {α : Type} (f : α → Nat → α × Nat) (xs : List α) (k : Nat) : markTo f xs k xs.length = (markL f xs k).2 := by simp [markTo]
theorem markL_get {α : Type} (f : α → Nat → α × Nat) : ∀ (xs : List α) (k i : Nat) (x : α), xs[i]? = some x → (markL f xs k).1[i]? = some (f x (markTo f xs k i)).1
  | [], _, i, x, h => by simp at h
  | y :: r, k, 0, x, h => by simp at h; subst h; simp [markTo, markL]
  | y :: r, k, i + 1, x, h => by
    rw [List.getElem?_cons_succ] at h
    have := markL_get f r (f y k).2 i x h
    simpa [markTo, markL] using this

/-- How many marks a part takes. -/
def wtT : (d : Nat) → Tr d → Nat
  | 0, _ => 0
  | d + 1, t => 3 + (Nd.keys t).length + ((Nd.list t).map (wtT d)).sum
theorem markL_to {α : Type} {f : α → Nat → α × Nat} {g : α → Nat} (h : ∀ x k, (f x k).2 = k + g x) : ∀ (xs : List α) (k : Nat), (markL f xs k).2 = k + (xs.map g).sum
  | [], k => by simp [markL]
  | x :: r, k => by
    rw [markL, List.map_cons, List.sum_cons]
    show (markL f r (f x k).2).2 = _
    rw [markL_to h r, h]
    omega
theorem markT_to : ∀ (d : Nat) (t : Tr d) (k : Nat), (markT d t k).2 = k + wtT d t
  | 0, _, _ => rfl
  | d + 1, t, k => by
    show (markL (markT d) (Nd.list t) (k + 3 + (Nd.keys t).length)).2 = _
    rw [markL_to (markT_to d), wtT]
    omega
theorem markTo_le {d : Nat} (xs : List (Tr d)) (k i : Nat) : k ≤ markTo (markT d) xs k i ∧ markTo (markT d) xs k i ≤ k + (xs.map (wtT d)).sum := by
  unfold markTo
  rw [markL_to (markT_to d)]
  have : ((xs.take i).map (wtT d)).sum ≤ (xs.map (wtT d)).sum := by
    conv => rhs; rw [← List.take_append_drop i xs, List.map_append, List.sum_append]
    omega
  omega
end Go.Proofs.YtlpembhdojdomaaGreatDoor

/- How many marks a tree takes: bounds. -/
namespace Go.Proofs.YtlpembhdojdomaaGreatDoor

theorem szStrs_cnt (ss : List ByteArray) (left : Int) (h : 0 ≤ szStrs ss left) : (ss.length : Int) ≤ left - szStrs ss left := by
  rw [szStrs] at h ⊢
  split at h
  · omega
  rename_i n1
  rw [if_neg n1]
  have := szStrsGo_le ss (left - ss.length) (by omega)
  omega
theorem szLGo_wt {d : Nat} (ih : ∀ (t : Tr d) (left : Int), 0 ≤ left → 0 ≤ szT d t left → (wtT d t : Int) ≤ 3 + 3 * (left - szT d t left)) :
    ∀ (xs : List (Tr d)) (left : Int), 0 ≤ left → 0 ≤ szLGo (szT d) xs left → (((xs.map (wtT d)).sum : Nat) : Int) ≤ 3 * xs.length + 3 * (left - szLGo (szT d) xs left)
  | [], left, h0, h => by simp [szLGo]
  | x :: r, left, h0, h => by
    rw [szLGo] at h ⊢
    split at h
    · omega
    rename_i n1
    rw [if_neg n1]
    have h1 := ih x left h0 (by omega)
    have h2 := szLGo_wt ih r (szT d x left) (by omega) h
    simp only [List.map_cons, List.sum_cons, List.length_cons]
    omega
theorem szT_wt : ∀ (d : Nat) (t : Tr d) (left : Int), 0 ≤ left → 0 ≤ szT d t left → (wtT d t : Int) ≤ 3 + 3 * (left - szT d t left)
  | 0, _, left, h0, h => by simp [szT] at h
  | d + 1, t, left, h0, h => by
    rw [szT] at h ⊢
    split at h
    · omega
    rename_i n1
    split at h
    · omega
    rename_i n2
    split at h
    · omega
    rename_i n3
    rw [if_neg n1, if_neg n2, if_neg n3]
    have e1 := szStrs_cnt (Nd.keys t) (left - (Nd.str t).size) (by omega)
    rw [wtT]
    generalize szStrs (Nd.keys t) (left - (Nd.str t).size) = l2 at *
    rw [szL] at n3 ⊢
    split at n3
    · omega
    rename_i n4
    rw [if_neg n4]
    have e2 := szLGo_wt (szT_wt d) (Nd.list t) (l2 - (Nd.list t).length) (by omega) (by omega)
    omega

theorem wt_sum {d : Nat} {deep : Int} (ih : ∀ (t : Tr d), formT d t deep = true → wtT d t + 2 ≤ 5 * manyT d t deep) : ∀ (xs : List (Tr d)), xs.all (fun x => formT d x deep) = true → (xs.map (wtT d)).sum + 2 * xs.length ≤ 5 * (xs.map (fun x => manyT d x deep)).sum
  | [], _ => by simp
  | x :: r, h => by
    simp only [List.all_cons, Bool.and_eq_true] at h
    have h1 := ih x h.1
    have h2 := wt_sum ih r h.2
    simp only [List.map_cons, List.sum_cons, List.length_cons]
    omega
theorem wtT_form : ∀ (d : Nat) (t : Tr d) (deep : Int), formT d t deep = true → wtT d t + 2 ≤ 5 * manyT d t deep
  | 0, _, _, h => by simp [formT] at h
  | d + 1, t, deep, hf => by
    obtain ⟨kind, num, str, keys, list⟩ := t
    cases hb : headBad kind num str keys.length list.length deep with
    | true => rw [formT_bad hb] at hf; cases hf
    | false =>
    rw [formT_good hb] at hf
    obtain ⟨g0, g1, g2, g3, g4⟩ := headBad_iff.1 hb
    have hmany : manyT (d + 1) (Nd.mk kind num str keys list) deep = 1 + (if 0 < deep then (list.map (fun x => manyT d x (deep - 1))).sum else 0) := rfl
    have hwt : wtT (d + 1) (Nd.mk kind num str keys list) = 3 + keys.length + (list.map (wtT d)).sum := rfl
    rw [hmany, if_pos (by omega), hwt]
    by_cases k5 : kind < 5
    · obtain rfl := List.eq_nil_of_length_eq_zero (g4 k5)
      have := g3 (by omega)
      simp
      omega
    rw [if_neg (by omega), if_neg (by omega), if_neg (by omega)] at hf
    by_cases k6 : kind = 6
    · rw [if_pos k6] at hf
      simp only [Bool.and_eq_true] at hf
      have hl := beq_iff_eq.1 hf.1.1
      have := wt_sum (deep := deep - 1) (fun t h => wtT_form d t (deep - 1) h) list hf.2
      omega
    rw [if_neg k6] at hf
    by_cases k5' : kind = 5
    · rw [if_pos k5'] at hf
      have := g3 (by omega)
      have := wt_sum (deep := deep - 1) (fun t h => wtT_form d t (deep - 1) h) list hf
      omega
    · rw [if_neg k5'] at hf
      cases hf
theorem wtT_ok {d : Nat} {t : Tr d} (h : okT d t = true) : wtT d t ≤ 300 := by
  obtain ⟨h1, h2⟩ := okT_form h
  have := wtT_form d t 6 h1
  omega
theorem okT_zero (d : Nat) : okT (d + 1) (zeroT d) = true := by
  have hb : headBad 0 0 ByteArray.empty ([] : List ByteArray).length ([] : List (Tr d)).length 6 = false := headBad_iff.2 ⟨by omega, fun _ => rfl, fun _ => empty_toList, fun _ => rfl, fun _ => rfl⟩
  have h1 : formT (d + 1) (zeroT d) 6 = true := by
    show formT (d + 1) (Nd.mk 0 0 ByteArray.empty [] [] : Nd (Tr d)) 6 = true
    rw [formT_good hb]
    simp
  have h2 : manyT (d + 1) (zeroT d) 6 = 1 := rfl
  simp only [okT, h1, h2]
  rfl
theorem okT_told (d : Nat) (t : Tr (d + 1)) : okT (d + 1) (toldT d t) = true := by
  unfold toldT
  split
  · assumption
  · exact okT_zero d
end Go.Proofs.YtlpembhdojdomaaGreatDoor
