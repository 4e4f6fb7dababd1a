/- Texts of the proof, put together by program: WGiven, WLenA, WLenB, WAppS, WMarkP. -/
import Derived.Test.YtmkoeomkbbmoaaaGreatDoorP15
import Derived.Test.YtmkoeomkbbmoaaaGreatDoorP5
import Derived.Test.YtmkoeomkbbmoaaaGreatDoorP12
import Derived.Maps.AppendAt
import Derived.Test.YtmkoeomkbbmoaaaGreatDoorP10
/- given: the tree of a value, or a fault. -/
namespace Go.Proofs.YtmkoeomkbbmoaaaGreatDoor
open Go.RowKit Go.Deep

/-- Why something can not be done. -/
def faultV (why : ByteArray) : Value := .iface 70 (.agg #[.string why])

/-- A tree, or why there is none. -/
def TreeQ2 (d : Nat) (t : Tr d) (ok : Bool) (w : World) (e : Ending) (w' : World) : Prop :=
  Below w.heap.size w w' ∧ ((ok = true ∧ ∃ u, e = .returned (.tuple #[u, .nilIface]) ∧ TreeG (Fresh w w') w' d t u) ∨ (ok = false ∧ ∃ why, e = .returned (.tuple #[.nilIface, faultV why])))

theorem okT_form {d : Nat} {t : Tr d} (h : okT d t = true) : formT d t 6 = true ∧ manyT d t 6 ≤ 60 := by
  unfold okT at h
  simpa using h

set_option maxRecDepth 100000 in
set_option maxHeartbeats 1000000 in
theorem given_any (d : Nat) (S : Nat → Prop) (t : Tr d) (v : Value) (w : World) (hv : ValAt S w d t v) (hS : Within S w) :
    Calls Tryz.prog 30 #[v] w (TreeQ2 d t (okT d t) w) := by
  obtain ⟨k, n, s, ak, lk, ck, al, ll, cl, rfl⟩ := hv.shape
  have hA := below_alloc1 w (.cells #[.int .i64 k, .int .i64 n, .string s, .slice ak lk ck, .slice al ll cl] 29)
  go_enter Tryz.func30, Tryz.ntmps30
  go_wp2_with fail
  refine (treeOf_any d S t _ _ (hv.same (hS.same hA)) (hS.later hA.size)).mono ?_
  rintro e w1 ⟨u, rfl, hu, hb1⟩
  rw [treeP_okT] at hu ⊢
  have HB := hide (below_trans hA hb1)
  have hsz := hA.size
  cases hf : okT d t with
  | false =>
    clear hu hb1 hA hv
    go_wp2_with fail
    go_ret2
    exact ⟨HB.out, Or.inr ⟨hf, _, rfl⟩⟩
  | true =>
    have hG : TreeG (Fresh w w1) w1 d t u := (treeG_of d t 6 u (okT_form hf).1 (okT_form hf).2 (hu hf)).mono (fun b hb => ⟨by have := hb.1; omega, hb.2⟩)
    obtain ⟨T, u', rfl⟩ := hG.iface
    have HG := hide hG
    clear hu hb1 hA hv hG
    go_wp2_with fail
    go_ret2
    exact ⟨HB.out, Or.inl ⟨hf, _, rfl, HG.out⟩⟩

end Go.Proofs.YtmkoeomkbbmoaaaGreatDoor

/- Numbers as trees; what a tree that is ok can be; what is told, in the result's own cells. -/
namespace Go.Proofs.YtmkoeomkbbmoaaaGreatDoor
open Go.RowKit Go.Deep

/-- A number as a tree. -/
def numT (d : Nat) (n : Int) : Tr (d + 1) := (Nd.mk 3 n ByteArray.empty [] [] : Nd (Tr d))
theorem okT_num (d : Nat) (n : Int) (h : -1000000 ≤ n ∧ n ≤ 1000000) : okT (d + 1) (numT d n) = true := by
  have hb : headBad 3 n ByteArray.empty ([] : List ByteArray).length ([] : List (Tr d)).length 6 = false := headBad_iff.2 ⟨by omega, fun h => absurd rfl h, fun _ => empty_toList, fun _ => rfl, fun _ => rfl⟩
  have h1 : formT (d + 1) (numT d n) 6 = true := by
    show formT (d + 1) (Nd.mk 3 n ByteArray.empty [] [] : Nd (Tr d)) 6 = true
    rw [formT_good hb]
    simp [h]
  have h2 : manyT (d + 1) (numT d n) 6 = 1 := rfl
  simp only [okT, h1, h2]
  rfl

/-- What a tree that is ok can be. -/
theorem okT_kinds {d : Nat} {t : Tr (d + 1)} (h : okT (d + 1) t = true) :
    (Nd.kind t = 0 ∨ Nd.kind t = 1 ∨ Nd.kind t = 2 ∨ (Nd.kind t = 3 ∧ -1000000 ≤ Nd.num t ∧ Nd.num t ≤ 1000000) ∨ (Nd.kind t = 4 ∧ (Nd.str t).size ≤ 12) ∨ Nd.kind t = 5 ∨ Nd.kind t = 6) ∧ (Nd.list t).length ≤ 60 ∧ (Nd.kind t ≠ 3 → Nd.num t = 0) := by
  obtain ⟨hf, hm⟩ := okT_form h
  obtain ⟨kind, num, str, keys, list⟩ := t
  cases hb : headBad kind num str keys.length list.length 6 with
  | true => rw [formT_bad hb] at hf; cases hf
  | false =>
    rw [formT_good hb] at hf
    obtain ⟨_, g1, _, _, _⟩ := headBad_iff.1 hb
    have hmany : manyT (d + 1) (Nd.mk kind num str keys list) 6 = 1 + (if (0 : Int) < 6 then (list.map (fun x => manyT d x (6 - 1))).sum else 0) := rfl
    rw [hmany, if_pos (by omega)] at hm
    have hll := len_le_many (d := d) (deep := 6 - 1) list
    refine ⟨?_, by show list.length ≤ 60; omega, g1⟩
    show kind = 0 ∨ kind = 1 ∨ kind = 2 ∨ (kind = 3 ∧ -1000000 ≤ num ∧ num ≤ 1000000) ∨ (kind = 4 ∧ str.size ≤ 12) ∨ kind = 5 ∨ kind = 6
    by_cases k0 : kind = 0 ∨ kind = 1 ∨ kind = 2
    · omega
    rw [if_neg k0] at hf
    by_cases k3 : kind = 3
    · rw [if_pos k3, decide_eq_true_eq] at hf
      omega
    rw [if_neg k3] at hf
    by_cases k4 : kind = 4
    · rw [if_pos k4] at hf
      have := strOk_size hf
      omega
    rw [if_neg k4] at hf
    by_cases k6 : kind = 6
    · omega
    rw [if_neg k6] at hf
    by_cases k5 : kind = 5
    · omega
    rw [if_neg k5] at hf
    cases hf

theorem numTree_at (d : Nat) (n : Int) (hn : I64 n) (S : Nat → Prop) (w : World) : TreeG S w (d + 1) (numT d n) (.iface 129 (.agg #[.int .i64 n])) := Or.inr (Or.inl ⟨n, hn, rfl, rfl⟩)

/-- What was told is put into the result's own cells. -/
theorem tell_end {d : Nat} {t : Tr (d + 1)} {w w1 w2 : World} {v0 v1 : Int} {v2 : ByteArray} {v3 v6 : Option Addr} {v4 v5 v7 v8 rb : Nat} (hv : ValOwn w2 (d + 1) (Fresh w1 w2) t (.agg #[.int .i64 v0, .int .i64 v1, .string v2, .slice v3 v4 v5, .slice v6 v7 v8])) (hb : Below w.heap.size w w2)
    (hr : w.heap.size ≤ rb) (hr1 : rb < w1.heap.size) :
    ∀ wF, wF = set5 w2 rb 0 (.int .i64 v0) (.int .i64 v1) (.string v2) (.slice v3 v4 v5) (.slice v6 v7 v8) → ValOwn wF (d + 1) (Fresh w wF) t (.agg #[.int .i64 v0, .int .i64 v1, .string v2, .slice v3 v4 v5, .slice v6 v7 v8]) ∧ Below w.heap.size w wF := by
  intro wF hF
  have hzF : wF.heap.size = w2.heap.size := by rw [hF, set5_size]
  refine ⟨ValOwn.moved (d + 1) (Fresh w1 w2) _ t _ hv (fun b hb => ?_) (fun b hb => ⟨by have := hb.1; omega, by have := hb.2; omega⟩), ?_⟩
  · rw [hF, set5_block _ _ _ _ _ _ _ _ _ (by have := hb.1; omega)]
  · rw [hF]
    exact below_set5 hb hr _ _ _ _ _ _

end Go.Proofs.YtmkoeomkbbmoaaaGreatDoor

/- What is asked of the model; numbers of the model. -/
namespace Go.Proofs.YtmkoeomkbbmoaaaGreatDoor
open Go.RowKit Go.Deep

/-- What is asked of a function of the model that tells a tree and whether it can. -/
def SpecQ (d : Nat) (t : Tr (d + 1)) (ok : Bool) (w : World) (e : Ending) (w' : World) : Prop :=
  ∃ v, e = .returned (.tuple #[v, .bool ok]) ∧ ValAt (Fresh w w') w' (d + 1) t v ∧ Below w.heap.size w w'

theorem numAt (d : Nat) (n : Int) (hn : I64 n) (S : Nat → Prop) (w : World) : ValAt S w (d + 1) (numT d n) (.agg #[.int .i64 3, .int .i64 n, .string ByteArray.empty, .slice none 0 0, .slice none 0 0]) :=
  ValOwn.at _ _ _ _ (valOwn_leaf d 3 n ByteArray.empty w S ⟨by omega, by omega⟩ hn (by decide))
theorem zeroAt (d : Nat) (S : Nat → Prop) (w : World) : ValAt S w (d + 1) (zeroT d) zeroVal := ValOwn.at _ _ _ _ (zeroVal_own d w S)

end Go.Proofs.YtmkoeomkbbmoaaaGreatDoor

/- append of texts onto a row of nothing; of a run of append in a region that draws. -/
namespace Go.Proofs.YtmkoeomkbbmoaaaGreatDoor
open Go.RowKit Go.Deep

/-- What an append does, as one step of a region that draws. -/
theorem step_append_run {P : Program} {ops : Array Oper} {o : Oper} {a : Act} {w : World} {K : Act → World → Prop} {Q : Exit → Act → World → Prop} {E : Prop} (Φ : Value → World → Prop)
    (hg : o.guard = none) (s x : Operand) (t : TypeId) (hop : o.op = Op.call { callee := Callee.builtin Builtin.append, args := #[s, x], argTypes := #[t, t] }) (vs vx : Value) (hs : a.eval s = vs) (hx : a.eval x = vx)
    (hrun : ∃ v' w', (Builtin.append_ #[t, t] o.type #[vs, vx]).run P w = .ok v' w' ∧ Φ v' w') (hK : ∀ v' w', Φ v' w' → K (a.put o.dst v') w') :
    if Region.wanted o (yielded ops a.tmps) = true then Oper.wp P o a w K Q else E := by
  have hw : Region.wanted o (yielded ops a.tmps) = true := by simp [Region.wanted, hg]
  rw [if_pos hw]
  obtain ⟨v', w', hr, hφ⟩ := hrun
  unfold Oper.wp
  simp [execOp, hop, resolve, invoke, builtin, hs, hx, hr, Result.andThen]
  exact hK v' w' hφ

theorem Tryz.infoS2 : (Tryz.prog.info? 9).map (fun i => (i.zero, i.size, i.bytes)) = some (some (.string ByteArray.empty), 1, 16) := by kernel_rfl

/-- Texts, copied behind nothing. -/
theorem run_append_strs (S : Nat → Prop) (ss : List ByteArray) (ak : Option Addr) (ck g : Nat) (ty : TypeId) (w : World) (hg : w.heap[g]? = some (.cells #[] 9 (0, 0))) (hv : StrsAt S w (.slice ak ss.length ck) ss) (hsm : ss.length ≤ 4194304) :
    ∃ v' w', (Builtin.append_ #[22, 22] ty #[.slice (some ⟨g, 0, none⟩) 0 0, .slice ak ss.length ck]).run Tryz.prog w = .ok v' w' ∧
      (StrsOwn (fun b => b = g ∨ b = w.heap.size) w' v' ss ∧ w.grownBy w' (some g)) := by
  obtain ⟨i0, hi, hz0, hz1, hz2⟩ := info_parts Tryz.infoS2
  have hgl := (Array.getElem?_eq_some_iff.1 hg).1
  have hu : Tryz.prog.underlying 22 = some (.slice 9) := Tryz.underlying22
  by_cases h0 : ss = []
  · subst h0
    refine ⟨.slice (some ⟨g, 0, none⟩) 0 0, w, ?_, ⟨by simp, by simp, _, _, rfl, Or.inl rfl⟩, ⟨rfl, rfl, rfl, Nat.le_refl _, fun _ _ _ => rfl⟩⟩
    cases ak with
    | none => simp [Builtin.append_, run_underlying hu, sizeOf, typeInfo, hi, Builtin.lenOf, Builtin.firstCells, loadCells, loadCellsFrom, storeCells, Result.andThen]
    | some a => simp [Builtin.append_, run_underlying hu, sizeOf, typeInfo, hi, Builtin.lenOf, Builtin.firstCells, loadCells, loadCellsFrom, storeCells, Result.andThen]
  · have hpos : 0 < ss.length := List.length_pos_iff.2 h0
    obtain ⟨b, o, _, rfl, _⟩ := hv.cell hpos
    have hown : w.ownsRow g 9 1 (.slice (some ⟨g, 0, none⟩) 0 0) 0 [] := ⟨by simp, .inr ⟨g, 0, #[], rfl, Nat.le_refl _, hg, Nat.le_refl _, Nat.zero_le _, by simp, by simp⟩⟩
    have hnews : ∀ j u, (ss.map Value.string)[j]? = some u → w.cell? ((⟨b, o, none⟩ : Addr).add j) = some u := by
      intro j u hj
      rw [List.getElem?_map, Option.map_eq_some_iff] at hj
      obtain ⟨s, hs, rfl⟩ := hj
      have hjl := (List.getElem?_eq_some_iff.1 hs).1
      obtain ⟨b', o', s', e', _, hs', _, hc⟩ := hv.cell hjl
      cases e'
      rw [hs] at hs'
      cases hs'
      have hadd : (⟨b, o, none⟩ : Addr).add j = ⟨b, o + j, none⟩ := by unfold Addr.add; split <;> simp_all
      rw [hadd]
      exact hc
    obtain ⟨v', w', hr, ho, hgr, _, hat⟩ := run_append_own_at (P := Tryz.prog) w g 22 ty 9 i0 (.string ByteArray.empty) 1 16 hu hi hz0 hz1 hz2 rfl (by decide) _ 0 [] hown ⟨b, o, none⟩ ss.length ck (ss.map Value.string) (by simp) hnews
      (fun u hu => by obtain ⟨s, _, rfl⟩ := List.mem_map.1 hu; rfl) (by unfold maxLen; omega) (by omega) (by omega)
    rw [Nat.zero_add, List.nil_append] at ho
    refine ⟨v', w', hr, ?_, hgr⟩
    obtain ⟨_, h2, _⟩ := hv
    obtain ⟨q1, q2, a, cap, hv', hq⟩ := strsOwn_of_row ho rfl (by omega) h2
    refine ⟨q1, q2, a, cap, hv', ?_⟩
    rcases hq with hq | ⟨b', n', f', _, ha', hr'⟩
    · exact absurd hq h0
    · refine Or.inr ⟨b', n', f', ?_, ha', hr'⟩
      have hob : v'.ownBlock = some b' := by rw [hv', ha']; rfl
      rw [hob] at hat
      rcases hat with h | h
      · exact Or.inl (Option.some.inj h)
      · exact Or.inr (Option.some.inj h)
end Go.Proofs.YtmkoeomkbbmoaaaGreatDoor

/- Marks, as plain functions of lists and trees. -/
namespace Go.Proofs.YtmkoeomkbbmoaaaGreatDoor

/-- The last digit of a number. -/
def dg (k : Nat) : UInt8 := (48 + k % 10).toUInt8
theorem dg_nat (k : Nat) : (dg k).toNat = 48 + k % 10 := by
  simp only [dg, Nat.toUInt8, UInt8.toNat_ofNat']
  omega
/-- The digits of a number ahead of a text. -/
def mtGo : Nat → Nat → ByteArray → ByteArray
  | 0, _, out => out
  | f + 1, k, out => if k = 0 then out else mtGo f (k / 10) (ByteArray.mk #[dg k] ++ out)
/-- The text of a mark. -/
def mt (k : Nat) : ByteArray := ByteArray.mk #[109] ++ mtGo (k + 1) k ByteArray.empty

theorem mtGo_size : ∀ (f k : Nat) (out : ByteArray), (mtGo f k out).size ≤ f + out.size
  | 0, _, out => by simp [mtGo]
  | f + 1, k, out => by
    rw [mtGo]
    split
    · omega
    · have := mtGo_size f (k / 10) (ByteArray.mk #[dg k] ++ out)
      rw [ByteArray.size_append] at this
      have h1 : (ByteArray.mk #[dg k]).size = 1 := rfl
      omega
theorem mt_size (k : Nat) : (mt k).size ≤ k + 2 := by
  have := mtGo_size (k + 1) k ByteArray.empty
  rw [mt, ByteArray.size_append]
  have h1 : (ByteArray.mk #[109]).size = 1 := rfl
  have h2 : ByteArray.empty.size = 0 := rfl
  omega
/-- Enough fuel is enough. -/
theorem mtGo_fuel : ∀ (f g k : Nat) (out : ByteArray), k < f → k < g → mtGo f k out = mtGo g k out
  | 0, _, k, _, h, _ => by omega
  | _ + 1, 0, k, _, _, h => by omega
  | f + 1, g + 1, k, out, h1, h2 => by
    rw [mtGo, mtGo]
    by_cases e : k = 0
    · rw [if_pos e, if_pos e]
    · rw [if_neg e, if_neg e]
      have := Nat.div_lt_self (Nat.pos_of_ne_zero e) (show 1 < 10 by omega)
      exact mtGo_fuel f g (k / 10) _ (by omega) (by omega)
theorem mtGo_step {f k : Nat} (out : ByteArray) (h : k < f) (h0 : 0 < k) : mtGo f k out = mtGo f (k / 10) (ByteArray.mk #[dg k] ++ out) := by
  cases f with
  | zero => omega
  | succ f =>
    have hd := Nat.div_lt_self h0 (show 1 < 10 by omega)
    conv => lhs; rw [mtGo, if_neg (by omega)]
    exact mtGo_fuel f (f + 1) (k / 10) _ (by omega) (by omega)

/-- Texts with marks in their places. -/
def markStrs : List ByteArray → Nat → List ByteArray
  | [], _ => []
  | _ :: r, k => mt k :: markStrs r (k + 1)
theorem markStrs_length : ∀ (ss : List ByteArray) (k : Nat), (markStrs ss k).length = ss.length
  | [], _ => rfl
  | _ :: r, k => by simp [markStrs, markStrs_length r (k + 1)]
theorem markStrs_get : ∀ (ss : List ByteArray) (k i : Nat) (s : ByteArray), (markStrs ss k)[i]? = some s → s = mt (k + i)
  | [], _, i, s, h => by simp [markStrs] at h
  | _ :: r, k, 0, s, h => by simp [markStrs] at h; rw [← h]; rfl
  | _ :: r, k, i + 1, s, h => by
    rw [markStrs, List.getElem?_cons_succ] at h
    rw [markStrs_get r (k + 1) i s h]
    congr 1
    omega

/-- Things with marks in their places, one behind the other. -/
def markL {α : Type} (f : α → Nat → α × Nat) : List α → Nat → List α × Nat
  | [], k => ([], k)
  | x :: r, k => ((f x k).1 :: (markL f r (f x k).2).1, (markL f r (f x k).2).2)
/-- A part with marks in all its places. -/
def markT : (d : Nat) → Tr d → Nat → Tr d × Nat
  | 0, t, k => (t, k)
  | d + 1, t, k => ((Nd.mk (k : Int) ((k : Int) + 1) (mt (k + 2)) (markStrs (Nd.keys t) (k + 3)) (markL (markT d) (Nd.list t) (k + 3 + (Nd.keys t).length)).1 : Nd (Tr d)),
      (markL (markT d) (Nd.list t) (k + 3 + (Nd.keys t).length)).2)
/-- A tree with marks in all places of its lists. -/
def markTop (d : Nat) (t : Tr (d + 1)) (k : Nat) : Tr (d + 1) × Nat :=
  ((Nd.mk (Nd.kind t) (Nd.num t) (Nd.str t) (markStrs (Nd.keys t) k) (markL (markT d) (Nd.list t) (k + (Nd.keys t).length)).1 : Nd (Tr d)), (markL (markT d) (Nd.list t) (k + (Nd.keys t).length)).2)

theorem markL_length {α : Type} (f : α → Nat → α × Nat) : ∀ (xs : List α) (k : Nat), (markL f xs k).1.length = xs.length
  | [], _ => rfl
  | x :: r, k => by simp [markL, markL_length f r]
/-- How far the marks of the first things go. -/
def markTo {α : Type} (f : α → Nat → α × Nat) (xs : List α) (k i : Nat) : Nat := (markL f (xs.take i) k).2
theorem markTo_zero {α : Type} (f : α → Nat → α × Nat) (xs : List α) (k : Nat) : markTo f xs k 0 = k := by simp [markTo, markL]
theorem markTo_step {α : Type} (f : α → Nat → α × Nat) : ∀ (xs : List α) (k i : Nat) (x : α), xs[i]? = some x → markTo f xs k (i + 1) = (f x (markTo f xs k i)).2
  | [], _, i, x, h => by simp at h
  | y :: r, k, 0, x, h => by simp at h; subst h; simp [markTo, markL]
  | y :: r, k, i + 1, x, h => by
    rw [List.getElem?_cons_succ] at h
    have := markTo_step f r (f y k).2 i x h
    simpa [markTo, markL] using this
theorem markTo_all {α : Type} (f : α → Nat → α × Nat) (xs : List α) (k : Nat) : markTo f xs k xs.length = (markL f xs k).2 := by simp [markTo]
theorem markL_get {α : Type} (f : α → Nat → α × Nat) : ∀ (xs : List α) (k i : Nat) (x : α), xs[i]? = some x → (markL f xs k).1[i]? = some (f x (markTo f xs k i)).1
  | [], _, i, x, h => by simp at h
  | y :: r, k, 0, x, h => by simp at h; subst h; simp [markTo, markL]
  | y :: r, k, i + 1, x, h => by
    rw [List.getElem?_cons_succ] at h
    have := markL_get f r (f y k).2 i x h
    simpa [markTo, markL] using this

/-- How many marks a part takes. -/
def wtT : (d : Nat) → Tr d → Nat
  | 0, _ => 0
  | d + 1, t => 3 + (Nd.keys t).length + ((Nd.list t).map (wtT d)).sum
theorem markL_to {α : Type} {f : α → Nat → α × Nat} {g : α → Nat} (h : ∀ x k, (f x k).2 = k + g x) : ∀ (xs : List α) (k : Nat), (markL f xs k).2 = k + (xs.map g).sum
  | [], k => by simp [markL]
  | x :: r, k => by
    rw [markL, List.map_cons, List.sum_cons]
    show (markL f r (f x k).2).2 = _
    rw [markL_to h r, h]
    omega
theorem markT_to : ∀ (d : Nat) (t : Tr d) (k : Nat), (markT d t k).2 = k + wtT d t
  | 0, _, _ => rfl
  | d + 1, t, k => by
    show (markL (markT d) (Nd.list t) (k + 3 + (Nd.keys t).length)).2 = _
    rw [markL_to (markT_to d), wtT]
    omega
theorem markTo_le {d : Nat} (xs : List (Tr d)) (k i : Nat) : k ≤ markTo (markT d) xs k i ∧ markTo (markT d) xs k i ≤ k + (xs.map (wtT d)).sum := by
  unfold markTo
  rw [markL_to (markT_to d)]
  have : ((xs.take i).map (wtT d)).sum ≤ (xs.map (wtT d)).sum := by
    conv => rhs; rw [← List.take_append_drop i xs, List.map_append, List.sum_append]
    omega
  omega
end Go.Proofs.YtmkoeomkbbmoaaaGreatDoor
