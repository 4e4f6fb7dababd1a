/- Texts of the proof, put together by program: WManyT, WManyM, LValMany, LFnMany0, WDrawK, WDrawL, PPart, PSet, WGetS, WGetSo, WAtS, WAtSo, WLen. -/
import Derived.Test.YtmibjmipndffmaaGreatDoorQ3
import Derived.Test.YtmibjmipndffmaaGreatDoorQ4
import Derived.Deep.LoopGhost
import Derived.Test.YtmibjmipndffmaaGreatDoorQ7
import Derived.Deep.RegionHeld
import Derived.Test.YtmibjmipndffmaaGreatDoorQ27
import Derived.Test.YtmibjmipndffmaaGreatDoorQ5
import Derived.Test.YtmibjmipndffmaaGreatDoorQ25
import Derived.Test.YtmibjmipndffmaaGreatDoorQ13
import Derived.Test.YtmibjmipndffmaaGreatDoorQ12
import Derived.Test.YtmibjmipndffmaaGreatDoorQ8
import Derived.Test.YtmibjmipndffmaaGreatDoorQ9
/- many: how many parts one of the program's own trees has. -/
namespace Go.Proofs.YtmibjmipndffmaaGreatDoor
open Go.RowKit Go.Deep

/-- How many parts there are, as the program's own trees have them. -/
def cntT : (d : Nat) → Tr d → Nat
  | 0, _ => 0
  | d + 1, t => 1 + (if Nd.kind t = 5 ∨ Nd.kind t = 6 then ((Nd.list t).map (cntT d)).sum else 0)

/-- What many is asked to give. -/
def ManyQ (n : Nat) (w : World) (e : Ending) (w' : World) : Prop := e = .returned (.int .i64 n) ∧ Below w.heap.size w w'

end Go.Proofs.YtmibjmipndffmaaGreatDoor

/- many: maps, and all of them together. -/
namespace Go.Proofs.YtmibjmipndffmaaGreatDoor
open Go.RowKit Go.Deep

theorem seen_perm {n : Nat} {seen : List Nat} (hd : seen.Nodup) (hl : ∀ i ∈ seen, i < n) : (List.range n).Perm (seen ++ (List.range n).filter (fun i => !seen.contains i)) := by
  rw [List.perm_ext_iff_of_nodup List.nodup_range]
  · intro a
    simp only [List.mem_range, List.mem_append, List.mem_filter, Bool.not_eq_true', List.contains_eq_mem, decide_eq_false_iff_not]
    constructor
    · intro h
      by_cases hm : a ∈ seen
      · exact Or.inl hm
      · exact Or.inr ⟨h, hm⟩
    · rintro (h | h)
      · exact hl a h
      · exact h.1
  · rw [List.nodup_append]
    refine ⟨hd, List.Pairwise.filter _ List.nodup_range, fun a ha b hb e => ?_⟩
    subst e
    simp only [List.mem_filter, List.contains_eq_mem, Bool.not_eq_true', decide_eq_false_iff_not] at hb
    exact hb.2 ha
theorem seen_sum_le {n : Nat} {seen : List Nat} (f : Nat → Nat) (hd : seen.Nodup) (hl : ∀ i ∈ seen, i < n) : (seen.map f).sum ≤ ((List.range n).map f).sum := by
  have := ((seen_perm hd hl).map f).sum_nat
  rw [List.map_append, List.sum_append] at this
  omega
theorem seen_sum_all {n : Nat} {seen : List Nat} (f : Nat → Nat) (hd : seen.Nodup) (hl : ∀ i ∈ seen, i < n) (ha : ∀ i, i < n → i ∈ seen) : (seen.map f).sum = ((List.range n).map f).sum := by
  have hp : seen.Perm (List.range n) := by
    rw [List.perm_ext_iff_of_nodup hd List.nodup_range]
    intro a
    simp only [List.mem_range]
    exact ⟨hl a, ha a⟩
  exact (hp.map f).sum_nat
theorem seen_len {n : Nat} {seen : List Nat} (hd : seen.Nodup) (hl : ∀ i ∈ seen, i < n) : seen.length ≤ n := by
  have := List.Nodup.length_le_of_subset hd (l₂ := List.range n) (fun i hi => List.mem_range.2 (hl i hi))
  simpa using this
/-- A number for the thing at a place. -/
def atN {α : Type} (f : α → Nat) (xs : List α) (i : Nat) : Nat := match xs[i]? with | some x => f x | none => 0
theorem atN_sum {α : Type} (f : α → Nat) (xs : List α) : ((List.range xs.length).map (atN f xs)).sum = (xs.map f).sum := by
  congr 1
  apply List.ext_getElem
  · simp
  · intro i h1 h2
    simp only [List.length_map, List.length_range] at h1
    simp [atN, h1]
theorem OneOff.below {r B : Nat} {a w w' : World} (h : Below B a w) (k : OneOff r w w') (hr : B ≤ r) : Below B a w' :=
  h.trans ⟨k.os, k.tape, k.output, by rw [k.size]; exact Nat.le_refl _, fun i hi => k.block i (by omega)⟩

theorem cntT_pos : ∀ (d : Nat) (t : Tr d), 1 ≤ cntT d t
  | 0, t => Empty.elim t
  | d + 1, t => by rw [cntT]; omega
theorem len_le_cnt {d : Nat} : ∀ xs : List (Tr d), xs.length ≤ (xs.map (cntT d)).sum
  | [] => Nat.le_refl _
  | x :: r => by
    have := cntT_pos d x
    have := len_le_cnt r
    simp only [List.length_cons, List.map_cons, List.sum_cons]
    omega

end Go.Proofs.YtmibjmipndffmaaGreatDoor

/- FnExactValMany: for every tree that lies in memory the law answers true. -/
namespace Go.Proofs.YtmibjmipndffmaaGreatDoor
open Go.RowKit Go.Deep

theorem cntT_le : ∀ (d : Nat) (t : Tr d), cntT d t ≤ nodes d t
  | 0, _ => Nat.le_refl _
  | d + 1, t => by
    rw [cntT, nodes]
    split
    · have := sum_map_le (cntT d) (nodes d) (cntT_le d) (Nd.list t)
      omega
    · omega
theorem sum_map_congr {α : Type} {f g : α → Nat} : ∀ {xs : List α}, (∀ x ∈ xs, f x = g x) → (xs.map f).sum = (xs.map g).sum
  | [], _ => rfl
  | x :: r, h => by
    simp only [List.map_cons, List.sum_cons]
    rw [h x (by simp), sum_map_congr (fun y hy => h y (by simp [hy]))]
/-- Of a tree of right form the two counts are one. -/
theorem cntT_many : ∀ (d : Nat) (t : Tr d) (deep : Int), formT d t deep = true → cntT d t = manyT d t deep
  | 0, _, _, h => by simp [formT] at h
  | d + 1, t, deep, h => by
    obtain ⟨kind, num, str, keys, list⟩ := t
    have hc : cntT (d + 1) (Nd.mk kind num str keys list) = 1 + (if kind = 5 ∨ kind = 6 then (list.map (cntT d)).sum else 0) := rfl
    have hm : manyT (d + 1) (Nd.mk kind num str keys list) deep = 1 + (if 0 < deep then (list.map (fun x => manyT d x (deep - 1))).sum else 0) := rfl
    cases hb : headBad kind num str keys.length list.length deep with
    | true => rw [formT_bad hb] at h; cases h
    | false =>
      rw [formT_good hb] at h
      have hg := head_good hb
      rw [hc, hm, if_pos (show 0 < deep by omega)]
      by_cases h56 : kind = 5 ∨ kind = 6
      · rw [if_pos h56]
        have hall : list.all (fun x => formT d x (deep - 1)) = true := by
          rcases h56 with rfl | rfl
          · simpa using h
          · simp at h
            simpa using h.2
        congr 1
        refine sum_map_congr (fun x hx => ?_)
        exact cntT_many d x (deep - 1) (List.all_eq_true.1 hall x hx)
      · rw [if_neg h56]
        have : list.length = 0 := by
          by_cases h5 : kind < 5
          · exact hg.2.2.2.2 h5
          · rw [if_neg (by omega), if_neg (by omega), if_neg (by omega), if_neg (by omega), if_neg (by omega)] at h
            cases h
        obtain rfl : list = [] := List.eq_nil_of_length_eq_zero this
        simp

/-- How many parts a tree has that is ok, 0 of one that is not. -/
def manyOk (d : Nat) (t : Tr d) : Nat := if okT d t = true then manyT d t 6 else 0

end Go.Proofs.YtmibjmipndffmaaGreatDoor

/- FnValMany: how many parts there are. -/
namespace Go.Proofs.YtmibjmipndffmaaGreatDoor
open Go.RowKit Go.Deep

theorem okT_split {d : Nat} {t : Tr d} : okT d t = true ↔ formT d t 6 = true ∧ manyT d t 6 ≤ 60 := by
  unfold okT
  rw [Bool.and_eq_true, decide_eq_true_eq]
theorem many_pos {d : Nat} {t : Tr (d + 1)} (h : okT (d + 1) t = true) : 1 ≤ manyOk (d + 1) t ∧ manyOk (d + 1) t ≤ 60 := by
  have h2 := (okT_split.1 h).2
  unfold manyOk
  rw [if_pos h]
  exact ⟨by rw [manyT]; omega, h2⟩
theorem many_no {d : Nat} {t : Tr d} (h : okT d t = false) : manyOk d t = 0 := by
  unfold manyOk
  rw [if_neg (by rw [h]; simp)]
theorem form_parts {d : Nat} {t : Tr (d + 1)} (h : formT (d + 1) t 6 = true) : ∀ x ∈ Nd.list t, formT d x 5 = true := by
  obtain ⟨kind, num, str, keys, list⟩ := t
  intro x hx
  have hx : x ∈ list := hx
  cases hb : headBad kind num str keys.length list.length 6 with
  | true => rw [formT_bad hb] at h; cases h
  | false =>
    rw [formT_good hb] at h
    have hg := head_good hb
    by_cases h56 : kind = 5 ∨ kind = 6
    · have hall : list.all (fun x => formT d x 5) = true := by
        rcases h56 with rfl | rfl
        · simpa using h
        · simp at h
          simpa using h.2
      exact List.all_eq_true.1 hall x hx
    · have : list.length = 0 := by
        by_cases h5 : kind < 5
        · exact hg.2.2.2.2 h5
        · rw [if_neg (by omega), if_neg (by omega), if_neg (by omega), if_neg (by omega), if_neg (by omega)] at h
          cases h
      rw [List.eq_nil_of_length_eq_zero this] at hx
      cases hx
theorem many_part {d : Nat} {t : Tr (d + 1)} {x : Tr d} (h : okT (d + 1) t = true) (hx : x ∈ Nd.list t) : manyOk d x = manyT d x 5 := by
  have h1 := form_parts (okT_split.1 h).1 x hx
  unfold manyOk
  rw [if_pos (okT_part h hx)]
  exact (formT_up d x 5 h1).2
theorem many_parts {d : Nat} {t : Tr (d + 1)} (h : okT (d + 1) t = true) : manyOk (d + 1) t = 1 + ((Nd.list t).map (manyOk d)).sum := by
  have e : (Nd.list t).map (manyOk d) = (Nd.list t).map (fun x => manyT d x 5) := List.map_congr_left (fun x hx => many_part h hx)
  rw [e]
  unfold manyOk
  rw [if_pos h]
  rfl
end Go.Proofs.YtmibjmipndffmaaGreatDoor

/- What the laws of chapter 2 draw: a tree, beside a key or a place. -/
namespace Go.Proofs.YtmibjmipndffmaaGreatDoor
open Go.RowKit Go.Deep

/-- The keys that are drawn. -/
def drawKeys : List ByteArray := [⟨#[97]⟩, ⟨#[98]⟩, ⟨#[99]⟩, ⟨#[97]⟩, ⟨#[98]⟩, ⟨#[100]⟩, ⟨#[]⟩, ⟨#[65]⟩, ⟨#[122, 122]⟩]
theorem drawKeys_size {s : ByteArray} (h : s ∈ drawKeys) : s.size ≤ 2 := by
  have : ∀ y ∈ drawKeys, y.size ≤ 2 := by decide
  exact this s h

/-- The tree that was drawn lies in the result's own cells. -/
theorem treeD_end {w wX : World} {t : Tr 11} {v0 v1 v2 v3 v4 : Value} (hv : ValAt (FreshQ w wX) wX 11 t (.agg #[v0, v1, v2, v3, v4])) (hb : Below w.heap.size w wX) :
    ∀ wF, wF = set5 wX w.heap.size 0 v0 v1 v2 v3 v4 → ValAt (FreshP w wF) wF 11 t (.agg #[v0, v1, v2, v3, v4]) ∧ Below w.heap.size w wF := by
  intro wF hF
  have hs : ∀ b, b ≠ w.heap.size → wF.heap[b]? = wX.heap[b]? := fun b hb' => by rw [hF]; exact set5_block _ _ _ _ _ _ _ _ _ hb'
  have hz : wF.heap.size = wX.heap.size := by rw [hF]; exact set5_size _ _ _ _ _ _ _ _
  have hl : Below w.heap.size w wF := by rw [hF]; exact below_set5 hb (Nat.le_refl _) _ _ _ _ _ _
  refine ⟨ValAt.moved (fun b hb' => hs b (by have := hb'.1; omega)) (fun b hb' => ?_) 11 t _ hv, hl⟩
  exact ⟨⟨Nat.le_of_lt hb'.1, by rw [hz]; exact hb'.2.1⟩, hb'.2.2.of_block (hs b (by have := hb'.1; omega))⟩

/-- The places that are drawn. -/
def drawAts : List Int := [0, 1, 2, -1, -2, 5, -5, 100]

end Go.Proofs.YtmibjmipndffmaaGreatDoor

/- What the laws of chapter 2 draw: two trees, with a key or a place between. -/
namespace Go.Proofs.YtmibjmipndffmaaGreatDoor
open Go.RowKit Go.Deep

/-- Plain blocks from lo on, but for one. -/
def FreshZ (lo vb : Nat) (w : World) (b : Nat) : Prop := lo ≤ b ∧ b < w.heap.size ∧ Plain w b ∧ b ≠ vb
theorem FreshZ.but {lo vb r d : Nat} {w w' : World} {t : Tr d} {u : Value} (h : ValAt (FreshZ lo vb w) w d t u) (hb : But r w w') (hr : r < lo) : ValAt (FreshZ lo vb w') w' d t u := by
  have hs : Same (FreshZ lo vb w) w w' := fun b hb' => hb.block b hb'.2.1 (fun e => by have := hb'.1; cases e; omega)
  exact ValAt.moved hs (fun b hb' => ⟨hb'.1, Nat.lt_of_lt_of_le hb'.2.1 hb.size, hb'.2.2.1.of_block (hs b hb'), hb'.2.2.2⟩) d t u h
theorem FreshZ.turn {lo vb d : Nat} {w w' : World} {t : Tr d} {u : Value} (h : ValAt (FreshZ lo vb w) w d t u) (ht : Turn (fun b => b = vb) w w') : ValAt (FreshZ lo vb w') w' d t u := by
  have hs : Same (FreshZ lo vb w) w w' := fun b hb' => ht.block b hb'.2.1 (fun e => hb'.2.2.2 e)
  exact ValAt.moved hs (fun b hb' => ⟨hb'.1, Nat.lt_of_lt_of_le hb'.2.1 ht.size, hb'.2.2.1.of_block (hs b hb'), hb'.2.2.2⟩) d t u h
theorem FreshZ.new {lo vb d : Nat} {wA wB : World} {t : Tr d} {u : Value} (h : ValAt (FreshP wA wB) wB d t u) (hl : lo ≤ wA.heap.size) (hv : vb < wA.heap.size) : ValAt (FreshZ lo vb wB) wB d t u :=
  h.mono (fun b hb => ⟨Nat.le_trans hl hb.1.1, hb.1.2, hb.2, by have := hb.1.1; omega⟩)

/-- What stands while the first tree is drawn anew. -/
structure PutL (w wr : World) (r lo vb p : Nat) (c0 c1 c2 c3 c4 : Value) (t : Tr 10) : Prop where
  var : Blk5 wr vb 26 c0 c1 c2 c3 c4
  r1 : Blk5 wr w.heap.size 26 (.int .i64 0) (.int .i64 0) (.string { data := #[] }) (.slice none 0 0) (.slice none 0 0)
  r2 : Blk5 wr (w.heap.size + 1) 26 (.int .i64 0) (.int .i64 0) (.string { data := #[] }) (.slice none 0 0) (.slice none 0 0)
  rd : Rd wr r p
  val : ValAt (FreshZ lo vb wr) wr 10 t (.agg #[c0, c1, c2, c3, c4])
  wt : wtT 10 t ≤ 360
  bel : Below w.heap.size w wr
  hr : w.heap.size + 1 < r
  hlo : r < lo
  hvb : lo ≤ vb

theorem PutL.but {w wr wX : World} {r lo vb p p' : Nat} {c0 c1 c2 c3 c4 : Value} {t : Tr 10} (h : PutL w wr r lo vb p c0 c1 c2 c3 c4 t) (hb : But r wr wX) (hR : Rd wX r p') : PutL w wX r lo vb p' c0 c1 c2 c3 c4 t :=
  ⟨h.var.butr hb (by have := h.hlo; have := h.hvb; omega), h.r1.butr hb (by have := h.hr; omega), h.r2.butr hb (by have := h.hr; omega), hR, FreshZ.but h.val hb h.hlo, h.wt, but_below h.bel hb (by have := h.hr; omega) h.bel.size, h.hr, h.hlo, h.hvb⟩

/-- Another tree in the variable. -/
theorem PutL.next {w wr wX wF : World} {r lo vb p p' : Nat} {c0 c1 c2 c3 c4 u0 u1 u2 u3 u4 : Value} {t t' : Tr 10} (h : PutL w wr r lo vb p c0 c1 c2 c3 c4 t) (hb : But r wr wX) (hR : Rd wX r p') (hv : ValAt (FreshP wr wX) wX 10 t' (.agg #[u0, u1, u2, u3, u4])) (hw : wtT 10 t' ≤ 360)
    (hF : wF = set5 wX vb 0 u0 u1 u2 u3 u4) : PutL w wF r lo vb p' u0 u1 u2 u3 u4 t' := by
  have h' := h.but hb hR
  have h1 := h.hr
  have h2 := h.hlo
  have h3 := h.hvb
  have hs : ∀ b, b ≠ vb → wF.heap[b]? = wX.heap[b]? := fun b hb' => by rw [hF]; exact set5_block _ _ _ _ _ _ _ _ _ hb'
  have hz : wF.heap.size = wX.heap.size := by rw [hF]; exact set5_size _ _ _ _ _ _ _ _
  have hl : Below w.heap.size w wF := by rw [hF]; exact below_set5 h'.bel (by omega) _ _ _ _ _ _
  have hl2 : Below vb wX wF := by rw [hF]; exact below_set5 (Below.refl _ _) (Nat.le_refl _) _ _ _ _ _ _
  have ht : Turn (fun b => b = vb) wX wF := ⟨hl2.os, hl2.tape, hl2.output, hl2.size, fun b _ hn => hs b hn⟩
  refine ⟨?_, h'.r1.of_block (hs _ (by omega)), h'.r2.of_block (hs _ (by omega)), ?_, FreshZ.turn (FreshZ.new hv (Nat.le_trans h3 (Nat.le_of_lt h.var.lt)) h.var.lt) ht, hw, hl, h1, h2, h3⟩
  · rw [hF]; exact blk_set5 h'.var _ _ _ _ _
  · obtain ⟨a, n, cap, e1, e2, e3⟩ := hR
    exact ⟨a, n, cap, (hs r (by omega)).trans e1, e2, e3.moved (fun b hb' => hs b (by omega))⟩

/-- The places that are drawn for what is set. -/
def drawSets : List Int := [0, 1, 2, -1, -2, 5, 60, -9, 59]

end Go.Proofs.YtmibjmipndffmaaGreatDoor

/- What is put and got in plain trees: the facts that the laws of chapter 2 ask for. -/
namespace Go.Proofs.YtmibjmipndffmaaGreatDoor
open Go.RowKit Go.Deep

theorem getL_cons {α : Type} (k : ByteArray) (ks : List ByteArray) (x : α) (xs : List α) (s : ByteArray) : getL (k :: ks) (x :: xs) s = if (k == s) = true then some x else getL ks xs s := by rw [getL]
theorem getL_nil {α : Type} (xs : List α) (s : ByteArray) : getL ([] : List ByteArray) xs s = none := getL_miss (by simp)
theorem putL_nil {α : Type} (xs : List α) (s : ByteArray) (x : α) : putL [] xs s x = [(s, x)] := by rw [putL]
theorem putL_cons {α : Type} (k : ByteArray) (ks : List ByteArray) (y : α) (ys : List α) (s : ByteArray) (x : α) : putL (k :: ks) (y :: ys) s x = if ltB k s = true then (k, y) :: putL ks ys s x else if (k == s) = true then (s, x) :: ks.zip ys else (s, x) :: (k, y) :: ks.zip ys := by rw [putL]
theorem zip_snd' {α : Type} (ks : List ByteArray) (xs : List α) (h : ks.length = xs.length) : (ks.zip xs).map Prod.snd = xs := by
  rw [List.map_snd_zip (by omega)]

/-- What was put is got. -/
theorem getL_put_same {α : Type} (s : ByteArray) (x : α) : ∀ (ks : List ByteArray) (xs : List α), ks.length = xs.length → getL ((putL ks xs s x).map Prod.fst) ((putL ks xs s x).map Prod.snd) s = some x
  | [], xs, _ => by rw [putL_nil]; show getL [s] [x] s = some x; rw [getL_cons, if_pos (bytes_self s)]
  | _ :: _, [], h => by simp at h
  | k :: ks, y :: ys, h => by
    rw [putL_cons]
    split
    · rename_i hlt
      rw [List.map_cons, List.map_cons, getL_cons, if_neg (by rw [bytes_ne (ltB_ne hlt)]; simp)]
      exact getL_put_same s x ks ys (by simpa using h)
    · split
      · show getL (s :: (ks.zip ys).map Prod.fst) (x :: (ks.zip ys).map Prod.snd) s = some x
        rw [getL_cons, if_pos (bytes_self s)]
      · show getL (s :: k :: (ks.zip ys).map Prod.fst) (x :: y :: (ks.zip ys).map Prod.snd) s = some x
        rw [getL_cons, if_pos (bytes_self s)]
/-- What was there at another key stays. -/
theorem getL_put_other {α : Type} {s s' : ByteArray} (x : α) (hne : s' ≠ s) : ∀ (ks : List ByteArray) (xs : List α), ks.length = xs.length → getL ((putL ks xs s x).map Prod.fst) ((putL ks xs s x).map Prod.snd) s' = getL ks xs s'
  | [], xs, _ => by
    rw [putL_nil]
    show getL [s] [x] s' = _
    rw [getL_cons, if_neg (by rw [bytes_ne (Ne.symm hne)]; simp), getL_nil, getL_nil]
  | _ :: _, [], h => by simp at h
  | k :: ks, y :: ys, h => by
    have hl : ks.length = ys.length := by simpa using h
    rw [putL_cons]
    split
    · show getL (k :: (putL ks ys s x).map Prod.fst) (y :: (putL ks ys s x).map Prod.snd) s' = _
      rw [getL_cons, getL_cons, getL_put_other x hne ks ys hl]
    · split
      · rename_i he
        have e := (MapKept.bytes_beq k s).1 he
        subst e
        show getL (k :: (ks.zip ys).map Prod.fst) (x :: (ks.zip ys).map Prod.snd) s' = _
        rw [getL_cons, getL_cons, if_neg (by rw [bytes_ne (Ne.symm hne)]; simp), if_neg (by rw [bytes_ne (Ne.symm hne)]; simp), zip_fst _ _ hl, zip_snd' _ _ hl]
      · show getL (s :: k :: (ks.zip ys).map Prod.fst) (x :: y :: (ks.zip ys).map Prod.snd) s' = _
        rw [getL_cons, if_neg (by rw [bytes_ne (Ne.symm hne)]; simp), getL_cons, getL_cons, zip_fst _ _ hl, zip_snd' _ _ hl]

theorem ltB_asymm {a b : ByteArray} (h : ltB a b = true) (h' : ltB b a = true) : False := by
  have := bytesLess_trans _ _ _ h h'
  rw [bytesLess_irrefl] at this
  cases this
/-- Keys in order, with what is at each: nothing else. -/
theorem assoc_ext {α : Type} : ∀ (ps qs : List (ByteArray × α)) (p q : Option ByteArray), keysGo p (ps.map Prod.fst) = true → keysGo q (qs.map Prod.fst) = true → (∀ s, getL (ps.map Prod.fst) (ps.map Prod.snd) s = getL (qs.map Prod.fst) (qs.map Prod.snd) s) → ps = qs
  | [], [], _, _, _, _, _ => rfl
  | [], (k, x) :: r, _, _, _, _, h => by
    have := h k
    simp only [List.map_cons, List.map_nil, getL_cons, getL_nil, bytes_self, if_true] at this
    cases this
  | (k, x) :: r, [], _, _, _, _, h => by
    have := h k
    simp only [List.map_cons, List.map_nil, getL_cons, getL_nil, bytes_self, if_true] at this
    cases this
  | (k, x) :: r, (k', x') :: r', p, q, h1, h2, h => by
    have a1 := keysGo_all _ k (keysGo_tail h1)
    have a2 := keysGo_all _ k' (keysGo_tail h2)
    have hg : ∀ s, (if (k == s) = true then some x else getL (r.map Prod.fst) (r.map Prod.snd) s) = (if (k' == s) = true then some x' else getL (r'.map Prod.fst) (r'.map Prod.snd) s) := fun s => by
      have := h s
      simp only [List.map_cons, getL_cons] at this
      exact this
    by_cases e : k = k'
    · subst e
      have hx := hg k
      rw [if_pos (bytes_self k), if_pos (bytes_self k)] at hx
      cases hx
      rw [assoc_ext r r' _ _ (keysGo_tail h1) (keysGo_tail h2) (fun s => ?_)]
      by_cases es : k = s
      · subst es
        rw [getL_miss (fun hm => ltB_ne (a1 _ hm) rfl), getL_miss (fun hm => ltB_ne (a2 _ hm) rfl)]
      · have hs := hg s
        rw [if_neg (by rw [bytes_ne es]; simp), if_neg (by rw [bytes_ne es]; simp)] at hs
        exact hs
    · exfalso
      cases hlt : ltB k k' with
      | true =>
        have hx := hg k
        rw [if_pos (bytes_self k), if_neg (by rw [bytes_ne (Ne.symm e)]; simp), getL_miss (fun hm => ltB_asymm hlt (a2 _ hm))] at hx
        cases hx
      | false =>
        have hlt' := ltB_total hlt (bytes_ne e)
        have hx := hg k'
        rw [if_pos (bytes_self k'), if_neg (by rw [bytes_ne e]; simp), getL_miss (fun hm => ltB_asymm hlt' (a1 _ hm))] at hx
        cases hx
theorem keysGo_ok : ∀ (ks : List ByteArray) (p : Option ByteArray), keysGo p ks = true → ∀ s ∈ ks, strOk s = true
  | [], _, _, _, h => by cases h
  | a :: r, p, h, s, hs => by
    have h0 : strOk a = true := by
      cases p with
      | none => simp only [keysGo, Bool.and_eq_true] at h; exact h.1
      | some q => simp only [keysGo, Bool.and_eq_true] at h; exact h.1
    cases hs with
    | head => exact h0
    | tail _ hs => exact keysGo_ok r _ (keysGo_tail h) s hs
theorem getL_key {α : Type} {ks : List ByteArray} {xs : List α} {i : Nat} {k : ByteArray} {y : α} (h : keysB ks = true) (hk : ks[i]? = some k) (hy : xs[i]? = some y) : getL ks xs k = some y :=
  getL_at hk hy (fun _ hj e => keysB_ne h hj e hk rfl)

theorem putL_len2 {α : Type} (ps : List (ByteArray × α)) : (ps.map Prod.fst).length = (ps.map Prod.snd).length := by rw [List.length_map, List.length_map]

/-- The keys and trees of a tree of which a key may be asked. -/
theorem mapL_some {d : Nat} {t : Tr (d + 1)} {s : ByteArray} {keys : List ByteArray} {xs : List (Tr d)} (h : mapL d t s = some (keys, xs)) :
    okT (d + 1) t = true ∧ strOk s = true ∧ keys.length = xs.length ∧ keysB keys = true ∧ ((Nd.kind t = 0 ∧ keys = [] ∧ xs = []) ∨ (Nd.kind t = 6 ∧ keys = Nd.keys t ∧ xs = Nd.list t)) := by
  unfold mapL at h
  split at h
  · rename_i hh
    split at h
    · cases h
      exact ⟨hh.1, hh.2, rfl, rfl, Or.inl ⟨by assumption, rfl, rfl⟩⟩
    split at h
    · rename_i h6
      cases h
      refine ⟨hh.1, hh.2, okT_keys hh.1 h6, ?_, Or.inr ⟨h6, rfl, rfl⟩⟩
      obtain ⟨hf, _⟩ := okT_form hh.1
      obtain ⟨kind, num, str, keys, list⟩ := t
      have h6 : kind = 6 := h6
      cases hb : headBad kind num str keys.length list.length 6 with
      | true => rw [formT_bad hb] at hf; cases hf
      | false =>
        rw [formT_good hb, if_neg (by omega), if_neg (by omega), if_neg (by omega), if_pos h6] at hf
        simp only [Bool.and_eq_true] at hf
        exact hf.1.2
    · cases h
  · cases h
theorem mapL_mapT {d : Nat} {ps : List (ByteArray × Tr d)} {s : ByteArray} (h : okT (d + 1) (mapT d ps) = true) (hs : strOk s = true) : mapL d (mapT d ps) s = some (ps.map Prod.fst, ps.map Prod.snd) := by
  rw [mapL_ok h hs]
  rfl
theorem partGet_mapT {d : Nat} {ps : List (ByteArray × Tr (d + 1))} {s : ByteArray} (h : okT (d + 2) (mapT (d + 1) ps) = true) (hs : strOk s = true) : partGetT d (mapT (d + 1) ps) s = ((getL (ps.map Prod.fst) (ps.map Prod.snd) s).getD (zeroT d), true) := by
  unfold partGetT
  rw [if_pos ⟨h, hs⟩]
  rfl
/-- PartPut that can be done. -/
theorem put_ok {d : Nat} {t : Tr (d + 2)} {s : ByteArray} {x : Tr (d + 1)} (h : (partPutT d t s x).2 = true) :
    ∃ keys xs, mapL (d + 1) t s = some (keys, xs) ∧ okT (d + 1) x = true ∧ (partPutT d t s x).1 = mapT (d + 1) (putL keys xs s x) ∧ okT (d + 2) (mapT (d + 1) (putL keys xs s x)) = true := by
  unfold partPutT at h ⊢
  cases hm : mapL (d + 1) t s with
  | none => rw [hm] at h; cases h
  | some kx =>
    obtain ⟨keys, xs⟩ := kx
    rw [hm] at h
    by_cases hx : okT (d + 1) x = true
    · have h' : okT (d + 2) (mapT (d + 1) (putL keys xs s x)) = true := by simpa [hx] using h
      refine ⟨keys, xs, rfl, hx, ?_, h'⟩
      show (if okT (d + 1) x = true then _ else _ : Tr (d + 2) × Bool).1 = _
      rw [if_pos hx]
      show toldT (d + 1) _ = _
      unfold toldT
      rw [if_pos h']
    · have : (if okT (d + 1) x = true then (toldT (d + 1) (mapT (d + 1) (putL keys xs s x)), okT (d + 2) (mapT (d + 1) (putL keys xs s x))) else (zeroT (d + 1), false) : Tr (d + 2) × Bool).2 = true := h
      rw [if_neg hx] at this
      cases this
theorem get_put {d : Nat} {t : Tr (d + 2)} {s : ByteArray} {x : Tr (d + 1)} (h : (partPutT d t s x).2 = true) : partGetT d (partPutT d t s x).1 s = (x, true) := by
  obtain ⟨keys, xs, hm, hx, he, ho⟩ := put_ok h
  obtain ⟨_, hs, hl, _, _⟩ := mapL_some hm
  rw [he, partGet_mapT ho hs, getL_put_same s x keys xs hl]
  rfl
theorem okT_nokeys {d : Nat} {t : Tr (d + 1)} (h : okT (d + 1) t = true) (h6 : Nd.kind t ≠ 6) : Nd.keys t = [] := by
  obtain ⟨hf, _⟩ := okT_form h
  obtain ⟨kind, num, str, keys, list⟩ := t
  cases hb : headBad kind num str keys.length list.length 6 with
  | true => rw [formT_bad hb] at hf; cases hf
  | false => exact List.eq_nil_of_length_eq_zero ((headBad_iff.1 hb).2.2.2.1 h6)
theorem okT_nolist {d : Nat} {t : Tr (d + 1)} (h : okT (d + 1) t = true) (h6 : Nd.kind t < 5) : Nd.list t = [] := by
  obtain ⟨hf, _⟩ := okT_form h
  obtain ⟨kind, num, str, keys, list⟩ := t
  cases hb : headBad kind num str keys.length list.length 6 with
  | true => rw [formT_bad hb] at hf; cases hf
  | false => exact List.eq_nil_of_length_eq_zero ((headBad_iff.1 hb).2.2.2.2 h6)
theorem get_put_other {d : Nat} {t : Tr (d + 2)} {s k : ByteArray} {x y : Tr (d + 1)} {i : Nat} (h : (partPutT d t s x).2 = true) (hk : (Nd.keys t)[i]? = some k) (hy : (Nd.list t)[i]? = some y) (hne : k ≠ s) : partGetT d (partPutT d t s x).1 k = (y, true) := by
  obtain ⟨keys, xs, hm, hx, he, ho⟩ := put_ok h
  obtain ⟨hok, hs, hl, hkb, hc⟩ := mapL_some hm
  rcases hc with ⟨h0, rfl, rfl⟩ | ⟨h6, rfl, rfl⟩
  · rw [okT_nokeys hok (by omega)] at hk
    simp at hk
  · rw [he, partGet_mapT ho (keysGo_ok _ _ hkb k (List.mem_of_getElem? hk)), getL_put_other x hne _ _ hl, getL_key hkb hk hy]
    rfl
/-- PartPut behind PartPut. -/
theorem put_put {d : Nat} {a b : ByteArray} {x y : Tr (d + 1)} {keys : List ByteArray} {xs : List (Tr (d + 1))} (ho : okT (d + 2) (mapT (d + 1) (putL keys xs a x)) = true) (hb : strOk b = true) :
    partPutT d (mapT (d + 1) (putL keys xs a x)) b y = if okT (d + 1) y = true then (toldT (d + 1) (mapT (d + 1) (putL ((putL keys xs a x).map Prod.fst) ((putL keys xs a x).map Prod.snd) b y)), okT (d + 2) (mapT (d + 1) (putL ((putL keys xs a x).map Prod.fst) ((putL keys xs a x).map Prod.snd) b y))) else (zeroT (d + 1), false) := by
  unfold partPutT
  rw [mapL_mapT ho hb]
theorem putL_order {α : Type} {s : ByteArray} {x : α} {ks : List ByteArray} {xs : List α} (hs : strOk s = true) (hl : ks.length = xs.length) (hk : keysGo none ks = true) : keysGo none ((putL ks xs s x).map Prod.fst) = true :=
  putL_keys hs hl hk (fun q h => by cases h)
/-- What is put at one key last is there. -/
theorem putL_again {α : Type} {s : ByteArray} {x y : α} {ks : List ByteArray} {xs : List α} (hs : strOk s = true) (hl : ks.length = xs.length) (hk : keysGo none ks = true) :
    putL ((putL ks xs s x).map Prod.fst) ((putL ks xs s x).map Prod.snd) s y = putL ks xs s y := by
  refine assoc_ext _ _ none none (putL_order hs (putL_len2 _) (putL_order hs hl hk)) (putL_order hs hl hk) (fun k => ?_)
  by_cases e : k = s
  · subst e
    rw [getL_put_same _ _ _ _ (putL_len2 _), getL_put_same _ _ _ _ hl]
  · rw [getL_put_other _ e _ _ (putL_len2 _), getL_put_other _ e _ _ hl, getL_put_other _ e _ _ hl]
theorem putL_swap {α : Type} {a b : ByteArray} {x y : α} {ks : List ByteArray} {xs : List α} (ha : strOk a = true) (hb : strOk b = true) (hne : a ≠ b) (hl : ks.length = xs.length) (hk : keysGo none ks = true) :
    putL ((putL ks xs a x).map Prod.fst) ((putL ks xs a x).map Prod.snd) b y = putL ((putL ks xs b y).map Prod.fst) ((putL ks xs b y).map Prod.snd) a x := by
  refine assoc_ext _ _ none none (putL_order hb (putL_len2 _) (putL_order ha hl hk)) (putL_order ha (putL_len2 _) (putL_order hb hl hk)) (fun k => ?_)
  by_cases e : k = a
  · subst e
    rw [getL_put_other _ hne _ _ (putL_len2 _), getL_put_same _ _ _ _ hl, getL_put_same _ _ _ _ (putL_len2 _)]
  · by_cases e' : k = b
    · subst e'
      rw [getL_put_same _ _ _ _ (putL_len2 _), getL_put_other _ e _ _ (putL_len2 _), getL_put_same _ _ _ _ hl]
    · rw [getL_put_other _ e' _ _ (putL_len2 _), getL_put_other _ e _ _ hl, getL_put_other _ e _ _ (putL_len2 _), getL_put_other _ e' _ _ hl]
/-- At one key the last one counts. -/
theorem put_twice {d : Nat} {t : Tr (d + 2)} {a : ByteArray} {x : Tr (d + 1)} (h : (partPutT d t a x).2 = true) (y : Tr (d + 1)) : partPutT d (partPutT d t a x).1 a y = partPutT d t a y := by
  obtain ⟨keys, xs, hm, hx, he, ho⟩ := put_ok h
  obtain ⟨_, hs, hl, hkb, _⟩ := mapL_some hm
  rw [he, put_put ho hs, putL_again hs hl hkb]
  unfold partPutT
  rw [hm]
theorem put_same {d : Nat} {t : Tr (d + 2)} {a : ByteArray} {x : Tr (d + 1)} (h : (partPutT d t a x).2 = true) : partPutT d (partPutT d t a x).1 a x = ((partPutT d t a x).1, true) := by
  rw [put_twice h, ← h]
theorem put_swap {d : Nat} {t : Tr (d + 2)} {a b : ByteArray} {x y : Tr (d + 1)} (h1 : (partPutT d t a x).2 = true) (h3 : (partPutT d t b y).2 = true) (hne : a ≠ b) :
    (partPutT d (partPutT d t a x).1 b y).1 = (partPutT d (partPutT d t b y).1 a x).1 := by
  obtain ⟨keys, xs, hm, hx, he, ho⟩ := put_ok h1
  obtain ⟨_, ha, hl, hkb, hc⟩ := mapL_some hm
  obtain ⟨keys', xs', hm', hx', he', ho'⟩ := put_ok h3
  obtain ⟨_, hb, hl', _, hc'⟩ := mapL_some hm'
  obtain ⟨rfl, rfl⟩ : keys' = keys ∧ xs' = xs := by
    rcases hc with ⟨h0, rfl, rfl⟩ | ⟨h0, rfl, rfl⟩ <;> rcases hc' with ⟨h0', rfl, rfl⟩ | ⟨h0', rfl, rfl⟩ <;> first | exact ⟨rfl, rfl⟩ | omega
  rw [he, put_put ho hb, he', put_put ho' ha, if_pos hx, if_pos hx', putL_swap ha hb hne hl hkb]
end Go.Proofs.YtmibjmipndffmaaGreatDoor

/- What is set at a place of a plain row: the facts that the laws of chapter 2 ask for. -/
namespace Go.Proofs.YtmibjmipndffmaaGreatDoor
open Go.RowKit Go.Deep

theorem okT_iff {d : Nat} {t : Tr d} : okT d t = true ↔ formT d t 6 = true ∧ manyT d t 6 ≤ 60 := by
  unfold okT
  rw [Bool.and_eq_true, decide_eq_true_eq]
theorem okT_rowT_iff {d : Nat} {xs : List (Tr d)} : okT (d + 1) (rowT d xs) = true ↔ (∀ x ∈ xs, formT d x 5 = true) ∧ 1 + (xs.map (fun x => manyT d x 5)).sum ≤ 60 := by
  have hb : headBad 5 0 ByteArray.empty ([] : List ByteArray).length xs.length 6 = false := headBad_iff.2 ⟨by omega, fun _ => rfl, fun _ => empty_toList, fun _ => rfl, fun h => by omega⟩
  have h1 : formT (d + 1) (rowT d xs) 6 = xs.all (fun x => formT d x 5) := by
    show formT (d + 1) (Nd.mk 5 0 ByteArray.empty [] xs : Nd (Tr d)) 6 = _
    rw [formT_good hb]
    rfl
  have h2 : manyT (d + 1) (rowT d xs) 6 = 1 + (xs.map (fun x => manyT d x 5)).sum := rfl
  rw [okT_iff, h1, h2, List.all_eq_true]
theorem okT_mapT_iff {d : Nat} {ps : List (ByteArray × Tr d)} : okT (d + 1) (mapT d ps) = true ↔ keysB (ps.map Prod.fst) = true ∧ (∀ x ∈ ps.map Prod.snd, formT d x 5 = true) ∧ 1 + ((ps.map Prod.snd).map (fun x => manyT d x 5)).sum ≤ 60 := by
  have hb : headBad 6 0 ByteArray.empty (ps.map Prod.fst).length (ps.map Prod.snd).length 6 = false := headBad_iff.2 ⟨by omega, fun _ => rfl, fun _ => empty_toList, fun h => absurd rfl h, fun h => by omega⟩
  have h1 : formT (d + 1) (mapT d ps) 6 = (keysB (ps.map Prod.fst) && (ps.map Prod.snd).all (fun x => formT d x 5)) := by
    show formT (d + 1) (Nd.mk 6 0 ByteArray.empty (ps.map Prod.fst) (ps.map Prod.snd) : Nd (Tr d)) 6 = _
    rw [formT_good hb, if_neg (by omega), if_neg (by omega), if_neg (by omega), if_pos rfl, putL_len2]
    simp only [beq_self_eq_true, Bool.true_and]
    rfl
  have h2 : manyT (d + 1) (mapT d ps) 6 = 1 + ((ps.map Prod.snd).map (fun x => manyT d x 5)).sum := rfl
  rw [okT_iff, h1, h2, Bool.and_eq_true, List.all_eq_true, and_assoc]
/-- A row that is ok is its trees. -/
theorem row_self {d : Nat} {t : Tr (d + 1)} (h : okT (d + 1) t = true) (h5 : Nd.kind t = 5) : t = rowT d (Nd.list t) := by
  obtain ⟨hf, _⟩ := okT_form h
  obtain ⟨kind, num, str, keys, list⟩ := t
  have h5 : kind = 5 := h5
  subst h5
  cases hb : headBad 5 num str keys.length list.length 6 with
  | true => rw [formT_bad hb] at hf; cases hf
  | false =>
    obtain ⟨_, g1, g2, g3, _⟩ := headBad_iff.1 hb
    obtain rfl := g1 (by omega)
    have hs : str = ByteArray.empty := str_empty (g2 (by omega))
    have hk := List.eq_nil_of_length_eq_zero (g3 (by omega))
    subst hs hk
    rfl
theorem map_self {d : Nat} {t : Tr (d + 1)} (h : okT (d + 1) t = true) (h6 : Nd.kind t = 6) : t = mapT d ((Nd.keys t).zip (Nd.list t)) := by
  have hl := okT_keys h h6
  obtain ⟨hf, _⟩ := okT_form h
  obtain ⟨kind, num, str, keys, list⟩ := t
  have h6 : kind = 6 := h6
  subst h6
  cases hb : headBad 6 num str keys.length list.length 6 with
  | true => rw [formT_bad hb] at hf; cases hf
  | false =>
    obtain ⟨_, g1, g2, g3, _⟩ := headBad_iff.1 hb
    obtain rfl := g1 (by omega)
    have hs : str = ByteArray.empty := str_empty (g2 (by omega))
    subst hs
    have hl : keys.length = list.length := hl
    show _ = (Nd.mk 6 0 ByteArray.empty ((keys.zip list).map Prod.fst) ((keys.zip list).map Prod.snd) : Nd (Tr d))
    rw [zip_fst _ _ hl, zip_snd' _ _ hl]

theorem setL_at {α : Type} (xs : List α) (z : α) (k : Nat) (x : α) : (setL xs z k x)[k]? = some x := by
  unfold setL
  rw [List.getElem?_set_self (by rw [padL_length]; omega)]
theorem setL_other {α : Type} {xs : List α} {z : α} {k : Nat} {x y : α} {j : Nat} (hj : xs[j]? = some y) (hne : j ≠ k) : (setL xs z k x)[j]? = some y := by
  unfold setL padL
  rw [List.getElem?_set_ne (Ne.symm hne), List.getElem?_append_left (List.getElem?_eq_some_iff.1 hj).1, hj]
theorem setL_in {α : Type} {xs : List α} {z : α} {k : Nat} {x : α} (hk : k < xs.length) : setL xs z k x = xs.set k x := by
  unfold setL padL
  rw [show k + 1 - xs.length = 0 by omega]
  simp
theorem setL_end {α : Type} {xs : List α} {z : α} {k : Nat} {x : α} (hk : k = xs.length) : setL xs z k x = xs ++ [x] := by
  subst hk
  unfold setL padL
  rw [show xs.length + 1 - xs.length = 1 by omega]
  simp

theorem rowL_cases {d : Nat} {t : Tr (d + 1)} {xs : List (Tr d)} (h : rowL d t = some xs) : okT (d + 1) t = true ∧ ((Nd.kind t = 0 ∧ xs = []) ∨ (Nd.kind t = 5 ∧ xs = Nd.list t)) := by
  unfold rowL at h
  split at h
  · rename_i hh
    split at h
    · cases h; exact ⟨hh, Or.inl ⟨by assumption, rfl⟩⟩
    split at h
    · cases h; exact ⟨hh, Or.inr ⟨by assumption, rfl⟩⟩
    · cases h
  · cases h
theorem rowL_rowT {d : Nat} {xs : List (Tr d)} (h : okT (d + 1) (rowT d xs) = true) : rowL d (rowT d xs) = some xs := by
  rw [rowL_ok h]
  rfl
theorem partAt_rowT {d : Nat} {xs : List (Tr (d + 1))} {i : Int} (h : okT (d + 2) (rowT (d + 1) xs) = true) : partAtT d (rowT (d + 1) xs) i = ((placeL xs i).getD (zeroT d), true) := by
  unfold partAtT
  rw [if_pos h]
  rfl
/-- The place that is meant, from the start. -/
def spotN (i : Int) (n : Nat) : Nat := (if i < 0 then i + n else i).toNat
theorem set_ok {d : Nat} {t : Tr (d + 2)} {i : Int} {x : Tr (d + 1)} (h : (partSetT d t i x).2 = true) :
    ∃ xs, rowL (d + 1) t = some xs ∧ okT (d + 1) x = true ∧ -(xs.length : Int) ≤ i ∧ i < 60 ∧ (partSetT d t i x).1 = rowT (d + 1) (setL xs (zeroT d) (spotN i xs.length) x) ∧ okT (d + 2) (rowT (d + 1) (setL xs (zeroT d) (spotN i xs.length) x)) = true := by
  unfold partSetT at h ⊢
  cases hm : rowL (d + 1) t with
  | none => rw [hm] at h; cases h
  | some xs =>
    rw [hm] at h
    by_cases hc : okT (d + 1) x = true ∧ -(xs.length : Int) ≤ i ∧ i < 60
    · have h' : okT (d + 2) (rowT (d + 1) (setL xs (zeroT d) (spotN i xs.length) x)) = true := by
        simp only [if_pos hc] at h
        exact h
      refine ⟨xs, rfl, hc.1, hc.2.1, hc.2.2, ?_, h'⟩
      simp only [if_pos hc]
      show toldT (d + 1) (rowT (d + 1) (setL xs (zeroT d) (spotN i xs.length) x)) = _
      unfold toldT
      rw [if_pos h']
    · simp only [if_neg hc] at h
      cases h
theorem set_row {d : Nat} {t : Tr (d + 2)} {i : Int} {x : Tr (d + 1)} {xs : List (Tr (d + 1))} (hr : rowL (d + 1) t = some xs) (hx : okT (d + 1) x = true) (h1 : -(xs.length : Int) ≤ i) (h2 : i < 60) (h : okT (d + 2) (rowT (d + 1) (setL xs (zeroT d) (spotN i xs.length) x)) = true) :
    partSetT d t i x = (rowT (d + 1) (setL xs (zeroT d) (spotN i xs.length) x), true) := by
  unfold partSetT
  rw [hr]
  simp only [if_pos (And.intro hx (And.intro h1 h2))]
  show (toldT (d + 1) (rowT (d + 1) (setL xs (zeroT d) (spotN i xs.length) x)), okT (d + 2) (rowT (d + 1) (setL xs (zeroT d) (spotN i xs.length) x))) = _
  unfold toldT
  rw [if_pos h, h]
theorem place_spot {i : Int} {n m : Nat} (h1 : -(n : Int) ≤ i) (hm : m = max n (spotN i n + 1)) : placeI i m = (spotN i n : Int) := by
  unfold placeI spotN at *
  by_cases h0 : i < 0
  · rw [if_pos h0] at hm ⊢
    have : m = n := by omega
    subst this
    rw [if_neg (by omega), if_pos h0]
    omega
  · rw [if_neg h0] at hm ⊢
    rw [if_neg (by omega), if_neg h0]
    omega
/-- What was set is there. -/
theorem at_set {d : Nat} {t : Tr (d + 2)} {i : Int} {x : Tr (d + 1)} (h : (partSetT d t i x).2 = true) : partAtT d (partSetT d t i x).1 i = (x, true) := by
  obtain ⟨xs, hr, hx, h1, h2, he, ho⟩ := set_ok h
  rw [he, partAt_rowT ho]
  have hp : placeI i (setL xs (zeroT d) (spotN i xs.length) x).length = (spotN i xs.length : Int) := place_spot h1 (setL_length _ _ _ _)
  unfold placeL
  rw [hp, if_neg (by omega), Int.toNat_natCast, setL_at]
  rfl
theorem at_set_other {d : Nat} {t : Tr (d + 2)} {i : Int} {x y : Tr (d + 1)} {j : Nat} (h : (partSetT d t i x).2 = true) (hj : (Nd.list t)[j]? = some y) (n1 : (j : Int) ≠ i) (n2 : (j : Int) ≠ i + (Nd.list t).length) : partAtT d (partSetT d t i x).1 (j : Int) = (y, true) := by
  obtain ⟨xs, hr, hx, h1, h2, he, ho⟩ := set_ok h
  obtain ⟨hok, hc⟩ := rowL_cases hr
  rcases hc with ⟨h0, rfl⟩ | ⟨h5, rfl⟩
  · rw [okT_nolist hok (by omega)] at hj
    simp at hj
  · rw [he, partAt_rowT ho]
    have hlt := (List.getElem?_eq_some_iff.1 hj).1
    have hs : j ≠ spotN i (Nd.list t).length := by unfold spotN; split <;> omega
    have hl := setL_length (Nd.list t) (zeroT d) (spotN i (Nd.list t).length) x
    unfold placeL placeI
    rw [if_neg (by omega), if_neg (by omega), if_neg (by omega), Int.toNat_natCast, setL_other hj hs]
    rfl
theorem set_len {d : Nat} {t : Tr (d + 2)} {i : Int} {x : Tr (d + 1)} (h : (partSetT d t i x).2 = true) : (Nd.list t).length ≤ (Nd.list (partSetT d t i x).1).length ∧ (i < 0 ∨ i < (Nd.list (partSetT d t i x).1).length) := by
  obtain ⟨xs, hr, hx, h1, h2, he, ho⟩ := set_ok h
  obtain ⟨hok, hc⟩ := rowL_cases hr
  have hl := setL_length xs (zeroT d) (spotN i xs.length) x
  rw [he]
  have e : (Nd.list (rowT (d + 1) (setL xs (zeroT d) (spotN i xs.length) x))).length = (setL xs (zeroT d) (spotN i xs.length) x).length := rfl
  rw [e, hl]
  have hn : (Nd.list t).length = xs.length := by
    rcases hc with ⟨h0, rfl⟩ | ⟨h5, rfl⟩
    · rw [okT_nolist hok (by omega)]
    · rfl
  rw [hn]
  refine ⟨by omega, ?_⟩
  by_cases h0 : i < 0
  · exact Or.inl h0
  · refine Or.inr ?_
    unfold spotN
    rw [if_neg h0]
    omega

theorem at_ok {d : Nat} {t : Tr (d + 2)} {i : Int} (h : (partAtT d t i).2 = true) : okT (d + 2) t = true ∧ (Nd.kind t = 0 ∨ Nd.kind t = 5) := by
  unfold partAtT at h
  by_cases ho : okT (d + 2) t = true
  · refine ⟨ho, ?_⟩
    rw [if_pos ho] at h
    by_cases h0 : Nd.kind t = 0
    · exact Or.inl h0
    · rw [if_neg h0] at h
      by_cases h5 : Nd.kind t = 5
      · exact Or.inr h5
      · rw [if_neg h5] at h
        cases h
  · rw [if_neg ho] at h
    cases h
theorem at_out {d : Nat} {t : Tr (d + 2)} {i : Int} (h : okT (d + 2) t = true) (h5 : Nd.kind t = 5) (ho : ((Nd.list t).length : Int) ≤ i ∨ i < -((Nd.list t).length : Int)) : partAtT d t i = (zeroT d, true) := by
  unfold partAtT
  rw [if_pos h, if_neg (by omega), if_pos h5]
  unfold placeL placeI
  rw [if_pos (by omega)]
  rfl
theorem set_no {d : Nat} {t : Tr (d + 2)} {i : Int} {x : Tr (d + 1)} (h : (partSetT d t i x).2 = false) : (partSetT d t i x).1 = zeroT (d + 1) := by
  unfold partSetT at h ⊢
  cases hm : rowL (d + 1) t with
  | none => rfl
  | some xs =>
    rw [hm] at h
    by_cases hc : okT (d + 1) x = true ∧ -(xs.length : Int) ≤ i ∧ i < 60
    · simp only [if_pos hc] at h ⊢
      show toldT (d + 1) _ = _
      unfold toldT
      rw [if_neg (by rw [h]; simp)]
    · simp only [if_neg hc]
theorem put_keys {d : Nat} {t : Tr (d + 2)} {s k : ByteArray} {x : Tr (d + 1)} {i : Nat} (h : (partPutT d t s x).2 = true) (hk : (Nd.keys t)[i]? = some k) : i < (Nd.list t).length := by
  obtain ⟨keys, xs, hm, _, _, _⟩ := put_ok h
  obtain ⟨hok, _, hl, _, hc⟩ := mapL_some hm
  rcases hc with ⟨h0, rfl, rfl⟩ | ⟨h6, rfl, rfl⟩
  · rw [okT_nokeys hok (by omega)] at hk
    simp at hk
  · rw [← hl]
    exact (List.getElem?_eq_some_iff.1 hk).1
theorem wt_list {d : Nat} (t : Tr (d + 2)) : (Nd.list t).length ≤ wtT (d + 2) t := by
  have hp : ∀ xs : List (Tr (d + 1)), xs.length ≤ (xs.map (wtT (d + 1))).sum := by
    intro xs
    induction xs with
    | nil => simp
    | cons y r ih =>
      have : 3 ≤ wtT (d + 1) y := by rw [wtT]; omega
      simp only [List.map_cons, List.sum_cons, List.length_cons]
      omega
  have := hp (Nd.list t)
  rw [wtT]
  omega
/-- Yes, as a tree. -/
def yesT (d : Nat) : Tr (d + 1) := (Nd.mk 2 0 ByteArray.empty [] [] : Nd (Tr d))
theorem yes_form (d : Nat) (deep : Int) (h : 1 ≤ deep) : formT (d + 1) (yesT d) deep = true ∧ manyT (d + 1) (yesT d) deep = 1 := by
  have hb : headBad 2 0 ByteArray.empty ([] : List ByteArray).length ([] : List (Tr d)).length deep = false := headBad_iff.2 ⟨by omega, fun _ => rfl, fun _ => empty_toList, fun _ => rfl, fun _ => rfl⟩
  refine ⟨?_, ?_⟩
  · show formT (d + 1) (Nd.mk 2 0 ByteArray.empty [] [] : Nd (Tr d)) deep = true
    rw [formT_good hb]
    rfl
  · show 1 + (if 0 < deep then _ else 0) = 1
    rw [if_pos (by omega)]
    rfl
theorem okT_yes (d : Nat) : okT (d + 1) (yesT d) = true := okT_iff.2 ⟨(yes_form d 6 (by omega)).1, by rw [(yes_form d 6 (by omega)).2]; omega⟩
theorem sum_set_le {α : Type} (f : α → Nat) (y : α) : ∀ (xs : List α) (k : Nat), (∀ x ∈ xs, f y ≤ f x) → ((xs.set k y).map f).sum ≤ (xs.map f).sum
  | [], _, _ => by simp
  | x :: r, 0, h => by
    have := h x (by simp)
    simp only [List.set_cons_zero, List.map_cons, List.sum_cons]
    omega
  | x :: r, k + 1, h => by
    have := sum_set_le f y r k (fun z hz => h z (by simp [hz]))
    simp only [List.set_cons_succ, List.map_cons, List.sum_cons]
    omega
theorem many_one {d : Nat} (t : Tr (d + 1)) (deep : Int) : 1 ≤ manyT (d + 1) t deep := by rw [manyT]; omega
theorem okT_rowlen {d : Nat} {xs : List (Tr (d + 1))} (h : okT (d + 2) (rowT (d + 1) xs) = true) : xs.length < 60 := by
  have hs := (okT_rowT_iff.1 h).2
  have hl : ∀ ys : List (Tr (d + 1)), ys.length ≤ (ys.map (fun x => manyT (d + 1) x 5)).sum := by
    intro ys
    induction ys with
    | nil => simp
    | cons y r ih =>
      have := many_one y 5
      simp only [List.map_cons, List.sum_cons, List.length_cons]
      omega
  have := hl xs
  omega
/-- Yes at a place of a row that is ok; what was there comes back. -/
theorem set_yes {d : Nat} {t : Tr (d + 2)} {i : Int} (h : okT (d + 2) t = true) (h5 : Nd.kind t = 5) (h1 : -((Nd.list t).length : Int) ≤ i) (h2 : i < (Nd.list t).length) :
    partSetT d t i (yesT d) = (rowT (d + 1) ((Nd.list t).set (spotN i (Nd.list t).length) (yesT d)), true) ∧ okT (d + 2) (rowT (d + 1) ((Nd.list t).set (spotN i (Nd.list t).length) (yesT d))) = true := by
  have hself := row_self h h5
  have ho := h
  rw [hself] at ho
  have hlen := okT_rowlen ho
  have hk : spotN i (Nd.list t).length < (Nd.list t).length := by unfold spotN; split <;> omega
  obtain ⟨f1, f2⟩ := okT_rowT_iff.1 ho
  have hr : rowL (d + 1) t = some (Nd.list t) := by rw [rowL_ok h, if_neg (by omega), if_pos h5]
  have ho2 : okT (d + 2) (rowT (d + 1) ((Nd.list t).set (spotN i (Nd.list t).length) (yesT d))) = true := by
    refine okT_rowT_iff.2 ⟨fun x hx => ?_, ?_⟩
    · rcases List.mem_or_eq_of_mem_set hx with hx | rfl
      · exact f1 x hx
      · exact (yes_form d 5 (by omega)).1
    · have := sum_set_le (fun x => manyT (d + 1) x 5) (yesT d) (Nd.list t) (spotN i (Nd.list t).length) (fun x _ => by show manyT (d + 1) (yesT d) 5 ≤ manyT (d + 1) x 5; rw [(yes_form d 5 (by omega)).2]; exact many_one x 5)
      omega
  have hset : setL (Nd.list t) (zeroT d) (spotN i (Nd.list t).length) (yesT d) = (Nd.list t).set (spotN i (Nd.list t).length) (yesT d) := setL_in hk
  refine ⟨?_, ho2⟩
  rw [← hset] at ho2 ⊢
  exact set_row hr (okT_yes d) h1 (by omega) ho2
theorem set_back {d : Nat} {t : Tr (d + 2)} {i : Int} (h : okT (d + 2) t = true) (h5 : Nd.kind t = 5) (h1 : -((Nd.list t).length : Int) ≤ i) (h2 : i < (Nd.list t).length) :
    partSetT d (partSetT d t i (yesT d)).1 i (partAtT d t i).1 = (t, true) := by
  obtain ⟨hy, ho⟩ := set_yes h h5 h1 h2
  have hself := row_self h h5
  have hlen : (Nd.list t).length < 60 := by rw [hself] at h; exact okT_rowlen h
  rw [hy]
  have hk : spotN i (Nd.list t).length < (Nd.list t).length := by unfold spotN; split <;> omega
  obtain ⟨x, hx⟩ : ∃ x, (Nd.list t)[spotN i (Nd.list t).length]? = some x := ⟨_, List.getElem?_eq_getElem hk⟩
  have hat : partAtT d t i = (x, true) := by
    unfold partAtT
    rw [if_pos h, if_neg (by omega), if_pos h5]
    have hp : placeI i (Nd.list t).length = (spotN i (Nd.list t).length : Int) := place_spot h1 (by omega)
    unfold placeL
    rw [hp, if_neg (by omega), Int.toNat_natCast, hx]
    rfl
  rw [hat]
  have hxo := okT_part h (List.mem_of_getElem? hx)
  have hl2 : ((Nd.list t).set (spotN i (Nd.list t).length) (yesT d)).length = (Nd.list t).length := List.length_set
  have hset : setL ((Nd.list t).set (spotN i (Nd.list t).length) (yesT d)) (zeroT d) (spotN i ((Nd.list t).set (spotN i (Nd.list t).length) (yesT d)).length) x = Nd.list t := by
    rw [hl2, setL_in (by rw [hl2]; exact hk), List.set_set]
    obtain ⟨_, e⟩ := List.getElem?_eq_some_iff.1 hx
    rw [← e, List.set_getElem_self]
  have hfin := set_row (d := d) (t := rowT (d + 1) ((Nd.list t).set (spotN i (Nd.list t).length) (yesT d))) (i := i) (x := x) (rowL_rowT ho) hxo (by rw [hl2]; exact h1) (by omega) (by rw [hset]; rw [← hself]; exact h)
  rw [hset, ← hself] at hfin
  exact hfin
theorem at_other {d : Nat} {t : Tr (d + 2)} {i j : Int} (h : placeI i (Nd.list t).length = placeI j (Nd.list t).length) : partAtT d t i = partAtT d t j := by
  unfold partAtT placeL
  rw [h]
theorem set_other {d : Nat} {t : Tr (d + 2)} {i j : Int} {x : Tr (d + 1)} (hl : (Nd.list t).length < 60) (h5 : Nd.kind t = 5) (h1 : -((Nd.list t).length : Int) ≤ i) (h2 : i < (Nd.list t).length) (k1 : -((Nd.list t).length : Int) ≤ j) (k2 : j < (Nd.list t).length) (hs : spotN i (Nd.list t).length = spotN j (Nd.list t).length) : partSetT d t i x = partSetT d t j x := by
  unfold partSetT rowL
  rw [if_neg (show ¬ Nd.kind t = 0 by omega), if_pos h5]
  by_cases ho : okT (d + 2) t = true
  · rw [if_pos ho]
    unfold spotN at hs
    simp only [hs]
    by_cases hx : okT (d + 1) x = true
    · simp only [if_pos (And.intro hx (And.intro h1 (show i < 60 by omega))), if_pos (And.intro hx (And.intro k1 (show j < 60 by omega)))]
    · simp only [if_neg (show ¬ (okT (d + 1) x = true ∧ -((Nd.list t).length : Int) ≤ i ∧ i < 60) from fun e => hx e.1), if_neg (show ¬ (okT (d + 1) x = true ∧ -((Nd.list t).length : Int) ≤ j ∧ j < 60) from fun e => hx e.1)]
  · rw [if_neg ho]

/-- The first so many trees of a row, nothing of none. -/
def eachRow (d : Nat) (xs : List (Tr (d + 1))) (k : Nat) : Tr (d + 2) := if k = 0 then zeroT (d + 1) else rowT (d + 1) (xs.take k)
def eachMap (d : Nat) (ps : List (ByteArray × Tr (d + 1))) (k : Nat) : Tr (d + 2) := if k = 0 then zeroT (d + 1) else mapT (d + 1) (ps.take k)
theorem sum_take_le' {α : Type} (f : α → Nat) : ∀ (xs : List α) (k : Nat), ((xs.take k).map f).sum ≤ (xs.map f).sum
  | [], k => by simp
  | x :: r, 0 => by simp
  | x :: r, k + 1 => by
    have := sum_take_le' f r k
    simp only [List.take_succ_cons, List.map_cons, List.sum_cons]
    omega
theorem okT_take {d : Nat} {xs : List (Tr d)} (h : okT (d + 1) (rowT d xs) = true) (k : Nat) : okT (d + 1) (rowT d (xs.take k)) = true := by
  obtain ⟨f1, f2⟩ := okT_rowT_iff.1 h
  have := sum_take_le' (fun x => manyT d x 5) xs k
  exact okT_rowT_iff.2 ⟨fun x hx => f1 x (List.mem_of_mem_take hx), by omega⟩
theorem keysGo_take : ∀ (ks : List ByteArray) (p : Option ByteArray) (k : Nat), keysGo p ks = true → keysGo p (ks.take k) = true
  | [], p, k, h => by simpa using h
  | a :: r, p, 0, h => by cases p <;> rfl
  | a :: r, none, k + 1, h => by
    simp only [keysGo, Bool.and_eq_true, List.take_succ_cons] at h ⊢
    exact ⟨h.1, keysGo_take r _ k h.2⟩
  | a :: r, some q, k + 1, h => by
    simp only [keysGo, Bool.and_eq_true, List.take_succ_cons] at h ⊢
    exact ⟨h.1, h.2.1, keysGo_take r _ k h.2.2⟩
theorem okT_takeM {d : Nat} {ps : List (ByteArray × Tr d)} (h : okT (d + 1) (mapT d ps) = true) (k : Nat) : okT (d + 1) (mapT d (ps.take k)) = true := by
  obtain ⟨f0, f1, f2⟩ := okT_mapT_iff.1 h
  refine okT_mapT_iff.2 ⟨?_, fun x hx => ?_, ?_⟩
  · rw [List.map_take]
    exact keysGo_take _ none k f0
  · rw [List.map_take] at hx
    exact f1 x (List.mem_of_mem_take hx)
  · rw [List.map_take]
    have := sum_take_le' (fun x => manyT d x 5) (ps.map Prod.snd) k
    omega
theorem each_row_step {d : Nat} {xs : List (Tr (d + 1))} {k : Nat} {x : Tr (d + 1)} (h : okT (d + 2) (rowT (d + 1) xs) = true) (hx : xs[k]? = some x) : partSetT d (eachRow d xs k) (k : Int) x = (eachRow d xs (k + 1), true) := by
  have hlt := (List.getElem?_eq_some_iff.1 hx).1
  have hlen := okT_rowlen h
  have hr : rowL (d + 1) (eachRow d xs k) = some (xs.take k) := by
    unfold eachRow
    by_cases h0 : k = 0
    · subst h0
      rw [if_pos rfl, rowL_ok (okT_zero (d + 1)), if_pos (show Nd.kind (zeroT (d + 1)) = 0 from rfl)]
      simp
    · rw [if_neg h0]
      exact rowL_rowT (okT_take h k)
  have hl : (xs.take k).length = k := by rw [List.length_take]; omega
  have hs : spotN (k : Int) (xs.take k).length = k := by unfold spotN; rw [if_neg (by omega)]; omega
  have hset : setL (xs.take k) (zeroT d) (spotN (k : Int) (xs.take k).length) x = xs.take (k + 1) := by
    rw [hs, setL_end hl.symm]
    obtain ⟨hk, e⟩ := List.getElem?_eq_some_iff.1 hx
    rw [List.take_succ_eq_append_getElem hk, e]
  have hxo : okT (d + 1) x = true := okT_part (t := rowT (d + 1) xs) h (List.mem_of_getElem? hx)
  have := set_row (t := eachRow d xs k) (i := (k : Int)) hr hxo (by omega) (by omega) (by rw [hset]; exact okT_take h (k + 1))
  rw [this, hset]
  unfold eachRow
  rw [if_neg (by omega)]
theorem putL_end {α : Type} {s : ByteArray} {x : α} : ∀ {ks : List ByteArray} {xs : List α}, ks.length = xs.length → (∀ k ∈ ks, ltB k s = true) → putL ks xs s x = ks.zip xs ++ [(s, x)]
  | [], [], _, _ => by rw [putL_nil]; rfl
  | [], _ :: _, h, _ => by simp at h
  | _ :: _, [], h, _ => by simp at h
  | k :: ks, y :: ys, h, hk => by
    rw [putL_cons, if_pos (hk k (by simp)), putL_end (by simpa using h) (fun q hq => hk q (by simp [hq])), zip_cons]
    rfl
theorem keysGo_lt : ∀ (ks : List ByteArray) (p : Option ByteArray) (k : Nat) (s : ByteArray), keysGo p ks = true → ks[k]? = some s → ∀ q ∈ ks.take k, ltB q s = true
  | [], _, _, _, _, h, _, _ => by simp at h
  | a :: r, _, 0, _, _, _, q, hq => by simp at hq
  | a :: r, p, k + 1, s, h, hs, q, hq => by
    have hs' : r[k]? = some s := by simpa using hs
    simp only [List.take_succ_cons, List.mem_cons] at hq
    rcases hq with rfl | hq
    · exact keysGo_all r q (keysGo_tail h) s (List.mem_of_getElem? hs')
    · exact keysGo_lt r _ k s (keysGo_tail h) hs' q hq
theorem each_map_step {d : Nat} {ps : List (ByteArray × Tr (d + 1))} {k : Nat} {s : ByteArray} {x : Tr (d + 1)} (h : okT (d + 2) (mapT (d + 1) ps) = true) (hx : ps[k]? = some (s, x)) : partPutT d (eachMap d ps k) s x = (eachMap d ps (k + 1), true) := by
  obtain ⟨f0, f1, f2⟩ := okT_mapT_iff.1 h
  have hlt := (List.getElem?_eq_some_iff.1 hx).1
  have hks : (ps.map Prod.fst)[k]? = some s := by rw [List.getElem?_map, hx]; rfl
  have hso := keysGo_ok _ none f0 s (List.mem_of_getElem? hks)
  have hm : mapL (d + 1) (eachMap d ps k) s = some ((ps.take k).map Prod.fst, (ps.take k).map Prod.snd) := by
    unfold eachMap
    by_cases h0 : k = 0
    · subst h0
      rw [if_pos rfl, mapL_ok (okT_zero (d + 1)) hso, if_pos (show Nd.kind (zeroT (d + 1)) = 0 from rfl)]
      simp
    · rw [if_neg h0]
      exact mapL_mapT (okT_takeM h k) hso
  have hput : putL ((ps.take k).map Prod.fst) ((ps.take k).map Prod.snd) s x = ps.take (k + 1) := by
    rw [putL_end (putL_len2 _) (fun q hq => keysGo_lt _ none k s f0 hks q (by rw [← List.map_take]; exact hq)), zip_unzip]
    obtain ⟨hk, e⟩ := List.getElem?_eq_some_iff.1 hx
    rw [List.take_succ_eq_append_getElem hk, e]
  have hxo : okT (d + 1) x = true := okT_part (t := mapT (d + 1) ps) h (List.mem_of_getElem? (l := ps.map Prod.snd) (i := k) (by rw [List.getElem?_map, hx]; rfl))
  have ho := okT_takeM h (k + 1)
  unfold partPutT
  rw [hm]
  show (if okT (d + 1) x = true then (toldT (d + 1) (mapT (d + 1) (putL ((ps.take k).map Prod.fst) ((ps.take k).map Prod.snd) s x)), okT (d + 2) (mapT (d + 1) (putL ((ps.take k).map Prod.fst) ((ps.take k).map Prod.snd) s x))) else (zeroT (d + 1), false)) = _
  rw [if_pos hxo, hput]
  unfold toldT eachMap
  rw [if_pos ho, if_neg (by omega), ho]
/-- What is put into nothing is there alone. -/
theorem none_put {d : Nat} {s : ByteArray} {x : Tr (d + 1)} (h : (partPutT d (zeroT (d + 1)) s x).2 = true) : Nd.list (partPutT d (zeroT (d + 1)) s x).1 = [x] := by
  obtain ⟨keys, xs, hm, hx, he, ho⟩ := put_ok h
  obtain ⟨_, _, _, _, hc⟩ := mapL_some hm
  rcases hc with ⟨_, rfl, rfl⟩ | ⟨h6, _, _⟩
  · rw [he, putL_nil]
    rfl
  · cases h6
theorem none_set {d : Nat} {x : Tr (d + 1)} (h : (partSetT d (zeroT (d + 1)) 0 x).2 = true) : Nd.list (partSetT d (zeroT (d + 1)) 0 x).1 = [x] := by
  obtain ⟨xs, hr, hx, h1, h2, he, ho⟩ := set_ok h
  obtain ⟨_, hc⟩ := rowL_cases hr
  rcases hc with ⟨_, rfl⟩ | ⟨h5, _⟩
  · rw [he]
    rfl
  · cases h5
theorem none_get (d : Nat) {s : ByteArray} (hs : strOk s = true) : partGetT d (zeroT (d + 1)) s = (zeroT d, true) := by
  unfold partGetT
  rw [if_pos ⟨okT_zero (d + 1), hs⟩]
  rfl
end Go.Proofs.YtmibjmipndffmaaGreatDoor

/- PartGet of the model. -/
namespace Go.Proofs.YtmibjmipndffmaaGreatDoor
open Go.RowKit Go.Deep

end Go.Proofs.YtmibjmipndffmaaGreatDoor

/- PartGet of the model : the answer owns its memory. -/
namespace Go.Proofs.YtmibjmipndffmaaGreatDoor
open Go.RowKit Go.Deep

end Go.Proofs.YtmibjmipndffmaaGreatDoor

/- PartAt of the model. -/
namespace Go.Proofs.YtmibjmipndffmaaGreatDoor
open Go.RowKit Go.Deep

end Go.Proofs.YtmibjmipndffmaaGreatDoor

/- PartAt of the model : the answer owns its memory. -/
namespace Go.Proofs.YtmibjmipndffmaaGreatDoor
open Go.RowKit Go.Deep

end Go.Proofs.YtmibjmipndffmaaGreatDoor

/- PartLen of the model and of the program. -/
namespace Go.Proofs.YtmibjmipndffmaaGreatDoor
open Go.RowKit Go.Deep

/-- How long a tree is. -/
def lenT (d : Nat) (t : Tr (d + 1)) : Option Int :=
  if Nd.kind t = 0 then some 0 else if Nd.kind t = 3 then some (max (Nd.num t) (-(Nd.num t))) else if Nd.kind t = 4 then some (Nd.str t).size
  else if Nd.kind t = 5 ∨ Nd.kind t = 6 then some (Nd.list t).length else none
def partLenT (d : Nat) (t : Tr (d + 1)) : Tr (d + 1) × Bool := if okT (d + 1) t = true then (match lenT d t with | some n => (numT d n, true) | none => (zeroT d, false)) else (zeroT d, false)

/-- How many entries a map has. -/
theorem run_len_map (w : World) (r clock : Nat) (es : Array MapEntry) (ty : TypeId) (hb : w.heap[r]? = some (.map es clock)) :
    (Builtin.len_ #[87] ty #[.map (some r)]).run Tryz.prog w = .ok (.int .i64 es.size) w := by
  simp [Builtin.len_, run_underlying Tryz.underlying87, getObj, Sem.run, hb, goInt]

/-- What lengthOf is asked to give. -/
def LenQ (d : Nat) (t : Tr (d + 1)) (w : World) (e : Ending) (w' : World) : Prop :=
  Below w.heap.size w w' ∧ (if okT (d + 1) t = true then (match lenT d t with
    | some n => e = .returned (.tuple #[.iface 157 (.agg #[.int .i64 n]), .nilIface])
    | none => ∃ why, e = .returned (.tuple #[.nilIface, faultV why])) else ∃ why, e = .returned (.tuple #[.nilIface, faultV why]))

theorem lenT_bd {d : Nat} {t : Tr (d + 1)} (h : okT (d + 1) t = true) {n : Int} (hn : lenT d t = some n) : -1000000 ≤ n ∧ n ≤ 1000000 := by
  obtain ⟨hk, hl, _⟩ := okT_kinds h
  unfold lenT at hn
  split at hn
  · cases hn; omega
  split at hn
  · cases hn; omega
  split at hn
  · cases hn; omega
  split at hn
  · cases hn; omega
  · cases hn

end Go.Proofs.YtmibjmipndffmaaGreatDoor
