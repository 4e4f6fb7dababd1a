/- Texts of the proof, put together by program: WDrawK, WDrawL, WPutR, WPutI, WPutU, WPutUo. -/
import Derived.Test.YtoangpfmjohhmaaGreatDoorQ18
import Derived.Test.YtoangpfmjohhmaaGreatDoorQ8
import Derived.Test.YtoangpfmjohhmaaGreatDoorQ13
import Derived.Test.YtoangpfmjohhmaaGreatDoorQ12
import Derived.Test.YtoangpfmjohhmaaGreatDoorQ14
/- What the laws of chapter 2 draw: a tree, beside a key or a place. -/
namespace Go.Proofs.YtoangpfmjohhmaaGreatDoor
open Go.RowKit Go.Deep

/-- The keys that are drawn. -/
def drawKeys : List ByteArray := [⟨#[97]⟩, ⟨#[98]⟩, ⟨#[99]⟩, ⟨#[97]⟩, ⟨#[98]⟩, ⟨#[100]⟩, ⟨#[]⟩, ⟨#[65]⟩, ⟨#[122, 122]⟩]
theorem drawKeys_size {s : ByteArray} (h : s ∈ drawKeys) : s.size ≤ 2 := by
  have : ∀ y ∈ drawKeys, y.size ≤ 2 := by decide
  exact this s h

/-- The tree that was drawn lies in the result's own cells. -/
theorem treeD_end {w wX : World} {t : Tr 11} {v0 v1 v2 v3 v4 : Value} (hv : ValAt (FreshQ w wX) wX 11 t (.agg #[v0, v1, v2, v3, v4])) (hb : Below w.heap.size w wX) :
    ∀ wF, wF = set5 wX w.heap.size 0 v0 v1 v2 v3 v4 → ValAt (FreshP w wF) wF 11 t (.agg #[v0, v1, v2, v3, v4]) ∧ Below w.heap.size w wF := by
  intro wF hF
  have hs : ∀ b, b ≠ w.heap.size → wF.heap[b]? = wX.heap[b]? := fun b hb' => by rw [hF]; exact set5_block _ _ _ _ _ _ _ _ _ hb'
  have hz : wF.heap.size = wX.heap.size := by rw [hF]; exact set5_size _ _ _ _ _ _ _ _
  have hl : Below w.heap.size w wF := by rw [hF]; exact below_set5 hb (Nat.le_refl _) _ _ _ _ _ _
  refine ⟨ValAt.moved (fun b hb' => hs b (by have := hb'.1; omega)) (fun b hb' => ?_) 11 t _ hv, hl⟩
  exact ⟨⟨Nat.le_of_lt hb'.1, by rw [hz]; exact hb'.2.1⟩, hb'.2.2.of_block (hs b (by have := hb'.1; omega))⟩

/-- The places that are drawn. -/
def drawAts : List Int := [0, 1, 2, -1, -2, 5, -5, 100]

end Go.Proofs.YtoangpfmjohhmaaGreatDoor

/- What the laws of chapter 2 draw: two trees, with a key or a place between. -/
namespace Go.Proofs.YtoangpfmjohhmaaGreatDoor
open Go.RowKit Go.Deep

/-- Plain blocks from lo on, but for one. -/
def FreshZ (lo vb : Nat) (w : World) (b : Nat) : Prop := lo ≤ b ∧ b < w.heap.size ∧ Plain w b ∧ b ≠ vb
theorem FreshZ.but {lo vb r d : Nat} {w w' : World} {t : Tr d} {u : Value} (h : ValAt (FreshZ lo vb w) w d t u) (hb : But r w w') (hr : r < lo) : ValAt (FreshZ lo vb w') w' d t u := by
  have hs : Same (FreshZ lo vb w) w w' := fun b hb' => hb.block b hb'.2.1 (fun e => by have := hb'.1; cases e; omega)
  exact ValAt.moved hs (fun b hb' => ⟨hb'.1, Nat.lt_of_lt_of_le hb'.2.1 hb.size, hb'.2.2.1.of_block (hs b hb'), hb'.2.2.2⟩) d t u h
theorem FreshZ.turn {lo vb d : Nat} {w w' : World} {t : Tr d} {u : Value} (h : ValAt (FreshZ lo vb w) w d t u) (ht : Turn (fun b => b = vb) w w') : ValAt (FreshZ lo vb w') w' d t u := by
  have hs : Same (FreshZ lo vb w) w w' := fun b hb' => ht.block b hb'.2.1 (fun e => hb'.2.2.2 e)
  exact ValAt.moved hs (fun b hb' => ⟨hb'.1, Nat.lt_of_lt_of_le hb'.2.1 ht.size, hb'.2.2.1.of_block (hs b hb'), hb'.2.2.2⟩) d t u h
theorem FreshZ.new {lo vb d : Nat} {wA wB : World} {t : Tr d} {u : Value} (h : ValAt (FreshP wA wB) wB d t u) (hl : lo ≤ wA.heap.size) (hv : vb < wA.heap.size) : ValAt (FreshZ lo vb wB) wB d t u :=
  h.mono (fun b hb => ⟨Nat.le_trans hl hb.1.1, hb.1.2, hb.2, by have := hb.1.1; omega⟩)

/-- What stands while the first tree is drawn anew. -/
structure PutL (w wr : World) (r lo vb p : Nat) (c0 c1 c2 c3 c4 : Value) (t : Tr 10) : Prop where
  var : Blk5 wr vb 26 c0 c1 c2 c3 c4
  r1 : Blk5 wr w.heap.size 26 (.int .i64 0) (.int .i64 0) (.string { data := #[] }) (.slice none 0 0) (.slice none 0 0)
  r2 : Blk5 wr (w.heap.size + 1) 26 (.int .i64 0) (.int .i64 0) (.string { data := #[] }) (.slice none 0 0) (.slice none 0 0)
  rd : Rd wr r p
  val : ValAt (FreshZ lo vb wr) wr 10 t (.agg #[c0, c1, c2, c3, c4])
  wt : wtT 10 t ≤ 360
  bel : Below w.heap.size w wr
  hr : w.heap.size + 1 < r
  hlo : r < lo
  hvb : lo ≤ vb

theorem PutL.but {w wr wX : World} {r lo vb p p' : Nat} {c0 c1 c2 c3 c4 : Value} {t : Tr 10} (h : PutL w wr r lo vb p c0 c1 c2 c3 c4 t) (hb : But r wr wX) (hR : Rd wX r p') : PutL w wX r lo vb p' c0 c1 c2 c3 c4 t :=
  ⟨h.var.butr hb (by have := h.hlo; have := h.hvb; omega), h.r1.butr hb (by have := h.hr; omega), h.r2.butr hb (by have := h.hr; omega), hR, FreshZ.but h.val hb h.hlo, h.wt, but_below h.bel hb (by have := h.hr; omega) h.bel.size, h.hr, h.hlo, h.hvb⟩

/-- Another tree in the variable. -/
theorem PutL.next {w wr wX wF : World} {r lo vb p p' : Nat} {c0 c1 c2 c3 c4 u0 u1 u2 u3 u4 : Value} {t t' : Tr 10} (h : PutL w wr r lo vb p c0 c1 c2 c3 c4 t) (hb : But r wr wX) (hR : Rd wX r p') (hv : ValAt (FreshP wr wX) wX 10 t' (.agg #[u0, u1, u2, u3, u4])) (hw : wtT 10 t' ≤ 360)
    (hF : wF = set5 wX vb 0 u0 u1 u2 u3 u4) : PutL w wF r lo vb p' u0 u1 u2 u3 u4 t' := by
  have h' := h.but hb hR
  have h1 := h.hr
  have h2 := h.hlo
  have h3 := h.hvb
  have hs : ∀ b, b ≠ vb → wF.heap[b]? = wX.heap[b]? := fun b hb' => by rw [hF]; exact set5_block _ _ _ _ _ _ _ _ _ hb'
  have hz : wF.heap.size = wX.heap.size := by rw [hF]; exact set5_size _ _ _ _ _ _ _ _
  have hl : Below w.heap.size w wF := by rw [hF]; exact below_set5 h'.bel (by omega) _ _ _ _ _ _
  have hl2 : Below vb wX wF := by rw [hF]; exact below_set5 (Below.refl _ _) (Nat.le_refl _) _ _ _ _ _ _
  have ht : Turn (fun b => b = vb) wX wF := ⟨hl2.os, hl2.tape, hl2.output, hl2.size, fun b _ hn => hs b hn⟩
  refine ⟨?_, h'.r1.of_block (hs _ (by omega)), h'.r2.of_block (hs _ (by omega)), ?_, FreshZ.turn (FreshZ.new hv (Nat.le_trans h3 (Nat.le_of_lt h.var.lt)) h.var.lt) ht, hw, hl, h1, h2, h3⟩
  · rw [hF]; exact blk_set5 h'.var _ _ _ _ _
  · obtain ⟨a, n, cap, e1, e2, e3⟩ := hR
    exact ⟨a, n, cap, (hs r (by omega)).trans e1, e2, e3.moved (fun b hb' => hs b (by omega))⟩

/-- The places that are drawn for what is set. -/
def drawSets : List Int := [0, 1, 2, -1, -2, 5, 60, -9, 59]

end Go.Proofs.YtoangpfmjohhmaaGreatDoor

/- partsByKeys: the map owns its memory; a map's update. -/
namespace Go.Proofs.YtoangpfmjohhmaaGreatDoor
open Go.RowKit Go.Deep

/-- A map of the program's own trees that owns its memory: its trees lie in blocks from N on, not in the map's own. -/
structure MapO {d : Nat} (N : Nat) (w : World) (r : Nat) (es : Array MapEntry) (keys : List ByteArray) (xs : List (Tr d)) : Prop where
  len : xs.length ≤ 60
  good : keysB keys = true
  same : keys.length = xs.length
  ge : N ≤ r
  obj : w.heap[r]? = some (.map es keys.length)
  ent : MapG (TreeG (fun b => N ≤ b ∧ b < w.heap.size ∧ b ≠ r) w d) es (keys.zip xs)

theorem okT_map {d : Nat} {keys : List ByteArray} {xs : List (Tr d)} (h : okT (d + 1) (Nd.mk 6 0 ByteArray.empty keys xs : Nd (Tr d)) = true) : ∀ x ∈ xs, formT d x 5 = true ∧ manyT d x 5 ≤ 60 := by
  obtain ⟨hf, hm⟩ := okT_form h
  have hmm : manyT (d + 1) (Nd.mk 6 0 ByteArray.empty keys xs : Nd (Tr d)) 6 = 1 + (xs.map (fun x => manyT d x (6 - 1))).sum := rfl
  rw [hmm] at hm
  cases hb : headBad 6 0 ByteArray.empty keys.length xs.length 6 with
  | true => rw [formT_bad hb] at hf; cases hf
  | false =>
    rw [formT_good hb] at hf
    rw [if_neg (by omega), if_neg (by omega), if_neg (by omega), if_pos rfl] at hf
    simp only [Bool.and_eq_true] at hf
    intro x hx
    have h1 := many_mem (d := d) (deep := 6 - 1) hx
    exact ⟨List.all_eq_true.1 hf.2 x hx, by have h2 : manyT d x 5 = manyT d x (6 - 1) := rfl; omega⟩
theorem mapG_of {d : Nat} {S : Nat → Prop} {w : World} {es : Array MapEntry} {keys : List ByteArray} {xs : List (Tr d)} (hf : ∀ x ∈ xs, formT d x 5 = true ∧ manyT d x 5 ≤ 60) (h : MapIs (TreeAt S w d) es keys xs) : MapG (TreeG S w d) es (keys.zip xs) := by
  obtain ⟨h1, h2, h3⟩ := h
  refine ⟨by rw [List.length_zip, ← h2, Nat.min_self]; exact h1, fun i k x hp => ?_⟩
  have hp' := List.getElem?_zip_eq_some.1 hp
  obtain ⟨u, e1, e2⟩ := h3 i k x hp'.1 hp'.2
  exact ⟨u, e1, treeG_of d x 5 u (hf x (List.mem_of_getElem? hp'.2)).1 (hf x (List.mem_of_getElem? hp'.2)).2 e2⟩
theorem MapO.moved {d N r : Nat} {w w' : World} {es : Array MapEntry} {keys : List ByteArray} {xs : List (Tr d)} (h : MapO N w r es keys xs) (hb : Below w.heap.size w w') : MapO N w' r es keys xs := by
  have hz := hb.size
  exact ⟨h.len, h.good, h.same, h.ge, (hb.block r (Array.getElem?_eq_some_iff.1 h.obj).1).trans h.obj, h.ent.moved (fun x u hx => TreeG.moved (fun b hb' => hb.block b hb'.2.1) (fun b hb' => ⟨hb'.1, by have := hb'.2.1; omega, hb'.2.2⟩) d x u hx)⟩

/-- What partsByKeys is asked to give. -/
def MapOQ (d : Nat) (t : Tr (d + 1)) (s : ByteArray) (w : World) (e : Ending) (w' : World) : Prop :=
  Below w.heap.size w w' ∧ ((∃ keys xs r es, mapL d t s = some (keys, xs) ∧ e = .returned (.tuple #[.map (some r), .nilIface]) ∧ MapO w.heap.size w' r es keys xs) ∨ (mapL d t s = none ∧ ∃ why, e = .returned (.tuple #[.map none, faultV why])))

set_option maxRecDepth 100000 in
set_option maxHeartbeats 4000000 in
theorem partsByKeys_own (d : Nat) (S : Nat → Prop) (t : Tr (d + 1)) (v : Value) (s : ByteArray) (hs : s.size < 281474976710656) (w : World) (hv : ValAt S w (d + 1) t v) (hS : Within S w) :
    Calls Tryz.prog 120 #[v, .string s] w (MapOQ d t s w) := by
  obtain ⟨k, n, z, ak, lk, ck, al, ll, cl, rfl⟩ := hv.shape
  have hA := below_alloc1 w (.cells #[.int .i64 k, .int .i64 n, .string z, .slice ak lk ck, .slice al ll cl] 26)
  have hAs := hA.size
  go_enter Tryz.func120, Tryz.ntmps120
  go_wp2_with fail
  refine (given_own d S t _ _ (hv.same (hS.same hA)) (hS.later hA.size)).mono ?_
  rintro e w1 ⟨hb1, hq⟩
  have hB := below_trans hA hb1
  clear hb1 hA hv
  rcases hq with ⟨hok, u, rfl, hu, htop⟩ | ⟨hok, why, rfl⟩
  · obtain ⟨T, u', rfl⟩ := hu.iface
    go_wp2_with fail
    refine (textOk_any s w1 hs).mono ?_
    rintro e w2 ⟨rfl, hb2⟩
    have hB2 := below_trans hB hb2
    have hsz := hb2.size
    have HT := hide (htop.moved hb2 hAs)
    clear htop
    have hu2 := hu.moved ((Fresh.within (w.alloc (.cells #[.int .i64 k, .int .i64 n, .string z, .slice ak lk ck, .slice al ll cl] 26)) w1).same hb2) (S' := Fresh w w2) (fun b hb => ⟨by have := hb.1; omega, by have := hb.2; omega⟩)
    clear hu hb2 hB
    cases hstr : strOk s with
    | false =>
      have HB := hide hB2
      clear hu2 hB2
      go_wp2_with fail
      go_ret2
      exact ⟨HB.out, Or.inr ⟨mapL_no (Or.inr hstr), _, rfl⟩⟩
    | true =>
      rcases hu2 with ⟨k', h1, rfl, hT⟩ | ⟨n', h1, rfl, hT⟩ | ⟨s', h1, rfl, hT⟩ | ⟨xs, sv, h1, rfl, hT, hr⟩ | ⟨keys, xs, ps, r, es, h1, h2, h3, h4, rfl, hT, hr, hm, he⟩
      · cases hT
        have a3 := Tryz.asM_B
        go_wp2_with fail
        refine (isNothing_bare k' w2).mono ?_
        rintro e w3 ⟨rfl, hb3⟩
        have hB3 := below_trans hB2 hb3
        clear hb3 hB2
        by_cases hk0 : k' = 0
        · have hkb : (k' == 0) = true := by simpa using hk0
          have hq : Hid (mapL d (Nd.mk k' 0 ByteArray.empty [] [] : Nd (Tr d)) s = some ([], [])) := by
            refine (mapL_ok hok hstr).trans ?_
            show (if k' = 0 then _ else _) = _
            rw [if_pos hk0]
          have hA4 := below_alloc1 w3 (.map #[] 0)
          have HB := hide (below_trans hB3 hA4)
          have HM : Hid (MapO (d := d) w.heap.size (w3.alloc (.map #[] 0)) w3.heap.size #[] [] []) := ⟨by show (0 : Nat) ≤ 60; omega, rfl, rfl, hB3.size, heap_alloc_new _ _, rfl, fun i k x h => by simp at h⟩
          have hmk := fun w => run_makeMap (P := Tryz.prog) 123 w
          clear hk0 hB3 hA4
          go_wp2_with fail
          go_ret2
          exact ⟨HB.out, Or.inl ⟨[], [], _, _, hq.out, rfl, HM.out⟩⟩
        · have hkb : (k' == 0) = false := by simpa using hk0
          have hq : Hid (mapL d (Nd.mk k' 0 ByteArray.empty [] [] : Nd (Tr d)) s = none) := by
            refine (mapL_ok hok hstr).trans ?_
            show (if k' = 0 then _ else if k' = 6 then _ else _) = _
            rw [if_neg hk0, if_neg (by omega)]
          have HB := hide hB3
          clear hk0 hB3
          go_wp2_with fail
          go_ret2
          exact ⟨below_trans HB.out (below_alloc1 _ _), Or.inr ⟨hq.out, _, rfl⟩⟩
      · cases hT
        have a3 := Tryz.asM_N
        have hq : Hid (mapL d (Nd.mk 3 n' ByteArray.empty [] [] : Nd (Tr d)) s = none) := by
          exact (mapL_ok hok hstr).trans rfl
        go_wp2_with fail
        refine (isNothing_num _ w2).mono ?_
        rintro e w3 ⟨rfl, hb3⟩
        have HB := hide (below_trans hB2 hb3)
        clear hb3 hB2
        go_wp2_with fail
        go_ret2
        exact ⟨below_trans HB.out (below_alloc1 _ _), Or.inr ⟨hq.out, _, rfl⟩⟩
      · cases hT
        have a3 := Tryz.asM_S
        have hq : Hid (mapL d (Nd.mk 4 0 s' [] [] : Nd (Tr d)) s = none) := by
          exact (mapL_ok hok hstr).trans rfl
        go_wp2_with fail
        refine (isNothing_str _ w2).mono ?_
        rintro e w3 ⟨rfl, hb3⟩
        have HB := hide (below_trans hB2 hb3)
        clear hb3 hB2
        go_wp2_with fail
        go_ret2
        exact ⟨below_trans HB.out (below_alloc1 _ _), Or.inr ⟨hq.out, _, rfl⟩⟩
      · cases hT
        have a3 := Tryz.asM_R
        have hq : Hid (mapL d (Nd.mk 5 0 ByteArray.empty [] xs : Nd (Tr d)) s = none) := by
          exact (mapL_ok hok hstr).trans rfl
        go_wp2_with fail
        refine (isNothing_row _ w2).mono ?_
        rintro e w3 ⟨rfl, hb3⟩
        have HB := hide (below_trans hB2 hb3)
        clear hb3 hB2
        go_wp2_with fail
        go_ret2
        exact ⟨below_trans HB.out (below_alloc1 _ _), Or.inr ⟨hq.out, _, rfl⟩⟩
      · cases hT
        have a3 := Tryz.asM_M
        have hq : Hid (mapL d (Nd.mk 6 0 ByteArray.empty keys xs : Nd (Tr d)) s = some (keys, xs)) := by
          exact (mapL_ok hok hstr).trans rfl
        go_wp2_with fail
        refine (isNothing_map _ w2).mono ?_
        rintro e w3 ⟨rfl, hb3⟩
        have hA3 := below_alloc1 w3 (.cells #[.map (some r)] 125)
        have hb4 := below_trans hb3 hA3
        have HB := hide (below_trans hB2 hb4)
        have hmv := (Fresh.within w w2).same hb4
        have hsz4 := hb4.size
        have hfr : ∀ b, Fresh w w2 b → Fresh w (w3.alloc (.cells #[.map (some r)] 125)) b := fun b hb => ⟨hb.1, by have := hb.2; omega⟩
        have HM : Hid (∃ es', MapO w.heap.size (w3.alloc (.cells #[.map (some r)] 125)) r es' keys xs) := by
          obtain ⟨r', es', he', q1, q2, q3, q4⟩ := (HT.out.moved hb4 (Nat.le_refl _)).2 rfl
          cases he'
          exact ⟨es', (okT_kinds hok).2.1, h2, h3, q1, q3, mapG_of (okT_map hok) q4⟩
        clear hb3 hB2 hb4 hA3 hmv hfr he hm hr h4 h3 h2
        go_wp2_with fail
        go_ret2
        obtain ⟨es', hm'⟩ := HM.out
        exact ⟨HB.out, Or.inl ⟨keys, xs, r, es', hq.out, rfl, hm'⟩⟩
  · unfold faultV
    go_wp2_with fail
    go_ret2
    exact ⟨hB, Or.inr ⟨mapL_no (Or.inl hok), why, rfl⟩⟩
end Go.Proofs.YtoangpfmjohhmaaGreatDoor

/- A map's update; PartPut of the program. -/
namespace Go.Proofs.YtoangpfmjohhmaaGreatDoor
open Go.RowKit Go.Deep

theorem mapL_str {d : Nat} {t : Tr (d + 1)} {s : ByteArray} {p : List ByteArray × List (Tr d)} (h : mapL d t s = some p) : strOk s = true := by
  unfold mapL at h
  split at h
  · rename_i hh
    exact hh.2
  · cases h

/-- A tree is put at a key of a map that owns its memory. -/
theorem MapO.put {d N r : Nat} {w : World} {es : Array MapEntry} {keys : List ByteArray} {xs : List (Tr d)} {s : ByteArray} {x : Tr d} {u : Value} {S : Nat → Prop} (h : MapO N w r es keys xs) (hs : strOk s = true) (hu : TreeG S w d x u) (hS : ∀ b, S b → N ≤ b ∧ b < w.heap.size ∧ b ≠ r) :
    ∃ w', (Instr.mapUpdate 123 (.map (some r)) (.string s) u).run Tryz.prog w = .ok () w' ∧ Below N w w' ∧ TreeG (fun b => N ≤ b ∧ b < w'.heap.size) w' (d + 1) (mapT d (putL keys xs s x)) (.iface 125 (.agg #[.map (some r)])) := by
  have hrl := (Array.getElem?_eq_some_iff.1 h.obj).1
  have hsz : ∀ o, (withObj w r o).heap.size = w.heap.size := fun o => by simp [withObj]
  have hlen : (keys.zip xs).length = keys.length := by rw [List.length_zip, ← h.same, Nat.min_self]
  have hput := putL_length keys xs s x
  have hkl := h.same
  have hl60 := h.len
  have hmv : ∀ o y v, TreeG (fun b => N ≤ b ∧ b < w.heap.size ∧ b ≠ r) w d y v → TreeG (fun b => N ≤ b ∧ b < (withObj w r o).heap.size) (withObj w r o) d y v := fun o y v hy =>
    TreeG.moved (fun b hb => withObj_block w r o b hb.2.2) (fun b hb => ⟨hb.1, by rw [hsz]; exact hb.2.1⟩) d y v hy
  have hmu : ∀ o, TreeG (fun b => N ≤ b ∧ b < (withObj w r o).heap.size) (withObj w r o) d x u := fun o =>
    TreeG.moved (fun b hb => withObj_block w r o b (hS b hb).2.2) (fun b hb => ⟨(hS b hb).1, by rw [hsz]; exact (hS b hb).2.1⟩) d x u hu
  have hobj : ∀ o, (withObj w r o).heap[r]? = some o := fun o => by simp [withObj, hrl]
  have hge := h.ge
  by_cases hm : s ∈ keys
  · obtain ⟨j, y, hj, hy, hmin⟩ := key_at hm hkl
    have hzj : (keys.zip xs)[j]? = some (s, y) := List.getElem?_zip_eq_some.2 ⟨hj, hy⟩
    obtain ⟨v, hev, _⟩ := h.ent.2 j s y hzj
    have hjl := (List.getElem?_eq_some_iff.1 hj).1
    have hbefore : ∀ i' e', i' < j → es[i']? = some e' → ∃ k, e'.key = .string k ∧ k ≠ s := fun i' e' hi he => by
      obtain ⟨v', hv', _⟩ := h.ent.2 i' _ _ (List.getElem?_zip_eq_some.2 ⟨List.getElem?_eq_getElem (by omega : i' < keys.length), List.getElem?_eq_getElem (by omega : i' < xs.length)⟩)
      rw [he] at hv'
      cases hv'
      exact ⟨_, rfl, fun e => hmin i' hi (by rw [List.getElem?_eq_getElem (by omega : i' < keys.length), e])⟩
    have hth : putL keys xs s x = (keys.zip xs).set j (s, x) := putL_there (p := none) hkl h.good hj
    refine ⟨_, run_mapSet w r keys.length j es s u v j h.obj hev hbefore, below_withObj _ _ hge, Or.inr (Or.inr (Or.inr (Or.inr ⟨_, _, putL keys xs s x, r, es.modify j fun e => { e with key := .string s, val := u }, ?_, ?_, ?_, ?_, rfl, rfl, ⟨hge, by rw [hsz]; exact hrl⟩, ?_, ?_⟩)))⟩
    · rw [List.length_map]; omega
    · exact putL_keys hs hkl h.good (fun q e => by cases e)
    · rw [List.length_map, List.length_map]
    · rw [zip_unzip]
    · rw [hobj, hth, List.length_set, hlen]
    · rw [hth]
      refine ⟨by rw [Array.size_modify, List.length_set]; exact h.ent.1, fun i k z hi => ?_⟩
      by_cases e : j = i
      · subst e
        rw [List.getElem?_set_self (by omega)] at hi
        cases hi
        exact ⟨u, by simp [Array.getElem?_modify, hev], hmu _⟩
      · rw [List.getElem?_set_ne e] at hi
        obtain ⟨v', hv', ha⟩ := h.ent.2 i k z hi
        exact ⟨v', by rw [Array.getElem?_modify, if_neg e]; exact hv', hmv _ _ _ ha⟩
  · have hmiss := h.ent.miss (s := s) (by rw [zip_fst _ _ hkl]; exact hm)
    have hp := putL_new (x := x) hkl hm
    have hpl := hp.length_eq
    rw [List.length_append, hlen, List.length_singleton] at hpl
    refine ⟨_, run_mapPush w r keys.length es s u h.obj hmiss, below_withObj _ _ hge, Or.inr (Or.inr (Or.inr (Or.inr ⟨_, _, (keys.zip xs) ++ [(s, x)], r, es.push ⟨.string s, u, keys.length⟩, ?_, ?_, ?_, ?_, rfl, rfl, ⟨hge, by rw [hsz]; exact hrl⟩, ?_, ?_⟩)))⟩
    · rw [List.length_map]; omega
    · exact putL_keys hs hkl h.good (fun q e => by cases e)
    · rw [List.length_map, List.length_map]
    · rw [zip_unzip]; exact hp
    · rw [hobj, List.length_append, hlen, List.length_singleton]
    · refine ⟨by rw [Array.size_push, List.length_append, List.length_singleton, h.ent.1], fun i k z hi => ?_⟩
      have hes : es.size = keys.length := h.ent.1.trans hlen
      by_cases e : i < keys.length
      · rw [List.getElem?_append_left (by omega)] at hi
        obtain ⟨v', hv', ha⟩ := h.ent.2 i k z hi
        exact ⟨v', by rw [Array.getElem?_push, if_neg (by omega)]; exact hv', hmv _ _ _ ha⟩
      · have hil := (List.getElem?_eq_some_iff.1 hi).1
        rw [List.length_append, hlen, List.length_singleton] at hil
        obtain rfl : i = keys.length := by omega
        rw [List.getElem?_append_right (by omega), hlen, Nat.sub_self] at hi
        cases hi
        exact ⟨u, by rw [Array.getElem?_push, if_pos hes.symm], hmu _⟩

set_option maxRecDepth 100000 in
set_option maxHeartbeats 4000000 in
theorem implPartPut_any (d : Nat) (S : Nat → Prop) (t : Tr (d + 2)) (v : Value) (s0 : ByteArray) (hs0 : s0.size < 281474976710656) (S2 : Nat → Prop) (x : Tr (d + 1)) (xv : Value) (w : World) (hv : ValAt S w (d + 2) t v) (hS : Within S w) (hx : ValAt S2 w (d + 1) x xv) (hS2 : Within S2 w) (hg : ErrType w) :
    Calls Tryz.prog 96 #[v, .string s0, xv] w (TellQ (d + 1) (partPutT d t s0 x).1 (partPutT d t s0 x).2 w) := by
  obtain ⟨k, n, s, ak, lk, ck, al, ll, cl, rfl⟩ := hv.shape
  obtain ⟨k', n', s', ak', lk', ck', al', ll', cl', rfl⟩ := hx.shape
  obtain ⟨k0, k1, k2, hW0, hsz0⟩ := laid3 w 26 26 26 (.int .i64 k) (.int .i64 n) (.string s) (.slice ak lk ck) (.slice al ll cl) (.int .i64 k') (.int .i64 n') (.string s') (.slice ak' lk' ck') (.slice al' ll' cl') (.int .i64 0) (.int .i64 0) (.string { data := #[] }) (.slice none 0 0) (.slice none 0 0)
  obtain ⟨W0, hW⟩ : ∃ W0, W0 = ((w.alloc (.cells #[.int .i64 k, .int .i64 n, .string s, .slice ak lk ck, .slice al ll cl] 26)).alloc (.cells #[.int .i64 k', .int .i64 n', .string s', .slice ak' lk' ck', .slice al' ll' cl'] 26)).alloc (.cells #[.int .i64 0, .int .i64 0, .string { data := #[] }, .slice none 0 0, .slice none 0 0] 26) := ⟨_, rfl⟩
  rw [← hW] at k0 k1 k2 hW0 hsz0
  have HW := hide hW
  clear hW k0
  go_enter Tryz.func96, Tryz.ntmps96
  go_wp2_with fail
  rw [← HW.out]
  clear HW
  refine (partsByKeys_own (d + 1) S t _ s0 hs0 W0 (hv.same (hS.same hW0)) (hS.later hW0.size)).mono ?_
  rintro e w1 ⟨hb1, hq⟩
  have hB1 := below_trans hW0 hb1
  replace k1 := k1.below hb1
  replace k2 := k2.below hb1
  have hg1 := hg.below hB1
  have hs1 := hb1.size
  -- what is told, however it is
  have hfin : ∀ (w1' : World), Below W0.heap.size w1 w1' → ∀ (y : Tr (d + 2)) (ok : Bool), Hid (∀ e w2, TellQ (d + 1) y ok w1' e w2 → ∃ v0 v1 v2 v3 v4 v5 v6 v7 v8, e = .returned (.tuple #[.agg #[.int .i64 v0, .int .i64 v1, .string v2, .slice v3 v4 v5, .slice v6 v7 v8], .bool ok]) ∧
      Blk5 w2 (w.heap.size + 1 + 1) 26 (.int .i64 0) (.int .i64 0) (.string { data := #[] }) (.slice none 0 0) (.slice none 0 0) ∧
      ∀ wF, wF = set5 w2 (w.heap.size + 1 + 1) 0 (.int .i64 v0) (.int .i64 v1) (.string v2) (.slice v3 v4 v5) (.slice v6 v7 v8) → ValOwn wF (d + 2) (Fresh w wF) y (.agg #[.int .i64 v0, .int .i64 v1, .string v2, .slice v3 v4 v5, .slice v6 v7 v8]) ∧ Below w.heap.size w wF) := fun w1' hb' y ok => by
    intro e w2 ⟨v, he, hv, hb2⟩
    obtain ⟨v0, v1, v2, v3, v4, v5, v6, v7, v8, rfl⟩ := (ValOwn.at _ _ _ _ hv).shape
    have hbw : Below w.heap.size w w1' := hB1.trans (hb'.mono (by omega))
    have hk : Blk5 w1' (w.heap.size + 1 + 1) 26 (.int .i64 0) (.int .i64 0) (.string { data := #[] }) (.slice none 0 0) (.slice none 0 0) := k2.of_block (hb'.block _ (by omega))
    exact ⟨v0, v1, v2, v3, v4, v5, v6, v7, v8, he, hk.below hb2, tell_end hv (below_trans hbw hb2) (by omega) (by have := hb'.size; omega)⟩
  clear hv hW0 k2
  rcases hq with ⟨keys, xs, r, es, hrow, rfl, hgto⟩ | ⟨hrow, why, rfl⟩
  · obtain ⟨x0, x1, x2, x3, x4⟩ := k1.cell
    have HG := hide hgto
    have HROW := hide hrow
    have HSTR := hide (mapL_str hrow)
    clear hgto hrow
    go_wp2_with fail
    refine (given_any (d + 1) S2 x _ w1 (hx.same (hS2.same hB1)) (hS2.later hB1.size)).mono ?_
    rintro e w2 ⟨hb2, hq⟩
    have hgt2 := hide (HG.out.moved hb2)
    have hbN2 : Below W0.heap.size w1 w2 := hb2.mono hs1
    have hs2 := hb2.size
    have hg2 := hg1.below hb2
    clear x0 x1 x2 x3 x4
    rcases hq with ⟨hok, u, rfl, hu⟩ | ⟨hok, why, rfl⟩
    · obtain ⟨T, u', rfl⟩ := hu.iface
      have hrl : r < w1.heap.size := (Array.getElem?_eq_some_iff.1 HG.out.obj).1
      obtain ⟨w3, hrun, hb3, hu3⟩ := hgt2.out.put (x := x) (u := .iface T u') (S := Fresh w1 w2) HSTR.out hu (fun b hb => ⟨by have := hb.1; omega, hb.2, by have := hb.1; omega⟩)
      have hbN3 := Below.trans hbN2 hb3
      have HR : Hid (partPutT d t s0 x = (toldT (d + 1) (mapT (d + 1) (putL keys xs s0 x)), okT (d + 2) (mapT (d + 1) (putL keys xs s0 x)))) := by
        show partPutT d t s0 x = _
        unfold partPutT
        rw [HROW.out]
        exact if_pos hok
      have hcall := hide (told_tree (d + 1) _ _ _ w3 hu3 (fun b hb => hb.2))
      clear hu hu3 hgt2 HG hb2 HROW hb3
      go_wp2_with fail
      refine Calls.mono hcall.out ?_
      intro e w4 hq
      obtain ⟨v0, v1, v2, v3, v4, v5, v6, v7, v8, rfl, k3, hF⟩ := (hfin w3 hbN3 _ _).out e w4 hq
      have HF := hide hF
      obtain ⟨y0, y1, y2, y3, y4⟩ := k3.cell
      have yf := k3.frozen
      clear hF hq hfin hcall k3
      go_wp2_with fail
      refine bodyPost_ret (v := .tuple #[.agg #[.int .i64 v0, .int .i64 v1, .string v2, .slice v3 v4 v5, .slice v6 v7 v8], .bool (okT (d + 2) (mapT (d + 1) (putL keys xs s0 x)))]) (by simp [results, Tryz.results96, go_sem, y0, y1, y2, y3, y4]) rfl ⟨_, by rw [HR.out], by rw [HR.out]; exact (HF.out _ rfl).1, (HF.out _ rfl).2⟩
    · have HR : Hid (partPutT d t s0 x = (zeroT (d + 1), false)) := by
        show partPutT d t s0 x = _
        unfold partPutT
        rw [HROW.out]
        exact if_neg (by rw [hok]; simp)
      have hcall := hide (told_fault (d + 1) .nilIface why w2 hg2)
      unfold faultV
      clear HROW hgt2 HG
      go_wp2_with fail
      refine Calls.mono hcall.out ?_
      intro e w4 hq
      obtain ⟨v0, v1, v2, v3, v4, v5, v6, v7, v8, rfl, k3, hF⟩ := (hfin w2 hbN2 _ _).out e w4 hq
      have HF := hide hF
      obtain ⟨y0, y1, y2, y3, y4⟩ := k3.cell
      have yf := k3.frozen
      clear hF hq hfin hcall k3
      go_wp2_with fail
      refine bodyPost_ret (v := .tuple #[.agg #[.int .i64 v0, .int .i64 v1, .string v2, .slice v3 v4 v5, .slice v6 v7 v8], .bool false]) (by simp [results, Tryz.results96, go_sem, y0, y1, y2, y3, y4]) rfl ⟨_, by rw [HR.out], by rw [HR.out]; exact (HF.out _ rfl).1, (HF.out _ rfl).2⟩
  · have HR : Hid (partPutT d t s0 x = (zeroT (d + 1), false)) := by
      show partPutT d t s0 x = _
      unfold partPutT
      rw [hrow]
    have hcall := hide (told_fault (d + 1) .nilIface why w1 hg1)
    unfold faultV
    clear hrow k1
    go_wp2_with fail
    refine Calls.mono hcall.out ?_
    intro e w2 hq
    obtain ⟨v0, v1, v2, v3, v4, v5, v6, v7, v8, rfl, k3, hF⟩ := (hfin w1 (Below.refl _ _) _ _).out e w2 hq
    have HF := hide hF
    obtain ⟨y0, y1, y2, y3, y4⟩ := k3.cell
    have yf := k3.frozen
    clear hF hq hfin hcall k3
    go_wp2_with fail
    refine bodyPost_ret (v := .tuple #[.agg #[.int .i64 v0, .int .i64 v1, .string v2, .slice v3 v4 v5, .slice v6 v7 v8], .bool false]) (by simp [results, Tryz.results96, go_sem, y0, y1, y2, y3, y4]) rfl ⟨_, by rw [HR.out], by rw [HR.out]; exact (HF.out _ rfl).1, (HF.out _ rfl).2⟩
end Go.Proofs.YtoangpfmjohhmaaGreatDoor

/- PartPut of the model. -/
namespace Go.Proofs.YtoangpfmjohhmaaGreatDoor
open Go.RowKit Go.Deep

theorem mapL_eq {d : Nat} {t : Tr (d + 1)} {s : ByteArray} (h : okT (d + 1) t = true) (hs : strOk s = true) (hk : Nd.kind t = 0 ∨ Nd.kind t = 6) : mapL d t s = some (Nd.keys t, Nd.list t) ∧ (Nd.keys t).length = (Nd.list t).length ∧ keysB (Nd.keys t) = true := by
  rw [mapL_ok h hs]
  obtain ⟨hf, _⟩ := okT_form h
  obtain ⟨kind, num, str, keys, list⟩ := t
  cases hb : headBad kind num str keys.length list.length 6 with
  | true => rw [formT_bad hb] at hf; cases hf
  | false =>
    obtain ⟨_, _, _, g3, g4⟩ := headBad_iff.1 hb
    rcases hk with h0 | h6
    · have h0 : kind = 0 := h0
      subst h0
      have e1 := List.eq_nil_of_length_eq_zero (g3 (by omega))
      have e2 := List.eq_nil_of_length_eq_zero (g4 (by omega))
      subst e1 e2
      exact ⟨rfl, rfl, rfl⟩
    · have h6 : kind = 6 := h6
      subst h6
      rw [formT_good hb] at hf
      simp at hf
      exact ⟨rfl, hf.1.1, hf.1.2⟩
theorem partPut_not {d : Nat} {t : Tr (d + 2)} {s : ByteArray} {x : Tr (d + 1)} (h : mapL (d + 1) t s = none) : partPutT d t s x = (zeroT (d + 1), false) := by
  unfold partPutT
  rw [h]
theorem partPut_badx {d : Nat} {t : Tr (d + 2)} {s : ByteArray} {x : Tr (d + 1)} (hx : okT (d + 1) x = false) : partPutT d t s x = (zeroT (d + 1), false) := by
  unfold partPutT
  split
  · rfl
  · rw [if_neg (by rw [hx]; simp)]
theorem partPut_does {d : Nat} {t : Tr (d + 2)} {s : ByteArray} {x : Tr (d + 1)} {ks : List ByteArray} {xs : List (Tr (d + 1))} (h : mapL (d + 1) t s = some (ks, xs)) (hx : okT (d + 1) x = true) : partPutT d t s x = (toldT (d + 1) (mapT (d + 1) (putL ks xs s x)), okT (d + 2) (mapT (d + 1) (putL ks xs s x))) := by
  unfold partPutT
  rw [h]
  show (if okT (d + 1) x = true then _ else _) = _
  rw [if_pos hx]
theorem partPut_kind {d : Nat} {t : Tr (d + 2)} {s : ByteArray} {x : Tr (d + 1)} (h : okT (d + 2) t = true) (h0 : Nd.kind t ≠ 0) (h6 : Nd.kind t ≠ 6) : partPutT d t s x = (zeroT (d + 1), false) := by
  cases hs : strOk s with
  | false => exact partPut_not (mapL_no (Or.inr hs))
  | true => exact partPut_not (by rw [mapL_ok h hs, if_neg h0, if_neg h6])
theorem mem_putL {α : Type} {s : ByteArray} {x : α} : ∀ {ks : List ByteArray} {xs : List α} {p : ByteArray × α}, p ∈ putL ks xs s x → p ∈ ks.zip xs ∨ p = (s, x)
  | [], _, p, h => by rw [putL] at h; exact Or.inr (List.mem_singleton.1 h)
  | _ :: _, [], p, h => by rw [putL] at h; exact Or.inr (List.mem_singleton.1 h)
  | k :: ks, y :: ys, p, h => by
    rw [putL] at h
    rw [zip_cons]
    split at h
    · rcases List.mem_cons.1 h with h | h
      · exact Or.inl (by rw [h]; exact List.mem_cons_self ..)
      · rcases mem_putL h with h | h
        · exact Or.inl (List.mem_cons_of_mem _ h)
        · exact Or.inr h
    · split at h
      · rcases List.mem_cons.1 h with h | h
        · exact Or.inr h
        · exact Or.inl (List.mem_cons_of_mem _ h)
      · rcases List.mem_cons.1 h with h | h
        · exact Or.inr h
        · exact Or.inl h
theorem nodes_put {d : Nat} {ks : List ByteArray} {xs : List (Tr (d + 1))} {s : ByteArray} {x : Tr (d + 1)} (hxs : ∀ y ∈ xs, okT (d + 1) y = true) (hx : okT (d + 1) x = true) (hl : ks.length ≤ 1000) : (nodes (d + 2) (mapT (d + 1) (putL ks xs s x)) : Int) ≤ 4194304 := by
  have h1 : ∀ y ∈ (putL ks xs s x).map Prod.snd, nodes (d + 1) y ≤ 300 := fun y hy => by
    obtain ⟨p, hp, rfl⟩ := List.mem_map.1 hy
    rcases mem_putL hp with h | h
    · exact nodes_ok (hxs _ (List.of_mem_zip (show (p.1, p.2) ∈ ks.zip xs from h)).2)
    · rw [h]; exact nodes_ok hx
  have h2 := sum_le_of h1
  have h3 := putL_length ks xs s x
  have h4 : nodes (d + 2) (mapT (d + 1) (putL ks xs s x)) = 1 + (((putL ks xs s x).map Prod.snd).map (nodes (d + 1))).sum := rfl
  rw [List.length_map] at h2
  rw [h4]
  omega

set_option maxRecDepth 100000 in
set_option maxHeartbeats 4000000 in
theorem specPartPut_any (d : Nat) (S : Nat → Prop) (t : Tr (d + 2)) (v : Value) (s0 : ByteArray) (hs0 : s0.size < 281474976710656) (S2 : Nat → Prop) (x : Tr (d + 1)) (xv : Value) (w : World) (hv : ValAt S w (d + 2) t v) (hS : Within S w) (hx : ValAt S2 w (d + 1) x xv) (hS2 : Within S2 w) (hsm : (nodes (d + 2) t : Int) ≤ 4194304) (hsx : (nodes (d + 1) x : Int) ≤ 4194304) :
    Calls Tryz.prog 92 #[v, .string s0, xv] w (SpecQ (d + 1) (partPutT d t s0 x).1 (partPutT d t s0 x).2 w) := by
  have hv0 := hv
  obtain ⟨vk, vl, rfl, i1, i2, i3, hk, hl⟩ := hv
  obtain ⟨ak, ck, rfl, hkl⟩ := hk.open'
  obtain ⟨al, cl, rfl, hll⟩ := hl.open'
  obtain ⟨k', n', s', ak', lk', ck', al', ll', cl', rfl⟩ := hx.shape
  obtain ⟨k0, k1, k2, hW0, hsz0⟩ := laid3 w 26 26 26 (.int .i64 t.kind) (.int .i64 t.num) (.string t.str) (.slice ak t.keys.length ck) (.slice al t.list.length cl) (.int .i64 k') (.int .i64 n') (.string s') (.slice ak' lk' ck') (.slice al' ll' cl') (.int .i64 0) (.int .i64 0) (.string { data := #[] }) (.slice none 0 0) (.slice none 0 0)
  obtain ⟨W0, hW⟩ : ∃ W0, W0 = ((w.alloc (.cells #[.int .i64 t.kind, .int .i64 t.num, .string t.str, .slice ak t.keys.length ck, .slice al t.list.length cl] 26)).alloc (.cells #[.int .i64 k', .int .i64 n', .string s', .slice ak' lk' ck', .slice al' ll' cl'] 26)).alloc (.cells #[.int .i64 0, .int .i64 0, .string { data := #[] }, .slice none 0 0, .slice none 0 0] 26) := ⟨_, rfl⟩
  rw [← hW] at k0 k1 k2 hW0 hsz0
  have HW := hide hW
  have HSZ := hide hsz0
  clear hW hk hl hsz0
  go_enter Tryz.func92, Tryz.ntmps92
  go_wp2_with fail
  rw [← HW.out]
  clear HW
  refine (specValOk_any (d + 2) S t _ W0 (hv0.same (hS.same hW0)) (hS.later hW0.size) hsm).mono ?_
  rintro e w1 ⟨rfl, hb1⟩
  replace k0 := k0.below hb1
  replace k1 := k1.below hb1
  replace k2 := k2.below hb1
  have hB1 := below_trans hW0 hb1
  have hlt : w.heap.size + 1 + 1 < w1.heap.size := k2.lt
  clear hb1 hW0
  -- the end, where it can not be done
  have hno : ∀ wn, Below w.heap.size w wn → Hid (∀ wF, wF = set5 wn (w.heap.size + 1 + 1) 0 (.int .i64 0) (.int .i64 0) (.string { data := #[] }) (.slice none 0 0) (.slice none 0 0) → Below w.heap.size w wF) := by
    intro wn hn wF hF
    rw [hF]
    exact below_set5 hn (by omega) _ _ _ _ _ _
  cases hf : okT (d + 2) t with
  | false =>
    have hz : Hid (partPutT d t s0 x = (zeroT (d + 1), false)) := partPut_not (mapL_no (Or.inl hf))
    have HN := hno w1 hB1
    obtain ⟨y0, y1, y2, y3, y4⟩ := k2.cell
    have yf := k2.frozen
    clear k0 k1 k2 hB1 hv0 hx hno
    go_wp2_with fail
    rw [hz.out]
    refine bodyPost_ret (v := .tuple #[zeroVal, .bool false]) (by simp [results, Tryz.results92, go_sem, zeroVal, y0, y1, y2, y3, y4]; rfl) rfl ⟨_, rfl, zeroAt (d + 1) _ _, HN.out _ rfl⟩
  | true =>
    obtain ⟨x0, x1, x2, x3, x4⟩ := k1.cell
    go_wp2_with fail
    refine (specValOk_any (d + 1) S2 x _ w1 (hx.same (hS2.same hB1)) (hS2.later hB1.size) hsx).mono ?_
    rintro e w2 ⟨rfl, hb2⟩
    replace k0 := k0.below hb2
    replace k1 := k1.below hb2
    replace k2 := k2.below hb2
    have hB2 := below_trans hB1 hb2
    have hlt2 : w.heap.size + 1 + 1 < w2.heap.size := k2.lt
    clear hb2 hB1 x0 x1 x2 x3 x4
    obtain ⟨y0, y1, y2, y3, y4⟩ := k2.cell
    have yf := k2.frozen
    cases hfx : okT (d + 1) x with
    | false =>
      have hz : Hid (partPutT d t s0 x = (zeroT (d + 1), false)) := partPut_badx hfx
      have HN := hno w2 hB2
      clear k0 k1 k2 hB2 hv0 hx hno
      go_wp2_with fail
      rw [hz.out]
      refine bodyPost_ret (v := .tuple #[zeroVal, .bool false]) (by simp [results, Tryz.results92, go_sem, zeroVal, y0, y1, y2, y3, y4]; rfl) rfl ⟨_, rfl, zeroAt (d + 1) _ _, HN.out _ rfl⟩
    | true =>
    go_wp2_with fail
    refine (l1Str_any s0 w2 hs0).mono ?_
    rintro e w2' ⟨rfl, rfl⟩
    cases hstr : strOk s0 with
    | false =>
      have hz : Hid (partPutT d t s0 x = (zeroT (d + 1), false)) := partPut_not (mapL_no (Or.inr hstr))
      have HN := hno _ hB2
      clear k0 k1 k2 hB2 hv0 hx hno
      go_wp2_with fail
      rw [hz.out]
      refine bodyPost_ret (v := .tuple #[zeroVal, .bool false]) (by simp [results, Tryz.results92, go_sem, zeroVal, y0, y1, y2, y3, y4]; rfl) rfl ⟨_, rfl, zeroAt (d + 1) _ _, HN.out _ rfl⟩
    | true =>
      obtain ⟨x0, x1, x2, x3, x4⟩ := k0.cell
      obtain ⟨_, hl60, _⟩ := okT_kinds hf
      have hl60 : t.list.length ≤ 60 := hl60
      by_cases hkind : t.kind = 0 ∨ t.kind = 6
      · obtain ⟨hm, hkx, hkb⟩ := mapL_eq hf hstr hkind
        have hR := hide (partPut_does hm hfx)
        replace hkx : t.keys.length = t.list.length := hkx
        have hnod := nodes_put (ks := t.keys) (s := s0) (fun y hy => okT_part hf hy) hfx (by omega)
        have hfold : endP s0 x ((t.keys.zip t.list).foldl (stepP s0 x) (false, [])) = putL t.keys t.list s0 x := by
          have h := foldP_put (s := s0) (x := x) (p := none) [] hkx hkb
          rw [List.nil_append] at h
          exact h
        have hvU : ValAt (fun b => S b ∨ S2 b) _ (d + 2) t (.agg #[.int .i64 t.kind, .int .i64 t.num, .string t.str, .slice ak t.keys.length ck, .slice al t.list.length cl]) := (hv0.same (hS.same hB2)).mono (fun b hb => Or.inl hb)
        have hxU : ValAt (fun b => S b ∨ S2 b) _ (d + 1) x (.agg #[.int .i64 k', .int .i64 n', .string s', .slice ak' lk' ck', .slice al' ll' cl']) := (hx.same (hS2.same hB2)).mono (fun b hb => Or.inr hb)
        have hWU : Within (fun b => S b ∨ S2 b) w2' := fun b hb => by
          rcases hb with hb | hb
          · exact hS.later hB2.size b hb
          · exact hS2.later hB2.size b hb
        have hcall := hide (l2Put_any (d + 1) (fun b => S b ∨ S2 b) t _ s0 x _ w2' hvU hxU hWU hkx hl60 hs0)
        rw [hfold] at hcall
        obtain ⟨z0, z1, z2, z3, z4⟩ := k1.cell
        have HKX := hide hkx
        clear hv0 hx hno hvU hxU k0 k1 hfx hm hfold hkx hkb
        rcases hkind with hq | hq
        all_goals
          first
            | (have q0 : (t.kind != 0) = false := (by simpa using hq))
            | (have q0 : (t.kind != 0) = true := (by simp [hq]); have q6 : (t.kind != 6) = false := (by simpa using hq))
          clear hq
          go_wp2_with fail
          refine Calls.mono hcall.out ?_
          rintro e w3 ⟨u, rfl, hu, hb3⟩
          obtain ⟨u0, u1, u2, u3, u4, u5, u6, u7, u8, rfl⟩ := hu.shape
          have hB3 := below_trans hB2 hb3
          have k3 := k2.below hb3
          have hWU3 : Within (fun b => (S b ∨ S2 b) ∨ Fresh w2' w3 b) w3 := fun b hb => by
            rcases hb with hb | hb
            · exact Nat.lt_of_lt_of_le (hWU b hb) hb3.size
            · exact hb.2
          have hcall2 := hide (l2Told_any (d + 1) _ _ _ w3 hu hWU3 hnod)
          have hlt3 : w.heap.size + 1 + 1 < w3.heap.size := k3.lt
          clear hu hWU3 hcall hb3 x0 x1 x2 x3 x4 y0 y1 y2 y3 y4 yf z0 z1 z2 z3 z4
          go_wp2_with fail
          refine Calls.mono hcall2.out ?_
          rintro e w4 ⟨r, rfl, hr, hb4⟩
          obtain ⟨r0, r1, r2, r3, r4, r5, r6, r7, r8, rfl⟩ := hr.shape
          have HF := hide (tell_endA hr (below_trans hB3 hb4) (by omega) hlt3)
          have k4 := k3.below hb4
          obtain ⟨y0, y1, y2, y3, y4⟩ := k4.cell
          have yf := k4.frozen
          clear hr hb4 k3 k4 hcall2 hB3
          go_wp2_with fail
          rw [hR.out]
          exact bodyPost_ret (v := .tuple #[.agg #[.int .i64 r0, .int .i64 r1, .string r2, .slice r3 r4 r5, .slice r6 r7 r8], .bool (okT (d + 2) (mapT (d + 1) (putL t.keys t.list s0 x)))]) (by simp [results, Tryz.results92, go_sem, y0, y1, y2, y3, y4]) rfl ⟨_, rfl, (HF.out _ rfl).1, (HF.out _ rfl).2⟩
      · have n0 : t.kind ≠ 0 := fun h => hkind (Or.inl h)
        have n6 : t.kind ≠ 6 := fun h => hkind (Or.inr h)
        have hz : Hid (partPutT d t s0 x = (zeroT (d + 1), false)) := partPut_kind hf n0 n6
        have HN := hno _ hB2
        have q0 : (t.kind != 0) = true := by simpa using n0
        have q6 : (t.kind != 6) = true := by simpa using n6
        clear k0 k1 k2 hB2 hv0 hx hno hkind n0 n6
        go_wp2_with fail
        rw [hz.out]
        refine bodyPost_ret (v := .tuple #[zeroVal, .bool false]) (by simp [results, Tryz.results92, go_sem, zeroVal, y0, y1, y2, y3, y4]; rfl) rfl ⟨_, rfl, zeroAt (d + 1) _ _, HN.out _ rfl⟩
end Go.Proofs.YtoangpfmjohhmaaGreatDoor

/- PartPut of the model : the answer owns its memory. -/
namespace Go.Proofs.YtoangpfmjohhmaaGreatDoor
open Go.RowKit Go.Deep

set_option maxRecDepth 100000 in
set_option maxHeartbeats 4000000 in
theorem specPartPut_own (d : Nat) (S : Nat → Prop) (t : Tr (d + 2)) (v : Value) (s0 : ByteArray) (hs0 : s0.size < 281474976710656) (S2 : Nat → Prop) (x : Tr (d + 1)) (xv : Value) (w : World) (hv : ValAt S w (d + 2) t v) (hS : Within S w) (hx : ValAt S2 w (d + 1) x xv) (hS2 : Within S2 w) (hsm : (nodes (d + 2) t : Int) ≤ 4194304) (hsx : (nodes (d + 1) x : Int) ≤ 4194304) :
    Calls Tryz.prog 92 #[v, .string s0, xv] w (TellQ (d + 1) (partPutT d t s0 x).1 (partPutT d t s0 x).2 w) := by
  have hv0 := hv
  obtain ⟨vk, vl, rfl, i1, i2, i3, hk, hl⟩ := hv
  obtain ⟨ak, ck, rfl, hkl⟩ := hk.open'
  obtain ⟨al, cl, rfl, hll⟩ := hl.open'
  obtain ⟨k', n', s', ak', lk', ck', al', ll', cl', rfl⟩ := hx.shape
  obtain ⟨k0, k1, k2, hW0, hsz0⟩ := laid3 w 26 26 26 (.int .i64 t.kind) (.int .i64 t.num) (.string t.str) (.slice ak t.keys.length ck) (.slice al t.list.length cl) (.int .i64 k') (.int .i64 n') (.string s') (.slice ak' lk' ck') (.slice al' ll' cl') (.int .i64 0) (.int .i64 0) (.string { data := #[] }) (.slice none 0 0) (.slice none 0 0)
  obtain ⟨W0, hW⟩ : ∃ W0, W0 = ((w.alloc (.cells #[.int .i64 t.kind, .int .i64 t.num, .string t.str, .slice ak t.keys.length ck, .slice al t.list.length cl] 26)).alloc (.cells #[.int .i64 k', .int .i64 n', .string s', .slice ak' lk' ck', .slice al' ll' cl'] 26)).alloc (.cells #[.int .i64 0, .int .i64 0, .string { data := #[] }, .slice none 0 0, .slice none 0 0] 26) := ⟨_, rfl⟩
  rw [← hW] at k0 k1 k2 hW0 hsz0
  have HW := hide hW
  have HSZ := hide hsz0
  clear hW hk hl hsz0
  go_enter Tryz.func92, Tryz.ntmps92
  go_wp2_with fail
  rw [← HW.out]
  clear HW
  refine (specValOk_any (d + 2) S t _ W0 (hv0.same (hS.same hW0)) (hS.later hW0.size) hsm).mono ?_
  rintro e w1 ⟨rfl, hb1⟩
  replace k0 := k0.below hb1
  replace k1 := k1.below hb1
  replace k2 := k2.below hb1
  have hB1 := below_trans hW0 hb1
  have hlt : w.heap.size + 1 + 1 < w1.heap.size := k2.lt
  clear hb1 hW0
  -- the end, where it can not be done
  have hno : ∀ wn, Below w.heap.size w wn → Hid (∀ wF, wF = set5 wn (w.heap.size + 1 + 1) 0 (.int .i64 0) (.int .i64 0) (.string { data := #[] }) (.slice none 0 0) (.slice none 0 0) → Below w.heap.size w wF) := by
    intro wn hn wF hF
    rw [hF]
    exact below_set5 hn (by omega) _ _ _ _ _ _
  cases hf : okT (d + 2) t with
  | false =>
    have hz : Hid (partPutT d t s0 x = (zeroT (d + 1), false)) := partPut_not (mapL_no (Or.inl hf))
    have HN := hno w1 hB1
    obtain ⟨y0, y1, y2, y3, y4⟩ := k2.cell
    have yf := k2.frozen
    clear k0 k1 k2 hB1 hv0 hx hno
    go_wp2_with fail
    rw [hz.out]
    refine bodyPost_ret (v := .tuple #[zeroVal, .bool false]) (by simp [results, Tryz.results92, go_sem, zeroVal, y0, y1, y2, y3, y4]; rfl) rfl ⟨_, rfl, zeroVal_own (d + 1) _ _, HN.out _ rfl⟩
  | true =>
    obtain ⟨x0, x1, x2, x3, x4⟩ := k1.cell
    go_wp2_with fail
    refine (specValOk_any (d + 1) S2 x _ w1 (hx.same (hS2.same hB1)) (hS2.later hB1.size) hsx).mono ?_
    rintro e w2 ⟨rfl, hb2⟩
    replace k0 := k0.below hb2
    replace k1 := k1.below hb2
    replace k2 := k2.below hb2
    have hB2 := below_trans hB1 hb2
    have hlt2 : w.heap.size + 1 + 1 < w2.heap.size := k2.lt
    clear hb2 hB1 x0 x1 x2 x3 x4
    obtain ⟨y0, y1, y2, y3, y4⟩ := k2.cell
    have yf := k2.frozen
    cases hfx : okT (d + 1) x with
    | false =>
      have hz : Hid (partPutT d t s0 x = (zeroT (d + 1), false)) := partPut_badx hfx
      have HN := hno w2 hB2
      clear k0 k1 k2 hB2 hv0 hx hno
      go_wp2_with fail
      rw [hz.out]
      refine bodyPost_ret (v := .tuple #[zeroVal, .bool false]) (by simp [results, Tryz.results92, go_sem, zeroVal, y0, y1, y2, y3, y4]; rfl) rfl ⟨_, rfl, zeroVal_own (d + 1) _ _, HN.out _ rfl⟩
    | true =>
    go_wp2_with fail
    refine (l1Str_any s0 w2 hs0).mono ?_
    rintro e w2' ⟨rfl, rfl⟩
    cases hstr : strOk s0 with
    | false =>
      have hz : Hid (partPutT d t s0 x = (zeroT (d + 1), false)) := partPut_not (mapL_no (Or.inr hstr))
      have HN := hno _ hB2
      clear k0 k1 k2 hB2 hv0 hx hno
      go_wp2_with fail
      rw [hz.out]
      refine bodyPost_ret (v := .tuple #[zeroVal, .bool false]) (by simp [results, Tryz.results92, go_sem, zeroVal, y0, y1, y2, y3, y4]; rfl) rfl ⟨_, rfl, zeroVal_own (d + 1) _ _, HN.out _ rfl⟩
    | true =>
      obtain ⟨x0, x1, x2, x3, x4⟩ := k0.cell
      obtain ⟨_, hl60, _⟩ := okT_kinds hf
      have hl60 : t.list.length ≤ 60 := hl60
      by_cases hkind : t.kind = 0 ∨ t.kind = 6
      · obtain ⟨hm, hkx, hkb⟩ := mapL_eq hf hstr hkind
        have hR := hide (partPut_does hm hfx)
        replace hkx : t.keys.length = t.list.length := hkx
        have hnod := nodes_put (ks := t.keys) (s := s0) (fun y hy => okT_part hf hy) hfx (by omega)
        have hfold : endP s0 x ((t.keys.zip t.list).foldl (stepP s0 x) (false, [])) = putL t.keys t.list s0 x := by
          have h := foldP_put (s := s0) (x := x) (p := none) [] hkx hkb
          rw [List.nil_append] at h
          exact h
        have hvU : ValAt (fun b => S b ∨ S2 b) _ (d + 2) t (.agg #[.int .i64 t.kind, .int .i64 t.num, .string t.str, .slice ak t.keys.length ck, .slice al t.list.length cl]) := (hv0.same (hS.same hB2)).mono (fun b hb => Or.inl hb)
        have hxU : ValAt (fun b => S b ∨ S2 b) _ (d + 1) x (.agg #[.int .i64 k', .int .i64 n', .string s', .slice ak' lk' ck', .slice al' ll' cl']) := (hx.same (hS2.same hB2)).mono (fun b hb => Or.inr hb)
        have hWU : Within (fun b => S b ∨ S2 b) w2' := fun b hb => by
          rcases hb with hb | hb
          · exact hS.later hB2.size b hb
          · exact hS2.later hB2.size b hb
        have hcall := hide (l2Put_any (d + 1) (fun b => S b ∨ S2 b) t _ s0 x _ w2' hvU hxU hWU hkx hl60 hs0)
        rw [hfold] at hcall
        obtain ⟨z0, z1, z2, z3, z4⟩ := k1.cell
        have HKX := hide hkx
        clear hv0 hx hno hvU hxU k0 k1 hfx hm hfold hkx hkb
        rcases hkind with hq | hq
        all_goals
          first
            | (have q0 : (t.kind != 0) = false := (by simpa using hq))
            | (have q0 : (t.kind != 0) = true := (by simp [hq]); have q6 : (t.kind != 6) = false := (by simpa using hq))
          clear hq
          go_wp2_with fail
          refine Calls.mono hcall.out ?_
          rintro e w3 ⟨u, rfl, hu, hb3⟩
          obtain ⟨u0, u1, u2, u3, u4, u5, u6, u7, u8, rfl⟩ := hu.shape
          have hB3 := below_trans hB2 hb3
          have k3 := k2.below hb3
          have hWU3 : Within (fun b => (S b ∨ S2 b) ∨ Fresh w2' w3 b) w3 := fun b hb => by
            rcases hb with hb | hb
            · exact Nat.lt_of_lt_of_le (hWU b hb) hb3.size
            · exact hb.2
          have hcall2 := hide (l2Told_own (d + 1) _ _ _ w3 hu hWU3 hnod)
          have hlt3 : w.heap.size + 1 + 1 < w3.heap.size := k3.lt
          clear hu hWU3 hcall hb3 x0 x1 x2 x3 x4 y0 y1 y2 y3 y4 yf z0 z1 z2 z3 z4
          go_wp2_with fail
          refine Calls.mono hcall2.out ?_
          rintro e w4 ⟨r, rfl, hr, hb4⟩
          obtain ⟨r0, r1, r2, r3, r4, r5, r6, r7, r8, rfl⟩ := (ValOwn.at _ _ _ _ hr).shape
          have HF := hide (tell_end hr (below_trans hB3 hb4) (by omega) hlt3)
          have k4 := k3.below hb4
          obtain ⟨y0, y1, y2, y3, y4⟩ := k4.cell
          have yf := k4.frozen
          clear hr hb4 k3 k4 hcall2 hB3
          go_wp2_with fail
          rw [hR.out]
          exact bodyPost_ret (v := .tuple #[.agg #[.int .i64 r0, .int .i64 r1, .string r2, .slice r3 r4 r5, .slice r6 r7 r8], .bool (okT (d + 2) (mapT (d + 1) (putL t.keys t.list s0 x)))]) (by simp [results, Tryz.results92, go_sem, y0, y1, y2, y3, y4]) rfl ⟨_, rfl, (HF.out _ rfl).1, (HF.out _ rfl).2⟩
      · have n0 : t.kind ≠ 0 := fun h => hkind (Or.inl h)
        have n6 : t.kind ≠ 6 := fun h => hkind (Or.inr h)
        have hz : Hid (partPutT d t s0 x = (zeroT (d + 1), false)) := partPut_kind hf n0 n6
        have HN := hno _ hB2
        have q0 : (t.kind != 0) = true := by simpa using n0
        have q6 : (t.kind != 6) = true := by simpa using n6
        clear k0 k1 k2 hB2 hv0 hx hno hkind n0 n6
        go_wp2_with fail
        rw [hz.out]
        refine bodyPost_ret (v := .tuple #[zeroVal, .bool false]) (by simp [results, Tryz.results92, go_sem, zeroVal, y0, y1, y2, y3, y4]; rfl) rfl ⟨_, rfl, zeroVal_own (d + 1) _ _, HN.out _ rfl⟩
end Go.Proofs.YtoangpfmjohhmaaGreatDoor
