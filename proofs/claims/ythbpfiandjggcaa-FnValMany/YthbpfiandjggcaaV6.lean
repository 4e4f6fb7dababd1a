/- Texts of the proof, put together by program: WDrawA. -/
import Derived.Test.YthbpfiandjggcaaV5
/- Drawn trees: leaves. -/
namespace Go.Proofs.Ythbpfiandjggcaa
open Go.RowKit Go.Deep

/-- A tree whose keys may be written behind their end: the parts lie elsewhere. -/
def KeyTop (N : Nat) (S : Nat → Prop) (w : World) : (d : Nat) → Tr d → Value → Prop
  | 0, _, _ => False
  | d + 1, t, u => ∃ kv lv, u = .agg #[.int .i64 (Nd.kind t), .int .i64 (Nd.num t), .string (Nd.str t), kv, lv] ∧ I64 (Nd.kind t) ∧ I64 (Nd.num t) ∧ (Nd.str t).size < 281474976710656 ∧ (∀ s ∈ Nd.keys t, s.size < 281474976710656) ∧ (Nd.keys t).length < 1000 ∧
      w.ownsRow N 9 1 kv (Nd.keys t).length ((Nd.keys t).map Value.string) ∧ (∀ b, kv.ownBlock = some b → S b) ∧ RowAt (fun b => S b ∧ kv.ownBlock ≠ some b) w (ValAt (fun b => S b ∧ kv.ownBlock ≠ some b) w d) lv (Nd.list t)
theorem owns_moved {w w' : World} {N N' : Nat} {e : TypeId} {size n : Nat} {v : Value} {xs : List Value} (h : w.ownsRow N e size v n xs) (ho : ∀ g, v.ownBlock = some g → w'.heap[g]? = w.heap[g]?) (hN : N' ≤ N) : w'.ownsRow N' e size v n xs := by
  refine ⟨h.1, ?_⟩
  rcases h.2 with h | ⟨g, cap, cur, hv, hg, hh, hrest⟩
  · exact Or.inl h
  · exact Or.inr ⟨g, cap, cur, hv, Nat.le_trans hN hg, (ho g (by rw [hv]; rfl)).trans hh, hrest⟩
theorem KeyTop.moved {N N' : Nat} {S S' : Nat → Prop} {w w' : World} {d : Nat} {t : Tr d} {u : Value} (h : KeyTop N S w d t u) (hs : Same S w w') (hS : ∀ b, S b → S' b) (hN : N' ≤ N) : KeyTop N' S' w' d t u := by
  cases d with
  | zero => exact h.elim
  | succ d =>
    obtain ⟨kv, lv, hu, i1, i2, i3, hk, hkl, ho, hob, hl⟩ := h
    exact ⟨kv, lv, hu, i1, i2, i3, hk, hkl, owns_moved ho (fun g hg => hs g (hob g hg)) hN, fun b hb => hS b (hob b hb), hl.moved (fun b hb => hs b hb.1) (fun b hb => ⟨hS b hb.1, hb.2⟩) (fun x u hx => ValAt.moved (fun b hb => hs b hb.1) (fun b hb => ⟨hS b hb.1, hb.2⟩) d x u hx)⟩
theorem strs_of_owns {N : Nat} {S : Nat → Prop} {w : World} {kv : Value} {ks : List ByteArray} (h : w.ownsRow N 9 1 kv ks.length (ks.map Value.string)) (hk : ∀ s ∈ ks, s.size < 281474976710656) (hkl : ks.length < 1000) (hob : ∀ b, kv.ownBlock = some b → S b) : StrsAt S w kv ks := by
  refine ⟨by omega, hk, ?_⟩
  rcases h.2 with ⟨e, h0⟩ | ⟨g, cap, cur, e, hg, hh, _⟩
  · exact ⟨none, 0, by rw [e, h0], Or.inl (List.eq_nil_of_length_eq_zero h0)⟩
  · refine ⟨some ⟨g, 0, none⟩, cap, e, Or.inr ⟨g, 0, hob g (by rw [e]; rfl), rfl, fun i s hs => ?_⟩⟩
    have hi := (List.getElem?_eq_some_iff.1 hs).1
    rw [e] at h
    rw [Nat.zero_add]
    exact (h.cellAt i (by omega)).trans (by rw [List.getElem?_map, hs]; rfl)
theorem KeyTop.at {N : Nat} {S : Nat → Prop} {w : World} {d : Nat} {t : Tr d} {u : Value} (h : KeyTop N S w d t u) : ValAt S w d t u := by
  cases d with
  | zero => exact h.elim
  | succ d =>
    obtain ⟨kv, lv, hu, i1, i2, i3, hk, hkl, ho, hob, hl⟩ := h
    exact ⟨kv, lv, hu, i1, i2, i3, strs_of_owns ho hk hkl hob, hl.moved (Same.refl _ _) (fun b hb => hb.1) (fun x u hx => ValAt.moved (Same.refl _ _) (fun b hb => hb.1) d x u hx)⟩

/-- What a drawing function tells: a tree in new memory, not too great; the reader has gone on by at most c places. -/
def Drawn (r p c : Nat) (d B : Nat) (w : World) (e : Ending) (w' : World) : Prop :=
  ∃ u t p', e = .returned u ∧ KeyTop w.heap.size (FreshP w w') w' d t u ∧ wtT d t ≤ B ∧ Rd w' r p' ∧ p' ≤ p + c ∧ But r w w'

/-- A tree without parts. -/
def bareT (d : Nat) (k n : Int) (s : ByteArray) : Tr (d + 1) := { kind := k, num := n, str := s, keys := [], list := [] }
theorem bareT_at (S : Nat → Prop) (w : World) (d : Nat) (k n : Int) (s : ByteArray) (hk : I64 k) (hn : I64 n) (hs : s.size < 281474976710656) :
    ValAt S w (d + 1) (bareT d k n s) (.agg #[.int .i64 k, .int .i64 n, .string s, .slice none 0 0, .slice none 0 0]) :=
  ⟨_, _, rfl, hk, hn, hs, ⟨by show (0 : Nat) < _; omega, (fun s hs => by cases hs), none, 0, rfl, Or.inl rfl⟩, ⟨by show (0 : Nat) < _; omega, none, 0, rfl, Or.inl rfl⟩⟩
theorem bareT_key (N : Nat) (S : Nat → Prop) (w : World) (d : Nat) (k n : Int) (s : ByteArray) (hk : I64 k) (hn : I64 n) (hs : s.size < 281474976710656) :
    KeyTop N S w (d + 1) (bareT d k n s) (.agg #[.int .i64 k, .int .i64 n, .string s, .slice none 0 0, .slice none 0 0]) :=
  ⟨_, _, rfl, hk, hn, hs, (fun s hs => by cases hs), by show (0 : Nat) < _; omega, ⟨rfl, Or.inl ⟨rfl, rfl⟩⟩, (fun b hb => by cases hb), ⟨by show (0 : Nat) < _; omega, none, 0, rfl, Or.inl rfl⟩⟩
theorem bareT_wt (d : Nat) (k n : Int) (s : ByteArray) : wtT (d + 1) (bareT d k n s) ≤ 3 := by simp [wtT, bareT]

theorem cell_of_cells {w : World} {b j : Nat} {cs : Array Value} {T : TypeId} (h : w.heap[b]? = some (.cells cs T (0, 0))) : w.cell? ⟨b, j, none⟩ = cs[j]? := by simp [World.cell?, h]
theorem texts_new (w : World) (T : TypeId) (ss : List ByteArray) (i : Nat) (s : ByteArray) (h : ss[i]? = some s) : (w.alloc (.cells (ss.map Value.string).toArray T)).cell? ⟨w.heap.size, 0 + i, none⟩ = some (.string s) := by
  rw [cell_of_cells (heap_alloc_new w _)]
  simp [h]
theorem ints_new (w : World) (T : TypeId) (ns : List Int) (i : Nat) (n : Int) (h : ns[i]? = some n) : (w.alloc (.cells (ns.map (Value.int .i64)).toArray T)).cell? ⟨w.heap.size, 0 + i, none⟩ = some (.int .i64 n) := by
  rw [cell_of_cells (heap_alloc_new w _)]
  simp [h]

def leafNums : List Int := [0, 1, 2, 3, -1, 7, 1000000]
def leafTexts : List ByteArray := [⟨#[]⟩, ⟨#[97]⟩, ⟨#[98]⟩, ⟨#[97, 98]⟩, ⟨#[122, 122]⟩, ⟨#[97, 98, 99, 100, 101, 102, 103, 104, 105, 106, 107, 108]⟩]

/-- New blocks of plain cells, but for the first one. -/
def FreshQ (w w' : World) (b : Nat) : Prop := w.heap.size < b ∧ b < w'.heap.size ∧ Plain w' b

theorem plain_set5 {w : World} {b k i : Nat} {v0 v1 v2 v3 v4 : Value} (h : Plain w k) (hk : k ≠ b) : Plain (set5 w b i v0 v1 v2 v3 v4) k := h.of_block (set5_block w b i v0 v1 v2 v3 v4 k hk)

/-- What was drawn is put into the result's own cells. -/
theorem drawn_end {r p p' c d B : Nat} {w wX : World} {t : Tr d} {v0 v1 v2 v3 v4 : Value} (hv : KeyTop (w.heap.size + 1) (FreshQ w wX) wX d t (.agg #[v0, v1, v2, v3, v4])) (hB : wtT d t ≤ B) (hR : Rd wX r p') (hp : p' ≤ p + c) (hb : But r w wX) (hr : r < w.heap.size) (_hx : w.heap.size < wX.heap.size) :
    ∀ wF, wF = set5 wX w.heap.size 0 v0 v1 v2 v3 v4 → Drawn r p c d B w (.returned (.agg #[v0, v1, v2, v3, v4])) wF := by
  intro wF hF
  have hs : ∀ b, b ≠ w.heap.size → wF.heap[b]? = wX.heap[b]? := fun b hb' => by rw [hF]; exact set5_block _ _ _ _ _ _ _ _ _ hb'
  have hz : wF.heap.size = wX.heap.size := by rw [hF]; exact set5_size _ _ _ _ _ _ _ _
  have hl : Below w.heap.size wX wF := by rw [hF]; exact below_set5 (Below.refl _ _) (Nat.le_refl _) _ _ _ _ _ _
  refine ⟨_, t, p', rfl, hv.moved (fun b hb' => hs b (by have := hb'.1; omega)) (fun b hb' => ?_) (by omega), hB, ?_, hp, ⟨hl.os.trans hb.os, hl.tape.trans hb.tape, hl.output.trans hb.output, by rw [hz]; exact hb.size, fun b hb1 hb2 => (hs b (by omega)).trans (hb.block b hb1 hb2)⟩⟩
  · exact ⟨⟨Nat.le_of_lt hb'.1, by rw [hz]; exact hb'.2.1⟩, hb'.2.2.of_block (hs b (by have := hb'.1; omega))⟩
  · obtain ⟨a, n, cap, h1, h2, h3⟩ := hR
    exact ⟨a, n, cap, (hs r (by omega)).trans h1, h2, h3.moved (fun b hb' => hs b (by omega))⟩

/-- The result's own cells, as they are made. -/
theorem res_new (w : World) : Blk5 (w.alloc (.cells #[.int .i64 0, .int .i64 0, .string { data := #[] }, .slice none 0 0, .slice none 0 0] 26)) w.heap.size 26 (.int .i64 0) (.int .i64 0) (.string { data := #[] }) (.slice none 0 0) (.slice none 0 0) := Blk5.new w _ _ _ _ _ _
theorem Blk5.butr {w w' : World} {r b : Nat} {T : TypeId} {c0 c1 c2 c3 c4 : Value} (h : Blk5 w b T c0 c1 c2 c3 c4) (hb : But r w w') (hn : b ≠ r) : Blk5 w' b T c0 c1 c2 c3 c4 := h.of_block (hb.block b h.lt (fun e => hn (by cases e; rfl)))

set_option maxRecDepth 100000 in
set_option maxHeartbeats 1000000 in
theorem l1Leaf_any (d r p : Nat) (w : World) (h : Rd w r p) (hp : p + 2 ≤ 1000000) :
    Calls Try.prog 30 #[.pointer (some ⟨r, 0, none⟩)] w (Drawn r p 2 (d + 1) 3 w) := by
  have hr := h.lt
  have hb0 := below_alloc1 w (.cells #[.int .i64 0, .int .i64 0, .string { data := #[] }, .slice none 0 0, .slice none 0 0] 26)
  have kr := res_new w
  have hR0 := h.below hb0
  obtain ⟨W0, HW⟩ : ∃ W0, Hid (W0 = w.alloc (.cells #[.int .i64 0, .int .i64 0, .string { data := #[] }, .slice none 0 0, .slice none 0 0] 26)) := ⟨_, rfl⟩
  have hz0 : W0.heap.size = w.heap.size + 1 := by rw [HW.out]; simp
  rw [← HW.out] at hb0 kr hR0
  go_enter Try.func30, Try.ntmps30
  go_wp2_with fail
  rw [← HW.out]
  refine (pick_any r p 8 W0 hR0 (by omega) (by omega) (by omega)).mono ?_
  rintro e w1 ⟨k, rfl, k0, k1, h1, b1, z1⟩
  clear h hR0
  replace kr := kr.butr b1 (by omega)
  have hB1 := (But.of_below hb0).trans b1
  have hz1 : w.heap.size < w1.heap.size := by omega
  have hk : k = 0 ∨ k = 1 ∨ k = 2 ∨ k = 3 ∨ k = 4 ∨ k = 5 ∨ k = 6 ∨ k = 7 := by omega
  clear k0 k1 HW hb0 z1 hz0 b1
  rcases hk with rfl | rfl | rfl | rfl | rfl | rfl | rfl | rfl
  case inl =>
    go_wp2_with fail
    refine (pick_any r (p + 1) 3 w1 h1 (by omega) (by omega) (by omega)).mono ?_
    rintro e w2 ⟨k, rfl, k0, k1, h2, b2, z2⟩
    replace kr := kr.butr b2 (by omega)
    have hB2 := hB1.trans b2
    have HF := hide (drawn_end (c := 2) (p := p) (bareT_key (w.heap.size + 1) (FreshQ w w2) w2 d k 0 ⟨#[]⟩ ⟨by omega, by omega⟩ ⟨by omega, by omega⟩ (by show (0 : Nat) < _; omega)) (bareT_wt d k 0 _) h2 (by omega) hB2 hr (by omega))
    obtain ⟨y0, y1, y2, y3, y4⟩ := kr.cell
    have yf := kr.frozen
    clear kr h2 hB2 b2 h1
    go_wp2_with fail
    exact bodyPost_ret (v := .agg #[.int .i64 k, .int .i64 0, .string { data := #[] }, .slice none 0 0, .slice none 0 0]) (by simp [results, Try.results30, go_sem, y0, y1, y2, y3, y4]) rfl (HF.out _ rfl)
  case inr.inr.inr.inl =>
    go_wp2_with fail
    refine (pick_any r (p + 1) 2 w1 h1 (by omega) (by omega) (by omega)).mono ?_
    rintro e w2 ⟨k, rfl, k0, k1, h2, b2, z2⟩
    replace kr := kr.butr b2 (by omega)
    have hB2 := hB1.trans b2
    have HF := hide (drawn_end (c := 2) (p := p) (bareT_key (w.heap.size + 1) (FreshQ w w2) w2 d (5 + k) 0 ⟨#[]⟩ ⟨by omega, by omega⟩ ⟨by omega, by omega⟩ (by show (0 : Nat) < _; omega)) (bareT_wt d (5 + k) 0 _) h2 (by omega) hB2 hr (by omega))
    obtain ⟨y0, y1, y2, y3, y4⟩ := kr.cell
    have yf := kr.frozen
    clear kr h2 hB2 b2 h1
    go_wp2_with fail
    exact bodyPost_ret (v := .agg #[.int .i64 (5 + k), .int .i64 0, .string { data := #[] }, .slice none 0 0, .slice none 0 0]) (by simp [results, Try.results30, go_sem, y0, y1, y2, y3, y4]) rfl (HF.out _ rfl)
  case inr.inl =>
    go_wp2_with fail
    have ha := below_alloc1 w1 (.cells (leafTexts.map Value.string).toArray 9)
    have hza : (w1.alloc (.cells (leafTexts.map Value.string).toArray 9)).heap.size = w1.heap.size + 1 := by simp
    refine (of_any r (p + 1) w1.heap.size 0 6 leafTexts (w1.alloc (.cells (leafTexts.map Value.string).toArray 9)) (h1.below ha) (by omega) (by omega) (by have := h1.lt; omega) (texts_new w1 9 leafTexts) (by decide) (by decide)).mono ?_
    rintro e w2 ⟨x, rfl, hx, h2, b2, z2⟩
    replace kr := (kr.below ha).butr b2 (by omega)
    have hB2 := (hB1.trans (But.of_below ha)).trans b2
    have hxs : x.size < 281474976710656 := by
      have : ∀ y ∈ leafTexts, y.size ≤ 12 := by decide
      have := this x hx
      omega
    have HF := hide (drawn_end (c := 2) (p := p) (bareT_key (w.heap.size + 1) (FreshQ w w2) w2 d 4 0 x ⟨by omega, by omega⟩ ⟨by omega, by omega⟩ hxs) (bareT_wt d 4 0 _) h2 (by omega) hB2 hr (by omega))
    obtain ⟨y0, y1, y2, y3, y4⟩ := kr.cell
    have yf := kr.frozen
    clear kr h2 hB2 b2 h1 ha hza hx hxs
    go_wp2_with fail
    exact bodyPost_ret (v := .agg #[.int .i64 4, .int .i64 0, .string x, .slice none 0 0, .slice none 0 0]) (by simp [results, Try.results30, go_sem, y0, y1, y2, y3, y4]) rfl (HF.out _ rfl)
  case inr.inr.inl =>
    go_wp2_with fail
    have ha := below_alloc1 w1 (.cells (leafTexts.map Value.string).toArray 9)
    have hza : (w1.alloc (.cells (leafTexts.map Value.string).toArray 9)).heap.size = w1.heap.size + 1 := by simp
    refine (of_any r (p + 1) w1.heap.size 0 6 leafTexts (w1.alloc (.cells (leafTexts.map Value.string).toArray 9)) (h1.below ha) (by omega) (by omega) (by have := h1.lt; omega) (texts_new w1 9 leafTexts) (by decide) (by decide)).mono ?_
    rintro e w2 ⟨x, rfl, hx, h2, b2, z2⟩
    replace kr := (kr.below ha).butr b2 (by omega)
    have hB2 := (hB1.trans (But.of_below ha)).trans b2
    have hxs : x.size < 281474976710656 := by
      have : ∀ y ∈ leafTexts, y.size ≤ 12 := by decide
      have := this x hx
      omega
    have HF := hide (drawn_end (c := 2) (p := p) (bareT_key (w.heap.size + 1) (FreshQ w w2) w2 d 4 0 x ⟨by omega, by omega⟩ ⟨by omega, by omega⟩ hxs) (bareT_wt d 4 0 _) h2 (by omega) hB2 hr (by omega))
    obtain ⟨y0, y1, y2, y3, y4⟩ := kr.cell
    have yf := kr.frozen
    clear kr h2 hB2 b2 h1 ha hza hx hxs
    go_wp2_with fail
    exact bodyPost_ret (v := .agg #[.int .i64 4, .int .i64 0, .string x, .slice none 0 0, .slice none 0 0]) (by simp [results, Try.results30, go_sem, y0, y1, y2, y3, y4]) rfl (HF.out _ rfl)
  case inr.inr.inr.inr.inl =>
    go_wp2_with fail
    have ha := below_alloc1 w1 (.cells (leafNums.map (Value.int .i64)).toArray 3)
    have hza : (w1.alloc (.cells (leafNums.map (Value.int .i64)).toArray 3)).heap.size = w1.heap.size + 1 := by simp
    refine (num_any r (p + 1) w1.heap.size 0 7 leafNums (w1.alloc (.cells (leafNums.map (Value.int .i64)).toArray 3)) (h1.below ha) (by omega) (by omega) (by have := h1.lt; omega) (ints_new w1 3 leafNums) (by decide) (by decide)).mono ?_
    rintro e w2 ⟨x, rfl, hx, h2, b2, z2⟩
    replace kr := (kr.below ha).butr b2 (by omega)
    have hB2 := (hB1.trans (But.of_below ha)).trans b2
    have hxs : I64 x := by
      have : ∀ y ∈ leafNums, -1 ≤ y ∧ y ≤ 1000000 := by decide
      have := this x hx
      exact ⟨by omega, by omega⟩
    have HF := hide (drawn_end (c := 2) (p := p) (bareT_key (w.heap.size + 1) (FreshQ w w2) w2 d 3 x ⟨#[]⟩ ⟨by omega, by omega⟩ hxs (by show (0 : Nat) < _; omega)) (bareT_wt d 3 x _) h2 (by omega) hB2 hr (by omega))
    obtain ⟨y0, y1, y2, y3, y4⟩ := kr.cell
    have yf := kr.frozen
    clear kr h2 hB2 b2 h1 ha hza hx hxs
    go_wp2_with fail
    exact bodyPost_ret (v := .agg #[.int .i64 3, .int .i64 x, .string { data := #[] }, .slice none 0 0, .slice none 0 0]) (by simp [results, Try.results30, go_sem, y0, y1, y2, y3, y4]) rfl (HF.out _ rfl)
  case inr.inr.inr.inr.inr.inl =>
    go_wp2_with fail
    have ha := below_alloc1 w1 (.cells (leafNums.map (Value.int .i64)).toArray 3)
    have hza : (w1.alloc (.cells (leafNums.map (Value.int .i64)).toArray 3)).heap.size = w1.heap.size + 1 := by simp
    refine (num_any r (p + 1) w1.heap.size 0 7 leafNums (w1.alloc (.cells (leafNums.map (Value.int .i64)).toArray 3)) (h1.below ha) (by omega) (by omega) (by have := h1.lt; omega) (ints_new w1 3 leafNums) (by decide) (by decide)).mono ?_
    rintro e w2 ⟨x, rfl, hx, h2, b2, z2⟩
    replace kr := (kr.below ha).butr b2 (by omega)
    have hB2 := (hB1.trans (But.of_below ha)).trans b2
    have hxs : I64 x := by
      have : ∀ y ∈ leafNums, -1 ≤ y ∧ y ≤ 1000000 := by decide
      have := this x hx
      exact ⟨by omega, by omega⟩
    have HF := hide (drawn_end (c := 2) (p := p) (bareT_key (w.heap.size + 1) (FreshQ w w2) w2 d 3 x ⟨#[]⟩ ⟨by omega, by omega⟩ hxs (by show (0 : Nat) < _; omega)) (bareT_wt d 3 x _) h2 (by omega) hB2 hr (by omega))
    obtain ⟨y0, y1, y2, y3, y4⟩ := kr.cell
    have yf := kr.frozen
    clear kr h2 hB2 b2 h1 ha hza hx hxs
    go_wp2_with fail
    exact bodyPost_ret (v := .agg #[.int .i64 3, .int .i64 x, .string { data := #[] }, .slice none 0 0, .slice none 0 0]) (by simp [results, Try.results30, go_sem, y0, y1, y2, y3, y4]) rfl (HF.out _ rfl)
  case inr.inr.inr.inr.inr.inr.inl =>
    go_wp2_with fail
    have ha := below_alloc1 w1 (.cells (leafNums.map (Value.int .i64)).toArray 3)
    have hza : (w1.alloc (.cells (leafNums.map (Value.int .i64)).toArray 3)).heap.size = w1.heap.size + 1 := by simp
    refine (num_any r (p + 1) w1.heap.size 0 7 leafNums (w1.alloc (.cells (leafNums.map (Value.int .i64)).toArray 3)) (h1.below ha) (by omega) (by omega) (by have := h1.lt; omega) (ints_new w1 3 leafNums) (by decide) (by decide)).mono ?_
    rintro e w2 ⟨x, rfl, hx, h2, b2, z2⟩
    replace kr := (kr.below ha).butr b2 (by omega)
    have hB2 := (hB1.trans (But.of_below ha)).trans b2
    have hxs : I64 x := by
      have : ∀ y ∈ leafNums, -1 ≤ y ∧ y ≤ 1000000 := by decide
      have := this x hx
      exact ⟨by omega, by omega⟩
    have HF := hide (drawn_end (c := 2) (p := p) (bareT_key (w.heap.size + 1) (FreshQ w w2) w2 d 3 x ⟨#[]⟩ ⟨by omega, by omega⟩ hxs (by show (0 : Nat) < _; omega)) (bareT_wt d 3 x _) h2 (by omega) hB2 hr (by omega))
    obtain ⟨y0, y1, y2, y3, y4⟩ := kr.cell
    have yf := kr.frozen
    clear kr h2 hB2 b2 h1 ha hza hx hxs
    go_wp2_with fail
    exact bodyPost_ret (v := .agg #[.int .i64 3, .int .i64 x, .string { data := #[] }, .slice none 0 0, .slice none 0 0]) (by simp [results, Try.results30, go_sem, y0, y1, y2, y3, y4]) rfl (HF.out _ rfl)
  case inr.inr.inr.inr.inr.inr.inr =>
    go_wp2_with fail
    have ha := below_alloc1 w1 (.cells (leafNums.map (Value.int .i64)).toArray 3)
    have hza : (w1.alloc (.cells (leafNums.map (Value.int .i64)).toArray 3)).heap.size = w1.heap.size + 1 := by simp
    refine (num_any r (p + 1) w1.heap.size 0 7 leafNums (w1.alloc (.cells (leafNums.map (Value.int .i64)).toArray 3)) (h1.below ha) (by omega) (by omega) (by have := h1.lt; omega) (ints_new w1 3 leafNums) (by decide) (by decide)).mono ?_
    rintro e w2 ⟨x, rfl, hx, h2, b2, z2⟩
    replace kr := (kr.below ha).butr b2 (by omega)
    have hB2 := (hB1.trans (But.of_below ha)).trans b2
    have hxs : I64 x := by
      have : ∀ y ∈ leafNums, -1 ≤ y ∧ y ≤ 1000000 := by decide
      have := this x hx
      exact ⟨by omega, by omega⟩
    have HF := hide (drawn_end (c := 2) (p := p) (bareT_key (w.heap.size + 1) (FreshQ w w2) w2 d 3 x ⟨#[]⟩ ⟨by omega, by omega⟩ hxs (by show (0 : Nat) < _; omega)) (bareT_wt d 3 x _) h2 (by omega) hB2 hr (by omega))
    obtain ⟨y0, y1, y2, y3, y4⟩ := kr.cell
    have yf := kr.frozen
    clear kr h2 hB2 b2 h1 ha hza hx hxs
    go_wp2_with fail
    exact bodyPost_ret (v := .agg #[.int .i64 3, .int .i64 x, .string { data := #[] }, .slice none 0 0, .slice none 0 0]) (by simp [results, Try.results30, go_sem, y0, y1, y2, y3, y4]) rfl (HF.out _ rfl)
end Go.Proofs.Ythbpfiandjggcaa
