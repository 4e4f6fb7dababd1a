/- Texts of the proof, put together by program: WKbS, WAddP. -/
import Derived.Test.YtmibjmipndffmaaGreatDoorT22
import Derived.Test.YtmibjmipndffmaaGreatDoorT20
import Derived.Test.YtmibjmipndffmaaGreatDoorT21
import Derived.Test.YtmibjmipndffmaaGreatDoorT9
import Derived.Test.YtmibjmipndffmaaGreatDoorT25
import Derived.Test.YtmibjmipndffmaaGreatDoorT18
/- RowKeys of the model. -/
namespace Go.Proofs.YtmibjmipndffmaaGreatDoor
open Go.RowKit Go.Deep

theorem Blk5.all {w : World} {b : Nat} {T : TypeId} {c0 c1 c2 c3 c4 : Value} (h : Blk5 w b T c0 c1 c2 c3 c4) (v0 v1 v2 v3 v4 : Value) : Blk5 (_root_.Go.Proofs.YtmibjmipndffmaaGreatDoor.set5 w b 0 v0 v1 v2 v3 v4) b T v0 v1 v2 v3 v4 := by
  unfold Blk5 at h ⊢
  simp [_root_.Go.Proofs.YtmibjmipndffmaaGreatDoor.set5, World.setCell, Array.getElem?_modify, h]
/-- The variable that is told at the end. -/
structure OutAt (d : Nat) (S : Nat → Prop) (ob : Nat) (W wr : World) (acc : List (ByteArray × Tr (d + 1))) (kv lv : Value) : Prop where
  blk : Blk5 wr ob 26 (.int .i64 6) (.int .i64 0) (.string { data := #[] }) kv lv
  val : ValAt (fun b => S b ∨ (ob < b ∧ b < wr.heap.size)) wr (d + 2) (mapT (d + 1) acc) (.agg #[.int .i64 6, .int .i64 0, .string { data := #[] }, kv, lv])
  below : Below ob W wr
theorem OutAt.shape {d ob : Nat} {S : Nat → Prop} {W wr : World} {acc : List (ByteArray × Tr (d + 1))} {kv lv : Value} (h : OutAt d S ob W wr acc kv lv) : ∃ ka kn kc la ln lc, kv = .slice ka kn kc ∧ lv = .slice la ln lc := by
  obtain ⟨vk, vl, hve, _, _, _, hkk, hll⟩ := h.val
  obtain ⟨ka, kc, hka, _⟩ := hkk.open'
  obtain ⟨la, lc, hla, _⟩ := hll.open'
  simp at hve
  exact ⟨_, _, _, _, _, _, hve.2.2.2.1.trans hka, hve.2.2.2.2.trans hla⟩
theorem OutAt.start {d : Nat} (S : Nat → Prop) (w : World) : OutAt d S w.heap.size w (w.alloc (.cells #[.int .i64 6, .int .i64 0, .string { data := #[] }, .slice none 0 0, .slice none 0 0] 26)) [] (.slice none 0 0) (.slice none 0 0) :=
  ⟨Blk5.new _ _ _ _ _ _ _, ⟨_, _, rfl, ⟨by show _ ≤ (6 : Int); omega, by show (6 : Int) ≤ _; omega⟩, ⟨by show _ ≤ (0 : Int); omega, by show (0 : Int) ≤ _; omega⟩, by show (0 : Nat) < _; omega, ⟨by show (0 : Nat) < _; omega, (fun s hs => by cases hs), none, 0, rfl, Or.inl rfl⟩, ⟨by show (0 : Nat) < _; omega, none, 0, rfl, Or.inl rfl⟩⟩, below_alloc1 _ _⟩
theorem OutAt.step {d ob : Nat} {S : Nat → Prop} {W wr w2 : World} {acc acc' : List (ByteArray × Tr (d + 1))} {kv lv kv' lv' : Value} {o : Obj} (h : OutAt d S ob W wr acc kv lv) (hS : ∀ b, S b → b < ob) (hb : Below (wr.alloc o).heap.size (wr.alloc o) w2) (hu : ValAt (fun b => (S b ∨ (ob < b ∧ b < wr.heap.size)) ∨ ((wr.alloc o).heap.size ≤ b ∧ b < w2.heap.size)) w2 (d + 2) (mapT (d + 1) acc') (.agg #[.int .i64 6, .int .i64 0, .string { data := #[] }, kv', lv'])) :
    OutAt d S ob W (set5 w2 ob 0 (.int .i64 6) (.int .i64 0) (.string { data := #[] }) kv' lv') acc' kv' lv' := by
  have hol := h.blk.lt
  have hz : (wr.alloc o).heap.size = wr.heap.size + 1 := by simp
  have hsz := hb.size
  have hblk : ∀ b, b < wr.heap.size → w2.heap[b]? = wr.heap[b]? := fun b hb' => (hb.block b (by omega)).trans (Below.heap_alloc _ _ _ hb')
  refine ⟨(h.blk.of_block (hblk ob hol)).all _ _ _ _ _, ?_, ?_⟩
  · refine ValAt.moved (fun b hb' => set5_block _ _ _ _ _ _ _ _ _ ?_) (fun b hb' => ?_) _ _ _ hu
    · rcases hb' with (hb' | hb') | hb'
      · have := hS b hb'; omega
      · have := hb'.1; omega
      · have := hb'.1; omega
    · rw [set5_size]
      rcases hb' with (hb' | hb') | hb'
      · exact Or.inl hb'
      · exact Or.inr ⟨hb'.1, by have := hb'.2; omega⟩
      · exact Or.inr ⟨by have := hb'.1; omega, hb'.2⟩
  · refine below_set5 ?_ (Nat.le_refl _) _ _ _ _ _ _
    exact ⟨hb.os.trans h.below.os, hb.tape.trans h.below.tape, hb.output.trans h.below.output, by have := h.below.size; omega, fun b hb' => (hblk b (by omega)).trans (h.below.block b hb')⟩

end Go.Proofs.YtmibjmipndffmaaGreatDoor

/- PartAdd of the model: what stands ahead of its walk. -/
namespace Go.Proofs.YtmibjmipndffmaaGreatDoor
open Go.RowKit Go.Deep

theorem num_self {d : Nat} {t : Tr (d + 1)} (h : okT (d + 1) t = true) (h3 : Nd.kind t = 3) : t = (Nd.mk 3 (Nd.num t) ByteArray.empty [] [] : Nd (Tr d)) ∧ -1000000 ≤ Nd.num t ∧ Nd.num t ≤ 1000000 := by
  obtain ⟨hf, _⟩ := okT_form h
  obtain ⟨kind, num, str, keys, list⟩ := t
  have h3 : kind = 3 := h3
  subst h3
  cases hb : headBad 3 num str keys.length list.length 6 with
  | true => rw [formT_bad hb] at hf; cases hf
  | false =>
    obtain ⟨_, _, g2, g3, g4⟩ := headBad_iff.1 hb
    rw [formT_good hb] at hf
    simp at hf
    obtain rfl := bytes_nil (g2 (by omega))
    obtain rfl := List.eq_nil_of_length_eq_zero (g3 (by omega))
    obtain rfl := List.eq_nil_of_length_eq_zero (g4 (by omega))
    exact ⟨rfl, hf.1, hf.2⟩
theorem str_self {d : Nat} {t : Tr (d + 1)} (h : okT (d + 1) t = true) (h4 : Nd.kind t = 4) : t = (Nd.mk 4 0 (Nd.str t) [] [] : Nd (Tr d)) ∧ (Nd.str t).size ≤ 12 := by
  have hs := strOk_size (okT_text h h4)
  obtain ⟨hf, _⟩ := okT_form h
  obtain ⟨kind, num, str, keys, list⟩ := t
  have h4 : kind = 4 := h4
  subst h4
  cases hb : headBad 4 num str keys.length list.length 6 with
  | true => rw [formT_bad hb] at hf; cases hf
  | false =>
    obtain ⟨_, g1, _, g3, g4⟩ := headBad_iff.1 hb
    obtain rfl := g1 (by omega)
    obtain rfl := List.eq_nil_of_length_eq_zero (g3 (by omega))
    obtain rfl := List.eq_nil_of_length_eq_zero (g4 (by omega))
    exact ⟨rfl, hs⟩
theorem strs_nil (S : Nat → Prop) (w : World) (a : Option Addr) (c : Nat) : StrsAt S w (.slice a 0 c) [] := ⟨by show (0 : Nat) < _; omega, (fun s hs => by cases hs), a, c, rfl, Or.inl rfl⟩
theorem rowAt_nil {α : Type} (S : Nat → Prop) (w : World) (At : α → Value → Prop) (a : Option Addr) (c : Nat) : RowAt S w At (.slice a 0 c) [] := ⟨by show (0 : Nat) < _; omega, a, c, rfl, Or.inl rfl⟩

/-- All pairs of the second put into the first, one by one. -/
theorem putAll_step {α : Type} (ps : List (ByteArray × α)) {qs : List (ByteArray × α)} {m : Nat} {q : ByteArray × α} (h : qs[m]? = some q) : putAll ps (qs.take (m + 1)) = putP (putAll ps (qs.take m)) q := by
  obtain ⟨hk, e⟩ := List.getElem?_eq_some_iff.1 h
  unfold putAll
  rw [List.take_succ_eq_append_getElem hk, List.foldl_append, e]
  rfl
theorem accOk_pairs {d : Nat} {t : Tr (d + 2)} (h : okT (d + 2) t = true) (h6 : Nd.kind t = 6) : AccOk 60 (pairsT t) := by
  obtain ⟨hl, hk⟩ := okT_maps h h6
  refine ⟨?_, ?_, fun p hp => okT_part h (List.of_mem_zip hp).2⟩
  · have := (okT_kinds h).2.1
    unfold pairsT
    rw [List.length_zip]
    omega
  · unfold pairsT
    rw [zip_fst _ _ hl]
    exact hk
theorem add_bad {d : Nat} {a b : Tr (d + 1)} (h : okT (d + 1) a = false ∨ okT (d + 1) b = false) : partAddT d a b = (zeroT d, false) := by
  unfold partAddT
  refine if_neg (fun hh => ?_)
  rcases h with h | h
  · rw [h] at hh; exact absurd hh.1 (by simp)
  · rw [h] at hh; exact absurd hh.2 (by simp)
theorem add_none {d : Nat} {a b : Tr (d + 1)} (h : sumT d a b = none) : partAddT d a b = (zeroT d, false) := by
  unfold partAddT
  split
  · rw [h]
  · rfl
theorem add_some {d : Nat} {a b t : Tr (d + 1)} (ha : okT (d + 1) a = true) (hb : okT (d + 1) b = true) (h : sumT d a b = some t) : partAddT d a b = (toldT d t, okT (d + 1) t) := by
  unfold partAddT
  rw [if_pos ⟨ha, hb⟩, h]
theorem sum_kinds {d : Nat} {a b : Tr (d + 1)} (h : Nd.kind a ≠ 0) (hb : Nd.kind b ≠ 0) (hn : Nd.kind a ≠ Nd.kind b ∨ Nd.kind a < 3) : sumT d a b = none := by
  unfold sumT
  rw [if_neg h, if_neg hb]
  split
  · rfl
  · rename_i hk
    rcases hn with hn | hn
    · exact absurd hn hk
    · rw [if_neg (by omega), if_neg (by omega), if_neg (by omega), if_neg (by omega)]
theorem sum_num {d : Nat} {a b : Tr (d + 1)} (h : Nd.kind a = 3) (hb : Nd.kind b = 3) : sumT d a b = some (Nd.mk 3 (Nd.num a + Nd.num b) ByteArray.empty [] [] : Nd (Tr d)) := by
  unfold sumT
  rw [if_neg (by omega), if_neg (by omega), if_neg (by omega), if_pos h]
  rfl
theorem sum_str {d : Nat} {a b : Tr (d + 1)} (h : Nd.kind a = 4) (hb : Nd.kind b = 4) : sumT d a b = some (Nd.mk 4 0 (Nd.str a ++ Nd.str b) [] [] : Nd (Tr d)) := by
  unfold sumT
  rw [if_neg (by omega), if_neg (by omega), if_neg (by omega), if_neg (by omega), if_pos h]
  rfl
theorem sum_row {d : Nat} {a b : Tr (d + 1)} (h : Nd.kind a = 5) (hb : Nd.kind b = 5) : sumT d a b = some (rowT d (Nd.list a ++ Nd.list b)) := by
  unfold sumT
  rw [if_neg (by omega), if_neg (by omega), if_neg (by omega), if_neg (by omega), if_neg (by omega), if_pos h]
theorem sum_map {d : Nat} {a b : Tr (d + 1)} (h : Nd.kind a = 6) (hb : Nd.kind b = 6) : sumT d a b = some (mapT d (putAll (pairsT a) (pairsT b))) := by
  unfold sumT
  rw [if_neg (by omega), if_neg (by omega), if_neg (by omega), if_neg (by omega), if_neg (by omega), if_neg (by omega), if_pos h]
theorem nodes_row2 {d : Nat} {a b : Tr (d + 2)} (ha : okT (d + 2) a = true) (hb : okT (d + 2) b = true) : (nodes (d + 2) (rowT (d + 1) (Nd.list a ++ Nd.list b)) : Int) ≤ 4194304 := by
  have h1 : ∀ y ∈ Nd.list a ++ Nd.list b, nodes (d + 1) y ≤ 300 := fun y hy => by
    rcases List.mem_append.1 hy with h | h
    · exact nodes_ok (okT_part ha h)
    · exact nodes_ok (okT_part hb h)
  have h2 := sum_le_of h1
  have h3 := (okT_kinds ha).2.1
  have h4 := (okT_kinds hb).2.1
  have h5 : nodes (d + 2) (rowT (d + 1) (Nd.list a ++ Nd.list b)) = 1 + ((Nd.list a ++ Nd.list b).map (nodes (d + 1))).sum := rfl
  rw [List.length_append] at h2
  rw [h5]
  omega

/-- The five cells of a tree of a known kind. -/
theorem copy_num (d : Nat) (S : Nat → Prop) (a : Tr (d + 2)) (va : Value) (w : World) (hv : ValAt S w (d + 2) a va) (hS : Within S w) (hok : okT (d + 2) a = true) (h3 : Nd.kind a = 3) :
    Calls Tryz.prog 57 #[va] w fun e w' => ∃ ka kc la lc, e = .returned (.agg #[.int .i64 3, .int .i64 (Nd.num a), .string { data := #[] }, .slice ka 0 kc, .slice la 0 lc]) ∧ Below w.heap.size w w' := by
  refine (l1Copy_any (d + 2) S a va w hv hS (by have := wtT_ok hok; omega)).mono ?_
  rintro e w' ⟨u, rfl, hu, hb⟩
  have hu' := ValOwn.at (d + 2) _ a _ hu
  rw [(num_self hok h3).1] at hu'
  obtain ⟨vk, vl, rfl, _, _, _, hk, hl⟩ := hu'
  obtain ⟨ka, kc, rfl, _⟩ := hk.open'
  obtain ⟨la, lc, rfl, _⟩ := hl.open'
  exact ⟨ka, kc, la, lc, rfl, hb⟩
theorem copy_str (d : Nat) (S : Nat → Prop) (a : Tr (d + 2)) (va : Value) (w : World) (hv : ValAt S w (d + 2) a va) (hS : Within S w) (hok : okT (d + 2) a = true) (h4 : Nd.kind a = 4) :
    Calls Tryz.prog 57 #[va] w fun e w' => ∃ ka kc la lc, e = .returned (.agg #[.int .i64 4, .int .i64 0, .string (Nd.str a), .slice ka 0 kc, .slice la 0 lc]) ∧ Below w.heap.size w w' := by
  refine (l1Copy_any (d + 2) S a va w hv hS (by have := wtT_ok hok; omega)).mono ?_
  rintro e w' ⟨u, rfl, hu, hb⟩
  have hu' := ValOwn.at (d + 2) _ a _ hu
  rw [(str_self hok h4).1] at hu'
  obtain ⟨vk, vl, rfl, _, _, _, hk, hl⟩ := hu'
  obtain ⟨ka, kc, rfl, _⟩ := hk.open'
  obtain ⟨la, lc, rfl, _⟩ := hl.open'
  exact ⟨ka, kc, la, lc, rfl, hb⟩
theorem copy_map (d : Nat) (S : Nat → Prop) (a : Tr (d + 2)) (va : Value) (w : World) (hv : ValAt S w (d + 2) a va) (hS : Within S w) (hok : okT (d + 2) a = true) (h6 : Nd.kind a = 6) :
    Calls Tryz.prog 57 #[va] w fun e w' => ∃ ka kn kc la ln lc, e = .returned (.agg #[.int .i64 6, .int .i64 0, .string { data := #[] }, .slice ka kn kc, .slice la ln lc]) ∧ ValAt (Fresh w w') w' (d + 2) (mapT (d + 1) (pairsT a)) (.agg #[.int .i64 6, .int .i64 0, .string { data := #[] }, .slice ka kn kc, .slice la ln lc]) ∧ Below w.heap.size w w' := by
  refine (l1Copy_any (d + 2) S a va w hv hS (by have := wtT_ok hok; omega)).mono ?_
  rintro e w' ⟨u, rfl, hu, hb⟩
  have hu' := ValOwn.at (d + 2) _ a _ hu
  rw [map_self hok h6] at hu'
  have hu2 := hu'
  obtain ⟨vk, vl, rfl, _, _, _, hk, hl⟩ := hu2
  obtain ⟨ka, kc, rfl, _⟩ := hk.open'
  obtain ⟨la, lc, rfl, _⟩ := hl.open'
  exact ⟨ka, _, kc, la, _, lc, rfl, hu', hb⟩
theorem copy_row (d : Nat) (S : Nat → Prop) (a : Tr (d + 2)) (va : Value) (w : World) (hv : ValAt S w (d + 2) a va) (hS : Within S w) (hok : okT (d + 2) a = true) (h5 : Nd.kind a = 5) :
    Calls Tryz.prog 57 #[va] w fun e w' => ∃ ka kc la lc N vs, e = .returned (.agg #[.int .i64 5, .int .i64 0, .string { data := #[] }, .slice ka 0 kc, .slice la (Nd.list a).length lc]) ∧ VTo (fun b => w.heap.size ≤ b ∧ b < w'.heap.size ∧ some b ≠ (Value.slice la (Nd.list a).length lc).ownBlock) N w' (.slice la (Nd.list a).length lc) (Nd.list a) vs ∧ w.heap.size ≤ N ∧ N ≤ w'.heap.size ∧ Below w.heap.size w w' := by
  refine (l1Copy_own (d + 1) S a va w hv hS (by have h := wtT_ok hok; show (wtT (d + 2) a : Int) ≤ _; omega)).mono ?_
  rintro e w' ⟨vk, lv, N, vs, rfl, hk, hv, h1, h2, hb⟩
  have hs := row_self hok h5
  have e1 : Nd.num a = 0 := by rw [hs]; rfl
  have e2 : Nd.str a = { data := #[] } := by rw [hs]; rfl
  have e3 : Nd.keys a = [] := by rw [hs]; rfl
  rw [e3] at hk
  obtain ⟨ka, kc, rfl, _⟩ := hk.open'
  obtain ⟨la, lc, rfl⟩ := hv.slice
  rw [h5, e1, e2]
  exact ⟨ka, kc, la, lc, N, vs, rfl, hv, h1, h2, hb⟩
theorem OutAt.step1 {d ob : Nat} {S : Nat → Prop} {W wr w2 : World} {acc acc' : List (ByteArray × Tr (d + 1))} {kv lv kv' lv' : Value} (h : OutAt d S ob W wr acc kv lv) (hS : ∀ b, S b → b < ob) (hb : Below wr.heap.size wr w2) (hu : ValAt (fun b => (S b ∨ (ob < b ∧ b < wr.heap.size)) ∨ (wr.heap.size ≤ b ∧ b < w2.heap.size)) w2 (d + 2) (mapT (d + 1) acc') (.agg #[.int .i64 6, .int .i64 0, .string { data := #[] }, kv', lv'])) :
    OutAt d S ob W (set5 w2 ob 0 (.int .i64 6) (.int .i64 0) (.string { data := #[] }) kv' lv') acc' kv' lv' := by
  have hol := h.blk.lt
  have hsz := hb.size
  refine ⟨(h.blk.of_block (hb.block ob hol)).all _ _ _ _ _, ?_, ?_⟩
  · refine ValAt.moved (fun b hb' => set5_block _ _ _ _ _ _ _ _ _ ?_) (fun b hb' => ?_) _ _ _ hu
    · rcases hb' with (hb' | hb') | hb'
      · have := hS b hb'; omega
      · have := hb'.1; omega
      · have := hb'.1; omega
    · rw [set5_size]
      rcases hb' with (hb' | hb') | hb'
      · exact Or.inl hb'
      · exact Or.inr ⟨hb'.1, by have := hb'.2; omega⟩
      · exact Or.inr ⟨by have := hb'.1; omega, hb'.2⟩
  · refine below_set5 ?_ (Nat.le_refl _) _ _ _ _ _ _
    exact ⟨hb.os.trans h.below.os, hb.tape.trans h.below.tape, hb.output.trans h.below.output, by have := h.below.size; omega, fun b hb' => (hb.block b (by omega)).trans (h.below.block b hb')⟩
theorem Blk5.set1 {w : World} {b : Nat} {T : TypeId} {c0 c1 c2 c3 c4 : Value} (h : Blk5 w b T c0 c1 c2 c3 c4) (u : Value) : Blk5 (w.setCell ⟨b, 1, none⟩ u) b T c0 u c2 c3 c4 := by
  unfold Blk5 at h ⊢
  simp [World.setCell, Array.getElem?_modify, h]
theorem Blk5.set2 {w : World} {b : Nat} {T : TypeId} {c0 c1 c2 c3 c4 : Value} (h : Blk5 w b T c0 c1 c2 c3 c4) (u : Value) : Blk5 (w.setCell ⟨b, 2, none⟩ u) b T c0 c1 u c3 c4 := by
  unfold Blk5 at h ⊢
  simp [World.setCell, Array.getElem?_modify, h]
/-- The sums, where they lie. -/
theorem numV (d : Nat) (n : Int) (hn : I64 n) (S : Nat → Prop) (w : World) (ka la : Option Addr) (kc lc : Nat) : ValAt S w (d + 1) (Nd.mk 3 n ByteArray.empty [] [] : Nd (Tr d)) (.agg #[.int .i64 3, .int .i64 n, .string { data := #[] }, .slice ka 0 kc, .slice la 0 lc]) :=
  ⟨_, _, rfl, ⟨by show _ ≤ (3 : Int); omega, by show (3 : Int) ≤ _; omega⟩, hn, by show (0 : Nat) < _; omega, strs_nil _ _ _ _, rowAt_nil _ _ _ _ _⟩
theorem strV (d : Nat) (s : ByteArray) (hn : s.size ≤ 24) (S : Nat → Prop) (w : World) (ka la : Option Addr) (kc lc : Nat) : ValAt S w (d + 1) (Nd.mk 4 0 s [] [] : Nd (Tr d)) (.agg #[.int .i64 4, .int .i64 0, .string s, .slice ka 0 kc, .slice la 0 lc]) :=
  ⟨_, _, rfl, ⟨by show _ ≤ (4 : Int); omega, by show (4 : Int) ≤ _; omega⟩, ⟨by show _ ≤ (0 : Int); omega, by show (0 : Int) ≤ _; omega⟩, by show s.size < _; omega, strs_nil _ _ _ _, rowAt_nil _ _ _ _ _⟩
theorem rowV {d N : Nat} {S : Nat → Prop} {w : World} {xs : List (Tr d)} {vs : List Value} {la : Option Addr} {ln lc : Nat} (h : VTo S N w (.slice la ln lc) xs vs) (hl : xs.length ≤ 1000) (ka : Option Addr) (kc : Nat) : ValAt (fun b => S b ∨ (N ≤ b ∧ b < w.heap.size)) w (d + 1) (rowT d xs) (.agg #[.int .i64 5, .int .i64 0, .string { data := #[] }, .slice ka 0 kc, .slice la ln lc]) :=
  ⟨_, _, rfl, ⟨by show _ ≤ (5 : Int); omega, by show (5 : Int) ≤ _; omega⟩, ⟨by show _ ≤ (0 : Int); omega, by show (0 : Int) ≤ _; omega⟩, by show (0 : Nat) < _; omega, strs_nil _ _ _ _, h.at (by omega)⟩
end Go.Proofs.YtmibjmipndffmaaGreatDoor
