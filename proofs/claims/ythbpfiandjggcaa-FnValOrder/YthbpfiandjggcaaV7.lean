/- Texts of the proof, put together by program: WImplC. -/
import Derived.Test.YthbpfiandjggcaaV4
/- (*room).trees: a row of the program's own trees. -/
namespace Go.Proofs.Ythbpfiandjggcaa
open Go.RowKit Go.Deep

/-- A row of parts, as long as there is room: whether all are right, and the room that is left. -/
def treesP {α : Type} (f : α → Int → Bool × Int) : List α → Int → Bool × Int
  | [], l => (true, l)
  | x :: r, l => if (f x l).1 = true then treesP f r (f x l).2 else (false, (f x l).2)
/-- One part, with all in it. -/
def treeP : (d : Nat) → Tr d → Int → Int → Bool × Int
  | 0, _, l, _ => (false, l)
  | d + 1, t, l, deep =>
    if takeB l deep = false then (false, l)
    else if Nd.kind t = 0 ∨ Nd.kind t = 1 ∨ Nd.kind t = 2 then (bareB (Nd.num t) (Nd.str t) (Nd.keys t).length (Nd.list t).length, l - 1)
    else if Nd.kind t = 3 then (decide (-1000000 ≤ Nd.num t ∧ Nd.num t ≤ 1000000) && bareB 0 (Nd.str t) (Nd.keys t).length (Nd.list t).length, l - 1)
    else if Nd.kind t = 4 then (strOk (Nd.str t) && bareB (Nd.num t) ByteArray.empty (Nd.keys t).length (Nd.list t).length, l - 1)
    else if Nd.kind t = 5 then ((treesP (fun x l => treeP d x l (deep + 1)) (Nd.list t) (l - 1)).1 && bareB (Nd.num t) (Nd.str t) (Nd.keys t).length 0, (treesP (fun x l => treeP d x l (deep + 1)) (Nd.list t) (l - 1)).2)
    else if Nd.kind t = 6 then
      ((treesP (fun x l => treeP d x l (deep + 1)) (Nd.list t) (l - 1)).1 && ((Nd.keys t).length == (Nd.list t).length) && keysB (Nd.keys t) && bareB (Nd.num t) (Nd.str t) 0 0,
        (treesP (fun x l => treeP d x l (deep + 1)) (Nd.list t) (l - 1)).2)
    else (false, l - 1)

theorem treesP_step {α : Type} (f : α → Int → Bool × Int) {xs : List α} {k : Nat} {x : α} (h : xs[k]? = some x) (l : Int) :
    treesP f (xs.drop k) l = if (f x l).1 = true then treesP f (xs.drop (k + 1)) (f x l).2 else (false, (f x l).2) := by
  obtain ⟨hk, e⟩ := List.getElem?_eq_some_iff.1 h
  rw [List.drop_eq_getElem_cons hk, e, treesP]
theorem takeB_pos {l deep : Int} (h : takeB l deep = true) (h0 : 0 ≤ l) : 1 ≤ l := by
  simp [takeB] at h
  omega
theorem treesP_bd {α : Type} {f : α → Int → Bool × Int} (hf : ∀ x l, 0 ≤ l → 0 ≤ (f x l).2 ∧ (f x l).2 ≤ l) : ∀ (xs : List α) (l : Int), 0 ≤ l → 0 ≤ (treesP f xs l).2 ∧ (treesP f xs l).2 ≤ l
  | [], l, h => ⟨h, Int.le_refl _⟩
  | x :: r, l, h => by
    have h1 := hf x l h
    rw [treesP]
    split
    · have h2 := treesP_bd hf r (f x l).2 h1.1
      omega
    · exact h1
theorem treeP_bd : ∀ (d : Nat) (t : Tr d) (l deep : Int), 0 ≤ l → 0 ≤ (treeP d t l deep).2 ∧ (treeP d t l deep).2 ≤ l
  | 0, _, l, _, h => ⟨h, Int.le_refl _⟩
  | d + 1, t, l, deep, h => by
    rw [treeP]
    cases hb : takeB l deep with
    | false => exact ⟨h, Int.le_refl _⟩
    | true =>
      have h1 := takeB_pos hb h
      have h2 := treesP_bd (f := fun x l => treeP d x l (deep + 1)) (fun x l hl => treeP_bd d x l (deep + 1) hl) (Nd.list t) (l - 1) (by omega)
      rw [if_neg (by simp)]
      split
      · exact ⟨by show 0 ≤ l - 1; omega, by show l - 1 ≤ l; omega⟩
      split
      · exact ⟨by show 0 ≤ l - 1; omega, by show l - 1 ≤ l; omega⟩
      split
      · exact ⟨by show 0 ≤ l - 1; omega, by show l - 1 ≤ l; omega⟩
      split
      · exact ⟨h2.1, by have := h2.2; show (treesP _ _ _).2 ≤ l; omega⟩
      split
      · exact ⟨h2.1, by have := h2.2; show (treesP _ _ _).2 ≤ l; omega⟩
      · exact ⟨by show 0 ≤ l - 1; omega, by show l - 1 ≤ l; omega⟩
/-- A row that is right takes as much room as it has parts, at least. -/
theorem treesP_len {α : Type} {f : α → Int → Bool × Int} (hf : ∀ x l, 0 ≤ l → (f x l).1 = true → 0 ≤ (f x l).2 ∧ (f x l).2 ≤ l - 1) : ∀ (xs : List α) (l : Int), 0 ≤ l → (treesP f xs l).1 = true → (xs.length : Int) ≤ l
  | [], l, h, _ => by simpa using h
  | x :: r, l, h, hb => by
    rw [treesP] at hb
    split at hb
    · rename_i h1
      have h2 := hf x l h h1
      have h3 := treesP_len hf r (f x l).2 h2.1 hb
      simp only [List.length_cons]
      omega
    · cases hb

/-- What (*room).tree does with trees of this depth. -/
def TreeC (d : Nat) : Prop := ∀ (S : Nat → Prop) (t : Tr d) (v : Value) (left deep : Int) (rb : Nat) (w : World), ValAt S w d t v → Within S w → ¬ S rb → Room w rb left → 0 ≤ left → left ≤ 1000 → 0 ≤ deep → deep ≤ 1000 →
    Calls Try.prog 41 #[.pointer (some ⟨rb, 0, none⟩), v, .int .i64 deep] w fun e w' =>
      ∃ u, e = .returned (.tuple #[u, .bool (treeP d t left deep).1]) ∧ ((treeP d t left deep).1 = true → TreeAt (Fresh w w') w' d t u) ∧ Room w' rb (treeP d t left deep).2 ∧ But rb w w'

/-- The blocks from N on that are in w, but the row of the slice sv. -/
def Aside (N : Nat) (w : World) (sv : Value) (b : Nat) : Prop := N ≤ b ∧ b < w.heap.size ∧ some b ≠ sv.ownBlock

/-- The first k trees of a row that is being made. -/
def TreesTo {d : Nat} (N : Nat) (w : World) (sv : Value) (xs : List (Tr d)) (k : Nat) (vs : List Value) : Prop :=
  w.ownsRow N 48 1 sv k vs ∧ ∀ j x u, j < k → xs[j]? = some x → vs[j]? = some u → TreeAt (Aside N w sv) w d x u

theorem Try.infoTree : (Try.prog.info? 48).map (fun i => (i.zero, i.size, i.bytes)) = some (some .nilIface, 1, 16) := by kernel_rfl

theorem But.alloc {rb : Nat} {w w' : World} (h : But rb w w') (o : Obj) : But rb w (w'.alloc o) := h.trans (But.of_below (below_alloc1 _ _))
theorem ownsRow_but {N e size n rb : Nat} {w w' : World} {sv : Value} {vs : List Value} (h : w.ownsRow N e size sv n vs) (hb : But rb w w') (hr : rb < N) : w'.ownsRow N e size sv n vs := by
  refine h.kept hb ?_
  cases hv : sv.ownBlock with
  | none => exact Or.inl rfl
  | some g =>
    refine Or.inr (fun e => ?_)
    cases e
    have := (h.lt rb hv).1
    omega

theorem TreesTo.step {d N rb k : Nat} {wr wA w1 w2 : World} {sv sv' u : Value} {xs : List (Tr d)} {vs : List Value} {x : Tr d} {o : Obj} (h : TreesTo N wr sv xs k vs) (hr : rb < N) (hA : Below wr.heap.size wr wA) (hb : But rb wA w1)
    (hx : xs[k]? = some x) (hu : TreeAt (Fresh wA w1) w1 d x u) (hown : w2.ownsRow N 48 1 sv' (k + 1) (vs ++ [u])) (hg : (w1.alloc o).grownBy w2 sv.ownBlock)
    (hw : sv'.ownBlock = sv.ownBlock ∨ sv'.ownBlock = some (w1.alloc o).heap.size) (hN : N ≤ wr.heap.size) : TreesTo N w2 sv' xs (k + 1) (vs ++ [u]) := by
  obtain ⟨h1, h2⟩ := h
  have hlen : vs.length = k := by have := h1.1; omega
  have hs1 := hA.size
  have hs2 := hb.size
  have hs3 := hg.size
  have hz : (w1.alloc o).heap.size = w1.heap.size + 1 := by simp
  rw [hz] at hs3 hw
  -- a block that lay in w1 and is not the row's lies in w2 as it did
  have hlast : ∀ b, b < w1.heap.size → some b ≠ sv.ownBlock → w2.heap[b]? = w1.heap[b]? := fun b hb1 hb2 =>
    (hg.block b (by omega) hb2).trans (Below.heap_alloc _ _ _ hb1)
  have hne : ∀ b, b < w1.heap.size → some b ≠ sv.ownBlock → some b ≠ sv'.ownBlock := fun b hb1 hb2 => by
    rcases hw with e | e
    · rw [e]; exact hb2
    · rw [e]; intro e2; cases e2; omega
  refine ⟨hown, fun j y v hj hy hv => ?_⟩
  by_cases e : j = k
  · subst e
    rw [hx] at hy
    cases hy
    rw [List.getElem?_append_right (by omega), hlen, Nat.sub_self] at hv
    cases hv
    have hoff : ∀ b, Fresh wA w1 b → some b ≠ sv.ownBlock := fun b hb e => by
      have := (h1.lt b e.symm).2
      have := hb.1
      omega
    exact TreeAt.moved (fun b hb => hlast b hb.2 (hoff b hb)) (fun b hb => ⟨by have := hb.1; omega, by have := hb.2; omega, hne b hb.2 (hoff b hb)⟩) d x u hu
  · rw [List.getElem?_append_left (by omega)] at hv
    have h3 := h2 j y v (by omega) hy hv
    refine TreeAt.moved (fun b hB => ?_) (fun b hB => ⟨hB.1, by have := hB.2.1; omega, hne b (by have := hB.2.1; omega) hB.2.2⟩) d y v h3
    have hb2 := hB.2.1
    rw [hlast b (by omega) hB.2.2, hb.block b (by omega) (fun e => by cases e; have := hB.1; omega), hA.block b hb2]

theorem TreesTo.done {d N : Nat} {w w' : World} {sv : Value} {xs : List (Tr d)} {vs : List Value} (h : TreesTo N w' sv xs xs.length vs) (hN : N = w.heap.size) (hl : xs.length < 17592186044416) :
    Row1At (Fresh w w') w' (TreeAt (Fresh w w') w' d) sv xs := by
  obtain ⟨h1, h2⟩ := h
  refine ⟨hl, ?_⟩
  have hlen := h1.1
  rw [Nat.mul_one] at hlen
  rcases h1.2 with ⟨rfl, h0⟩ | ⟨g, cap, cur, rfl, hg, hh, _, _, _, _⟩
  · exact ⟨none, 0, by rw [h0], Or.inl (List.eq_nil_of_length_eq_zero h0)⟩
  · refine ⟨some ⟨g, 0, none⟩, cap, rfl, Or.inr ⟨g, 0, ⟨by omega, (Array.getElem?_eq_some_iff.1 hh).1⟩, rfl, fun i x hx => ?_⟩⟩
    have hi := (List.getElem?_eq_some_iff.1 hx).1
    have hvi : vs[i]? = some vs[i] := List.getElem?_eq_getElem (by omega)
    have hc := h1.cells (g := g) rfl i _ hvi
    have hadd : (⟨g, 0, none⟩ : Addr).add i = ⟨g, 0 + i, none⟩ := by unfold Addr.add; split <;> simp_all
    rw [hadd] at hc
    exact ⟨vs[i], hc, TreeAt.moved (fun _ _ => rfl) (fun b hb => ⟨by have := hb.1; omega, hb.2.1⟩) d x _ (h2 i x _ hi hx hvi)⟩

set_option maxHeartbeats 2000000 in
theorem trees_own (d : Nat) (H : TreeC d) (S : Nat → Prop) (xs : List (Tr d)) (v : Value) (left deep : Int) (rb : Nat) (w : World) (hv : RowAt S w (ValAt S w d) v xs) (hS : Within S w) (hrb : ¬ S rb) (hr : Room w rb left)
    (h0 : 0 ≤ left) (h1 : left ≤ 1000) (g0 : 0 ≤ deep) (g1 : deep ≤ 1000) :
    Calls Try.prog 51 #[.pointer (some ⟨rb, 0, none⟩), v, .int .i64 deep] w fun e w' =>
      ∃ a n c, e = .returned (.tuple #[.slice a n c, .bool (treesP (fun x l => treeP d x l deep) xs left).1]) ∧
        ((treesP (fun x l => treeP d x l deep) xs left).1 = true → ∃ vs, TreesTo w.heap.size w' (.slice a n c) xs xs.length vs) ∧ Room w' rb (treesP (fun x l => treeP d x l deep) xs left).2 ∧ But rb w w' := by
  obtain ⟨a, cap, rfl, hlen⟩ := hv.open'
  have hrbN := hr.lt
  go_enter Try.func51, Try.ntmps51
  go_wp2_with fail
  go_loopw [8, 15] (fun sv i wr => ∃ (k : Nat) (l : Int) (vs : List Value), k ≤ xs.length ∧ i = .int .i64 k ∧ Hid (TreesTo w.heap.size wr sv xs k vs) ∧ 0 ≤ l ∧ l ≤ 1000 ∧ Hid (Room wr rb l) ∧ Hid (But rb w wr) ∧
      Hid (treesP (fun x l => treeP d x l deep) xs left = treesP (fun x l => treeP d x l deep) (xs.drop k) l)) (fun _ i _ => xs.length - (intOf i).toNat)
  case atStart => exact ⟨0, left, [], Nat.zero_le _, rfl, ⟨World.ownsRow_nil _ _ _ _, fun j x u hj => by omega⟩, h0, h1, hr, But.refl _ _, rfl⟩
  case round =>
    clear hr
    obtain ⟨k, l, vs, hk, rfl, htr, hl0, hl1, hroom, hbut, hfin⟩ := hrel
    by_cases hkl : k < xs.length
    · obtain ⟨b, o, x, c0, c1, c2, c3, c4, rfl, hb, hx, e0, e1, e2, e3, e4, hval⟩ := (hv.same (hbut.out.same hS hrb)).cell hkl
      obtain ⟨q0, q1, q2, q3, q4, q5, q6, q7, q8, hq⟩ := hval.shape
      cases hq
      have hst : Hid (_ = _) := treesP_step (fun x l => treeP d x l deep) hx l
      have hbd := treeP_bd d x l deep hl0
      go_wp2_with fail
      have hA := below_alloc1 wr (.cells #[.int .i64 q0, .int .i64 q1, .string q2, .slice q3 q4 q5, .slice q6 q7 q8] 26)
      have hSw := hS.later hbut.out.size
      refine (H S x _ l deep rb _ (hval.same (hSw.same hA)) (hSw.later hA.size) hrb (hroom.out.below hA) hl0 hl1 g0 g1).mono ?_
      rintro e w1 ⟨u, rfl, hu, hroom1, hbut1⟩
      have hroom1' : Hid (Room w1 rb (treeP d x l deep).2) := hroom1
      have hbut2 : Hid (But rb w w1) := (hbut.out.trans (But.of_below hA)).trans hbut1
      cases hf : (treeP d x l deep).1 with
      | false =>
        have hfin2 : Hid (treesP (fun x l => treeP d x l deep) xs left = (false, (treeP d x l deep).2)) := by
          show treesP (fun x l => treeP d x l deep) xs left = _
          rw [hfin.out, hst.out, hf]
          rfl
        clear hfin hst hroom1 hbut1 hu htr hroom hbut hval hv e0 e1 e2 e3 e4 hx hSw hA
        go_wp2_with fail
        go_ret2
        rw [hfin2.out]
        exact ⟨none, 0, 0, rfl, fun h => absurd h (by simp), hroom1'.out, hbut2.out⟩
      | true =>
        have hu1 := hu hf
        obtain ⟨T, u', rfl⟩ := hu1.iface
        have hfin2 : Hid (treesP (fun x l => treeP d x l deep) xs left = treesP (fun x l => treeP d x l deep) (xs.drop (k + 1)) (treeP d x l deep).2) := by
          show treesP (fun x l => treeP d x l deep) xs left = _
          rw [hfin.out, hst.out, hf]
          rfl
        have hown1 := ownsRow_but htr.out.1 ((But.of_below hA).trans hbut1) hrbN
        have hNs : w.heap.size ≤ wr.heap.size := hbut.out.size
        have hN1 : w.heap.size ≤ w1.heap.size := hbut2.out.size
        have hstep : Hid (∀ sv' w2, w2.ownsRow w.heap.size 48 1 sv' (k + 1) (vs ++ [.iface T u']) → (w1.alloc (.cells #[.iface T u'] 48)).grownBy w2 (u8.ownBlock) →
            (sv'.ownBlock = u8.ownBlock ∨ sv'.ownBlock = some (w1.alloc (.cells #[.iface T u'] 48)).heap.size) →
            TreesTo w.heap.size w2 sv' xs (k + 1) (vs ++ [.iface T u']) ∧ Room w2 rb (treeP d x l deep).2 ∧ But rb w w2) := by
          intro sv' w2 o1 o2 o3
          have hrow : ∀ g, u8.ownBlock = some g → w.heap.size ≤ g := fun g hg => (htr.out.1.lt g hg).1
          have hrb2 : w2.heap[rb]? = w1.heap[rb]? := (o2.block rb (by simp; omega) (fun e => by have := hrow rb e.symm; omega)).trans (Below.heap_alloc _ _ _ (by omega))
          refine ⟨htr.out.step hrbN hA hbut1 hx hu1 o1 o2 o3 hNs, hrb2.trans hroom1, ?_⟩
          have hb3 := hbut2.out
          refine ⟨o2.os.trans hb3.os, o2.tape.trans hb3.tape, o2.output.trans hb3.output, Nat.le_trans hb3.size (Nat.le_trans (by simp) o2.size), fun i hi hn => ?_⟩
          exact ((o2.block i (by simp; omega) (fun e => by have := hrow i e.symm; omega)).trans (Below.heap_alloc _ _ _ (by omega))).trans (hb3.block i hi hn)
        obtain ⟨i0, hi, hz0, hz1, hz2⟩ := info_parts Try.infoTree
        have hown2 := hown1.alloc (.cells #[.iface T u'] 48)
        have HO : Hid _ := hown2
        clear hown2 hown1 hfin hst hroom1 hbut1 hu hu1 htr hroom hbut hval hv e0 e1 e2 e3 e4 hx hSw hA
        go_wp2_with (at_builtin; refine wpList_append_own_at _ rfl _ _ 86 rfl w.heap.size 48 i0 .nilIface 1 16 Try.underlying86 hi hz0 hz1 hz2 rfl (by decide) _ _ _ rfl HO.out ⟨w1.heap.size, 0, none⟩ 1 1 [.iface T u'] rfl rfl (cell_one_new _ _ _) ?c2 ?c3 ?c4 ?c5 ?_)
        case c2 => intro y hy; simp at hy; subst hy; rfl
        case c3 => unfold maxLen; omega
        case c4 => omega
        case c5 => simp; omega
        · intro sv' w2 o1 o2 _ o3
          have HH : Hid _ := hstep.out sv' w2 o1 o2 (by rw [World.size_alloc]; exact o3)
          clear o1 o2 o3 hstep HO
          go_wp2_with fail
          go_roundw
          case rel => exact ⟨k + 1, (treeP d x l deep).2, _, by omega, by go_num, HH.out.1, hbd.1, by omega, HH.out.2.1, HH.out.2.2, hfin2⟩
          case measure => simp [intOf]; omega
    · obtain rfl : k = xs.length := by omega
      have hfin2 : Hid (treesP (fun x l => treeP d x l deep) xs left = (true, l)) := by
        show treesP (fun x l => treeP d x l deep) xs left = _
        rw [hfin.out, List.drop_eq_nil_of_le (Nat.le_refl _)]
        rfl
      have hdone := htr.out.done (w := w) rfl (by omega)
      obtain ⟨sa, sc, hsv, _⟩ := hdone.open'
      subst hsv
      have HD : Hid (∃ vs, TreesTo w.heap.size wr (.slice sa xs.length sc) xs xs.length vs) := ⟨vs, htr.out⟩
      clear hdone htr hfin
      go_wp2_with fail
      go_ret2
      rw [hfin2.out]
      exact ⟨_, _, _, rfl, fun _ => HD.out, hroom.out, hbut.out⟩

theorem trees_any (d : Nat) (H : TreeC d) (S : Nat → Prop) (xs : List (Tr d)) (v : Value) (left deep : Int) (rb : Nat) (w : World) (hv : RowAt S w (ValAt S w d) v xs) (hS : Within S w) (hrb : ¬ S rb) (hr : Room w rb left)
    (h0 : 0 ≤ left) (h1 : left ≤ 1000) (g0 : 0 ≤ deep) (g1 : deep ≤ 1000) :
    Calls Try.prog 51 #[.pointer (some ⟨rb, 0, none⟩), v, .int .i64 deep] w fun e w' =>
      ∃ a n c, e = .returned (.tuple #[.slice a n c, .bool (treesP (fun x l => treeP d x l deep) xs left).1]) ∧
        ((treesP (fun x l => treeP d x l deep) xs left).1 = true → Row1At (Fresh w w') w' (TreeAt (Fresh w w') w' d) (.slice a n c) xs) ∧ Room w' rb (treesP (fun x l => treeP d x l deep) xs left).2 ∧ But rb w w' := by
  obtain ⟨_, _, _, hlen⟩ := hv.open'
  refine (trees_own d H S xs v left deep rb w hv hS hrb hr h0 h1 g0 g1).mono ?_
  rintro e w' ⟨a, n, c, he, htr, h1, h2⟩
  exact ⟨a, n, c, he, fun h => by obtain ⟨vs, hvs⟩ := htr h; exact hvs.done rfl (by omega), h1, h2⟩

/-- The row's own memory and its trees, in a world with more in it. -/
theorem TreesTo.moved {d N M k : Nat} {w w' : World} {sv : Value} {xs : List (Tr d)} {vs : List Value} (h : TreesTo N w sv xs k vs) (hb : Below w.heap.size w w') (hM : M ≤ N) : TreesTo M w' sv xs k vs := by
  obtain ⟨h1, h2⟩ := h
  have hz := hb.size
  refine ⟨⟨h1.1, ?_⟩, fun j x u hj hx hu => TreeAt.moved (fun b hb' => hb.block b hb'.2.1) (fun b hb' => ⟨Nat.le_trans hM hb'.1, by have := hb'.2.1; omega, hb'.2.2⟩) d x u (h2 j x u hj hx hu)⟩
  rcases h1.2 with h | ⟨g, cap, cur, hv, hg, hh, hrest⟩
  · exact Or.inl h
  · exact Or.inr ⟨g, cap, cur, hv, Nat.le_trans hM hg, (hb.block g (Array.getElem?_eq_some_iff.1 hh).1).trans hh, hrest⟩
end Go.Proofs.Ythbpfiandjggcaa
