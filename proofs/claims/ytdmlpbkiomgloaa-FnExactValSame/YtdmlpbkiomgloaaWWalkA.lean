/- (*orderWalk).enter: two lists are laid upon the stack, but where they were met. -/
import Derived.Test.YtdmlpbkiomgloaaWKey
import Derived.Test.YtdmlpbkiomgloaaWImplC
namespace Go.Proofs.Ytdmlpbkiomgloaa
open Go.RowKit Go.Deep

/-- Nothing that lay in w is another in w', but blocks rb and mr, and the row ob. -/
structure But3 (rb mr : Nat) (ob : Option Nat) (w w' : World) : Prop where
  os : w'.os = w.os
  tape : w'.tape = w.tape
  output : w'.output = w.output
  size : w.heap.size ≤ w'.heap.size
  block : ∀ i, i < w.heap.size → i ≠ rb → i ≠ mr → some i ≠ ob → w'.heap[i]? = w.heap[i]?
theorem But3.refl (rb mr : Nat) (ob : Option Nat) (w : World) : But3 rb mr ob w w := ⟨rfl, rfl, rfl, Nat.le_refl _, fun _ _ _ _ _ => rfl⟩
theorem But3.of_below {rb mr : Nat} {ob : Option Nat} {w w' : World} (h : Below w.heap.size w w') : But3 rb mr ob w w' := ⟨h.os, h.tape, h.output, h.size, fun i hi _ _ _ => h.block i hi⟩
theorem But3.trans {rb mr : Nat} {ob : Option Nat} {a b c : World} (h : But3 rb mr ob a b) (k : But3 rb mr ob b c) : But3 rb mr ob a c :=
  ⟨k.os.trans h.os, k.tape.trans h.tape, k.output.trans h.output, Nat.le_trans h.size k.size, fun i hi h1 h2 h3 => (k.block i (Nat.lt_of_lt_of_le hi h.size) h1 h2 h3).trans (h.block i hi h1 h2 h3)⟩
theorem But3.set {rb mr : Nat} {ob : Option Nat} (w : World) (o : Nat) (u : Value) : But3 rb mr ob w (w.setCell ⟨rb, o, none⟩ u) :=
  ⟨rfl, rfl, rfl, by rw [size_setCell1]; exact Nat.le_refl _, fun i _ h1 _ _ => Below.heap_setCell _ _ _ _ h1⟩
theorem But3.map {rb mr : Nat} {ob : Option Nat} (w : World) (o : Obj) : But3 rb mr ob w (withObj w mr o) :=
  ⟨rfl, rfl, rfl, by rw [withObj_size]; exact Nat.le_refl _, fun i _ _ h2 _ => withObj_block _ _ _ _ h2⟩
theorem But3.grown {rb mr : Nat} {ob : Option Nat} {w w' : World} (h : w.grownBy w' ob) : But3 rb mr ob w w' := ⟨h.os, h.tape, h.output, h.size, fun i hi _ _ h3 => h.block i hi h3⟩

/-- Where the walk stands: its own cells, the map of pairs that were met, the stack. -/
structure Walk (w : World) (rb mr base : Nat) (sv : Value) (met : Int) (es : Array MapEntry) (n : Nat) (fl : List Value) : Prop where
  rlt : rb < base
  mlt : mr < base
  ne : rb ≠ mr
  big : base ≤ w.heap.size
  cells : w.heap[rb]? = some (.cells #[sv, .int .i64 met, .map (some mr)] 56 (0, 0))
  map : w.heap[mr]? = some (.map es es.size)
  row : w.ownsRow base 70 3 sv n fl
theorem Walk.cell {w : World} {rb mr base : Nat} {sv : Value} {met : Int} {es : Array MapEntry} {n : Nat} {fl : List Value} (h : Walk w rb mr base sv met es n fl) :
    w.cell? ⟨rb, 0, none⟩ = some sv ∧ w.cell? ⟨rb, 1, none⟩ = some (.int .i64 met) ∧ w.cell? ⟨rb, 2, none⟩ = some (.map (some mr)) := by
  have := h.cells
  simp [World.cell?, this]
theorem Walk.frozen {w : World} {rb mr base : Nat} {sv : Value} {met : Int} {es : Array MapEntry} {n : Nat} {fl : List Value} (h : Walk w rb mr base sv met es n fl) (o : Nat) : w.frozen? ⟨rb, o, none⟩ = false := by
  have := h.cells
  simp [World.frozen?, this]
theorem Walk.own {w : World} {rb mr base : Nat} {sv : Value} {met : Int} {es : Array MapEntry} {n : Nat} {fl : List Value} (h : Walk w rb mr base sv met es n fl) {g : Nat} (e : sv.ownBlock = some g) : base ≤ g := (h.row.lt g e).1
theorem Walk.below {w w' : World} {rb mr base : Nat} {sv : Value} {met : Int} {es : Array MapEntry} {n : Nat} {fl : List Value} (h : Walk w rb mr base sv met es n fl) (hb : Below w.heap.size w w') : Walk w' rb mr base sv met es n fl := by
  have h1 := h.rlt
  have h2 := h.mlt
  have h3 := h.big
  exact ⟨h.rlt, h.mlt, h.ne, Nat.le_trans h.big hb.size, (hb.block rb (by omega)).trans h.cells, (hb.block mr (by omega)).trans h.map, ownsRow_but h.row (But.of_below (rb := rb) hb) h.rlt⟩

/-- A list is laid upon the stack, and the stack's slice is put back. -/
theorem Walk.pushed {w w2 : World} {rb mr base : Nat} {sv sv' : Value} {met : Int} {es : Array MapEntry} {n : Nat} {fl news : List Value} {o : Obj} (h : Walk w rb mr base sv met es n fl)
    (o1 : w2.ownsRow base 70 3 sv' (n + 1) (fl ++ news)) (o2 : (w.alloc o).grownBy w2 sv.ownBlock) :
    (w2.cell? ⟨rb, 0, none⟩ = some sv ∧ w2.frozen? ⟨rb, 0, none⟩ = false) ∧ Walk (w2.setCell ⟨rb, 0, none⟩ sv') rb mr base sv' met es (n + 1) (fl ++ news) ∧ But3 rb mr sv.ownBlock w (w2.setCell ⟨rb, 0, none⟩ sv') := by
  have h1 := h.rlt
  have h2 := h.mlt
  have h3 := h.big
  have hs := o2.size
  rw [World.size_alloc] at hs
  have hnr : ∀ i, i < base → some i ≠ sv.ownBlock := fun i hi e => by have := h.own e.symm; omega
  have hb : ∀ i, i < base → w2.heap[i]? = w.heap[i]? := fun i hi => (o2.block i (by rw [World.size_alloc]; omega) (hnr i hi)).trans (Below.heap_alloc _ _ _ (by omega))
  have hc := (hb rb h1).trans h.cells
  refine ⟨⟨by simp [World.cell?, hc], by simp [World.frozen?, hc]⟩, ⟨h1, h2, h.ne, by rw [size_setCell1]; omega, ?_, ?_, ?_⟩, ?_⟩
  · simp [World.setCell, Array.getElem?_modify, hc]
  · rw [Below.heap_setCell _ _ _ _ (fun e => h.ne e.symm)]
    exact (hb mr h2).trans h.map
  · exact ownsRow_but o1 (But.set rb w2 0 sv') h1
  · exact ((But3.of_below (below_alloc1 w o)).trans (But3.grown o2)).trans (But3.set _ _ _)

theorem cell_three_new (w : World) (a b c : Value) (t : TypeId) : ∀ j u, [a, b, c][j]? = some u → (w.alloc (.cells #[a, b, c] t)).cell? ((⟨w.heap.size, 0, none⟩ : Addr).add j) = some u := by
  intro j u hj
  match j, hj with
  | 0, hj => simp at hj; subst hj; simp [Addr.add]
  | 1, hj => simp at hj; subst hj; simp [Addr.add]
  | 2, hj => simp at hj; subst hj; simp [Addr.add]
  | j + 3, hj => simp at hj

theorem row_succ {w : World} {base : Nat} {e : TypeId} {size n : Nat} {v : Value} {xs : List Value} (h : w.ownsRow base e size v (n + 1) xs) : ∃ g cap, v = .slice (some ⟨g, 0, none⟩) (n + 1) cap := by
  rcases h.2 with ⟨_, h0⟩ | ⟨g, cap, cur, rfl, _⟩
  · omega
  · exact ⟨g, cap, rfl⟩

theorem Try.infoWalk : (Try.prog.info? 70).map (fun i => (i.zero, i.size, i.bytes)) = some (some (.agg #[.slice none 0 0, .slice none 0 0, .int .i64 0]), 3, 56) := by kernel_rfl

set_option maxRecDepth 100000 in
set_option maxHeartbeats 2000000 in
theorem enter_few (rb mr base : Nat) (sv : Value) (met : Int) (es : Array MapEntry) (n : Nat) (fl : List Value) (aa ab : Option Addr) (la lb ca cb : Nat) (w : World) (hw : Walk w rb mr base sv met es n fl)
    (hn : n ≤ 8388608) (hc : ¬ (60 < met ∧ 0 < la ∧ 0 < lb)) :
    Calls Try.prog 41 #[.pointer (some ⟨rb, 0, none⟩), .slice aa la ca, .slice ab lb cb] w fun e w' =>
      e = .returned (.tuple #[]) ∧ ∃ sv', Walk w' rb mr base sv' met es (n + 1) (fl ++ [.slice aa la ca, .slice ab lb cb, .int .i64 0]) ∧ But3 rb mr sv.ownBlock w w' ∧ (sv'.ownBlock = sv.ownBlock ∨ ∀ g, sv'.ownBlock = some g → w.heap.size ≤ g) := by
  obtain ⟨x0, x1, x2⟩ := hw.cell
  have hbig := hw.big
  have HW : Hid (Walk w rb mr base sv met es n fl) := hw
  clear hw
  obtain ⟨i0, hi, hz0, hz1, hz2⟩ := info_parts Try.infoWalk
  have HO : Hid ((w.alloc (.cells #[.slice aa la ca, .slice ab lb cb, .int .i64 0] 70)).ownsRow base 70 3 sv n fl) := HW.out.row.alloc _
  by_cases c1 : 60 < met
  · by_cases c2 : 0 < la
    · have c3 : ¬ 0 < lb := fun h => hc ⟨c1, c2, h⟩
      clear hc
      go_enter Try.func41, Try.ntmps41
      go_wp2_with (at_builtin; refine wpList_append_own_at _ rfl _ _ 54 rfl base 70 i0 (.agg #[.slice none 0 0, .slice none 0 0, .int .i64 0]) 3 56 Try.underlying54 hi hz0 hz1 hz2 rfl (by decide) _ _ _ rfl HO.out ⟨w.heap.size, 0, none⟩ 1 1 [.slice aa la ca, .slice ab lb cb, .int .i64 0] rfl rfl (cell_three_new _ _ _ _ _) ?c2 ?c3 ?c4 ?c5 ?_)
      case c2 => first | (intro y hy; simp at hy; rcases hy with rfl | rfl | rfl <;> rfl) | exact ⟨rfl, rfl, rfl⟩
      case c3 => unfold maxLen; omega
      case c4 => omega
      case c5 => first | (simp; omega) | omega
      intro sv' w2 o1 o2 _ o3
      obtain ⟨sg, sc, rfl⟩ := row_succ o1
      obtain ⟨⟨y0, y1⟩, HH, HB⟩ := HW.out.pushed o1 o2
      have HF : Hid _ := And.intro HH HB
      have H3 : Hid _ := o3
      clear o1 o2 o3 HH HB
      go_wp2_with fail
      go_end0
      refine ⟨rfl, _, HF.out.1, HF.out.2, H3.out.imp id (fun e g hg => ?_)⟩
      rw [e] at hg
      cases hg
      simp
    · clear hc
      go_enter Try.func41, Try.ntmps41
      go_wp2_with (at_builtin; refine wpList_append_own_at _ rfl _ _ 54 rfl base 70 i0 (.agg #[.slice none 0 0, .slice none 0 0, .int .i64 0]) 3 56 Try.underlying54 hi hz0 hz1 hz2 rfl (by decide) _ _ _ rfl HO.out ⟨w.heap.size, 0, none⟩ 1 1 [.slice aa la ca, .slice ab lb cb, .int .i64 0] rfl rfl (cell_three_new _ _ _ _ _) ?c2 ?c3 ?c4 ?c5 ?_)
      case c2 => first | (intro y hy; simp at hy; rcases hy with rfl | rfl | rfl <;> rfl) | exact ⟨rfl, rfl, rfl⟩
      case c3 => unfold maxLen; omega
      case c4 => omega
      case c5 => first | (simp; omega) | omega
      intro sv' w2 o1 o2 _ o3
      obtain ⟨sg, sc, rfl⟩ := row_succ o1
      obtain ⟨⟨y0, y1⟩, HH, HB⟩ := HW.out.pushed o1 o2
      have HF : Hid _ := And.intro HH HB
      have H3 : Hid _ := o3
      clear o1 o2 o3 HH HB
      go_wp2_with fail
      go_end0
      refine ⟨rfl, _, HF.out.1, HF.out.2, H3.out.imp id (fun e g hg => ?_)⟩
      rw [e] at hg
      cases hg
      simp
  · clear hc
    go_enter Try.func41, Try.ntmps41
    go_wp2_with (at_builtin; refine wpList_append_own_at _ rfl _ _ 54 rfl base 70 i0 (.agg #[.slice none 0 0, .slice none 0 0, .int .i64 0]) 3 56 Try.underlying54 hi hz0 hz1 hz2 rfl (by decide) _ _ _ rfl HO.out ⟨w.heap.size, 0, none⟩ 1 1 [.slice aa la ca, .slice ab lb cb, .int .i64 0] rfl rfl (cell_three_new _ _ _ _ _) ?c2 ?c3 ?c4 ?c5 ?_)
    case c2 => first | (intro y hy; simp at hy; rcases hy with rfl | rfl | rfl <;> rfl) | exact ⟨rfl, rfl, rfl⟩
    case c3 => unfold maxLen; omega
    case c4 => omega
    case c5 => first | (simp; omega) | omega
    intro sv' w2 o1 o2 _ o3
    obtain ⟨sg, sc, rfl⟩ := row_succ o1
    obtain ⟨⟨y0, y1⟩, HH, HB⟩ := HW.out.pushed o1 o2
    have HF : Hid _ := And.intro HH HB
    have H3 : Hid _ := o3
    clear o1 o2 o3 HH HB
    go_wp2_with fail
    go_end0
    refine ⟨rfl, _, HF.out.1, HF.out.2, H3.out.imp id (fun e g hg => ?_)⟩
    rw [e] at hg
    cases hg
    simp
end Go.Proofs.Ytdmlpbkiomgloaa
