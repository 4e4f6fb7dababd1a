/- Texts of the proof, put together by program: ShelfG, WFlatQ, WAddG. -/
import Derived.Shelf.Spec.SlicesGrow
import Derived.Test.YtoangpfmjohhmaaGreatDoorProg
import Derived.Test.YtoangpfmjohhmaaGreatDoorQ13
/- The library's Grow at this program's numbers: laid by program. -/
namespace Go.Proofs
open Go.Shelf
def Tryz.laysG_ren : Go.Shelf.Ren := ⟨fun | 4 => 103 | n => n, fun | 22 => 118 | 25 => 58 | 3 => 3 | 4 => 4 | 9 => 9 | 20 => 20 | 0 => 0 | n => n, fun | n => n⟩
theorem Tryz.laysG : Go.Proofs.Lays8.n4 Tryz.prog Tryz.laysG_ren := {
  mixed := by kernel_rfl
  f4 := ⟨Tryz.f103.name, by decide, Tryz.func103.trans (congrArg some (by kernel_rfl))⟩
  t0 := Tryz.underlying0
  a0 := Tryz.isAgg0
  z0 := Tryz.sizeOf0
  v0 := Tryz.zeroValue0
  t3 := Tryz.underlying3
  a3 := Tryz.isAgg3
  z3 := Tryz.sizeOf3
  v3 := Tryz.zeroValue3
  t4 := Tryz.underlying4
  a4 := Tryz.isAgg4
  z4 := Tryz.sizeOf4
  v4 := Tryz.zeroValue4
  t9 := Tryz.underlying9
  a9 := Tryz.isAgg9
  z9 := Tryz.sizeOf9
  v9 := Tryz.zeroValue9
  t20 := Tryz.underlying20
  a20 := Tryz.isAgg20
  z20 := Tryz.sizeOf20
  v20 := Tryz.zeroValue20
  t22 := Tryz.underlying118
  a22 := Tryz.isAgg118
  z22 := Tryz.sizeOf118
  v22 := Tryz.zeroValue118 }
end Go.Proofs

/- The program's own trees: one deeper; whole rows of them appended. -/
namespace Go.Proofs.YtoangpfmjohhmaaGreatDoor
open Go.RowKit Go.Deep

theorem Row1At.up {α β : Type} {S : Nat → Prop} {w : World} {At : α → Value → Prop} {At' : β → Value → Prop} {v : Value} {xs : List α} (f : α → β) (h : Row1At S w At v xs) (hi : ∀ x u, At x u → At' (f x) u) : Row1At S w At' v (xs.map f) := by
  obtain ⟨h1, a, cap, hv, h3⟩ := h
  refine ⟨by rw [List.length_map]; exact h1, a, cap, by rw [List.length_map]; exact hv, ?_⟩
  rcases h3 with h3 | ⟨b, o, hB, ha, hc⟩
  · exact Or.inl (by rw [h3]; rfl)
  · refine Or.inr ⟨b, o, hB, ha, fun i x hx => ?_⟩
    rw [List.getElem?_map] at hx
    obtain ⟨y, hy, rfl⟩ := Option.map_eq_some_iff.1 hx
    obtain ⟨u, e0, e1⟩ := hc i y hy
    exact ⟨u, e0, hi _ _ e1⟩
theorem MapG.up {α β : Type} {At : α → Value → Prop} {At' : β → Value → Prop} {es : Array MapEntry} {ps : List (ByteArray × α)} (f : α → β) (h : MapG At es ps) (hi : ∀ x u, At x u → At' (f x) u) : MapG At' es (ps.map (fun p => (p.1, f p.2))) := by
  refine ⟨by rw [List.length_map]; exact h.1, fun i k x hp => ?_⟩
  rw [List.getElem?_map] at hp
  obtain ⟨⟨k', y⟩, hy, e⟩ := Option.map_eq_some_iff.1 hp
  cases e
  obtain ⟨u, e0, e1⟩ := h.2 i k' y hy
  exact ⟨u, e0, hi _ _ e1⟩
theorem zip_up {α β γ : Type} (f : β → γ) : ∀ (ks : List α) (xs : List β), ks.zip (xs.map f) = (ks.zip xs).map (fun p => (p.1, f p.2))
  | [], _ => rfl
  | _ :: _, [] => rfl
  | k :: r, x :: s => by rw [List.map_cons, List.zip_cons_cons, List.zip_cons_cons, List.map_cons, zip_up f r s]
theorem TreeG.up {S : Nat → Prop} {w : World} : ∀ (d : Nat) (t : Tr d) (v : Value), TreeG S w d t v → TreeG S w (d + 1) (up d t) v
  | 0, _, _, h => h.elim
  | d + 1, t, v, h => by
    rcases h with ⟨k, h1, rfl, h3⟩ | ⟨n, h1, rfl, h3⟩ | ⟨s, h1, rfl, h3⟩ | ⟨xs, sv, h1, rfl, h3, hr⟩ | ⟨keys, xs, ps, r, es, h1, h2, h3, h4, rfl, h6, hr, hm, he⟩
    · exact Or.inl ⟨k, h1, rfl, h3⟩
    · exact Or.inr (Or.inl ⟨n, h1, rfl, h3⟩)
    · exact Or.inr (Or.inr (Or.inl ⟨s, h1, rfl, h3⟩))
    · exact Or.inr (Or.inr (Or.inr (Or.inl ⟨xs.map (Go.Proofs.YtoangpfmjohhmaaGreatDoor.up d), sv, by rw [List.length_map]; exact h1, rfl, h3, hr.up (At' := TreeG S w (d + 1)) _ (fun x u hx => TreeG.up d x u hx)⟩)))
    · refine Or.inr (Or.inr (Or.inr (Or.inr ⟨keys, xs.map (Go.Proofs.YtoangpfmjohhmaaGreatDoor.up d), ps.map (fun p => (p.1, Go.Proofs.YtoangpfmjohhmaaGreatDoor.up d p.2)), r, es, by rw [List.length_map]; exact h1, h2, by rw [List.length_map]; exact h3, ?_, rfl, h6, hr, by rw [List.length_map]; exact hm, he.up (At' := TreeG S w (d + 1)) _ (fun x u hx => TreeG.up d x u hx)⟩)))
      rw [zip_up]
      exact h4.map _

/-- A row of the program's that owns its cells; its trees lie in blocks of S. -/
def GF {d : Nat} (S : Nat → Prop) (N : Nat) (w : World) (sv : Value) (xs : List (Tr d)) (vs : List Value) : Prop :=
  w.ownsRow N 58 1 sv xs.length vs ∧ ∀ (j : Nat) (x : Tr d) (u : Value), xs[j]? = some x → vs[j]? = some u → TreeG S w d x u
theorem GF.nil {d : Nat} (S : Nat → Prop) (N : Nat) (w : World) : GF (d := d) S N w (.slice none 0 0) [] [] := ⟨World.ownsRow_nil _ _ _ _, fun j x u h => by simp at h⟩
theorem GF.slice {d N : Nat} {S : Nat → Prop} {w : World} {lv : Value} {xs : List (Tr d)} {vs : List Value} (h : GF S N w lv xs vs) : ∃ a c, lv = .slice a xs.length c := by
  rcases h.1.2 with ⟨rfl, h0⟩ | ⟨g, cap, cur, rfl, _⟩
  · exact ⟨none, 0, by rw [h0]⟩
  · exact ⟨_, _, rfl⟩
theorem GF.grow {d N : Nat} {S : Nat → Prop} {wr w2 : World} {lv lv' : Value} {xs ys : List (Tr d)} {vs us : List Value} (h : GF S N wr lv xs vs) (hs : Same S wr w2) (hy : ∀ (j : Nat) (x : Tr d) (u : Value), ys[j]? = some x → us[j]? = some u → TreeG S wr d x u) (hown : w2.ownsRow N 58 1 lv' (xs.length + ys.length) (vs ++ us)) : GF S N w2 lv' (xs ++ ys) (vs ++ us) := by
  have hlen : vs.length = xs.length := by have := h.1.1; omega
  refine ⟨by rw [List.length_append]; exact hown, fun j x u hx hu => ?_⟩
  by_cases e : j < xs.length
  · rw [List.getElem?_append_left e] at hx
    rw [List.getElem?_append_left (by omega)] at hu
    exact (h.2 j x u hx hu).same hs
  · rw [List.getElem?_append_right (by omega)] at hx
    rw [List.getElem?_append_right (by omega), hlen] at hu
    exact (hy _ x u hx hu).same hs
theorem GF.tree {d N M : Nat} {S : Nat → Prop} {w : World} {sv : Value} {xs : List (Tr d)} {vs : List Value} (h : GF S N w sv xs vs) (hl : xs.length ≤ 1000) (hM : M ≤ N) (hSM : ∀ b, S b → M ≤ b ∧ b < w.heap.size) : TreeG (fun b => M ≤ b ∧ b < w.heap.size) w (d + 1) (rowT d xs) (.iface 120 (.agg #[sv])) := by
  refine Or.inr (Or.inr (Or.inr (Or.inl ⟨xs, sv, hl, rfl, rfl, by omega, ?_⟩)))
  obtain ⟨h1, h2⟩ := h
  have hlen := h1.1
  rw [Nat.mul_one] at hlen
  rcases h1.2 with ⟨rfl, h0⟩ | ⟨g, cap, cur, rfl, hg, hh, _, _, _, _⟩
  · exact ⟨none, 0, by rw [h0], Or.inl (List.eq_nil_of_length_eq_zero h0)⟩
  · refine ⟨some ⟨g, 0, none⟩, cap, rfl, Or.inr ⟨g, 0, ⟨by omega, (Array.getElem?_eq_some_iff.1 hh).1⟩, rfl, fun i x hx => ?_⟩⟩
    have hi := (List.getElem?_eq_some_iff.1 hx).1
    have hvi : vs[i]? = some vs[i] := List.getElem?_eq_getElem (by omega)
    have hc := h1.cells (g := g) rfl i _ hvi
    have hadd : (⟨g, 0, none⟩ : Addr).add i = ⟨g, 0 + i, none⟩ := by unfold Addr.add; split <;> simp_all
    rw [hadd] at hc
    exact ⟨vs[i], hc, (h2 i x _ hx hvi).mono hSM⟩

/-- Trees of the program's, appended behind others. -/
theorem run_append_onto_trees {d N : Nat} {S : Nat → Prop} {w : World} {lv : Value} {xs : List (Tr d)} {vs : List Value} (h : GF S N w lv xs vs) (hSN : ∀ b, S b → b < N) (hN : N ≤ w.heap.size) (ys : List (Tr d)) (al : Option Addr) (cl n : Nat) (ty : TypeId) (hn : n = ys.length) (hv : Row1At S w (TreeG S w d) (.slice al n cl) ys) (hsm : xs.length + ys.length ≤ 100000) :
    ∃ v' w', (Builtin.append_ #[118, 118] ty #[lv, .slice al n cl]).run Tryz.prog w = .ok v' w' ∧ ((∃ vs', GF S N w' v' (xs ++ ys) vs') ∧ w.grownBy w' lv.ownBlock ∧ ∃ a c, v' = .slice a (xs.length + ys.length) c) := by
  subst hn
  obtain ⟨i0, hi, hz0, hz1, hz2⟩ := info_parts Tryz.infoTree
  have hu : Tryz.prog.underlying 118 = some (.slice 58) := Tryz.underlying118
  have hbk : ∀ w', w.grownBy w' lv.ownBlock → Same S w w' := fun w' hgr b hb => hgr.block b (Nat.lt_of_lt_of_le (hSN b hb) hN) (fun e => by have := (h.1.lt b e.symm).1; have := hSN b hb; omega)
  have hfin : ∀ v' w' us, (∀ (j : Nat) (x : Tr d) (u : Value), ys[j]? = some x → us[j]? = some u → TreeG S w d x u) → w'.ownsRow N 58 1 v' (xs.length + ys.length) (vs ++ us) → w.grownBy w' lv.ownBlock → ((∃ vs', GF S N w' v' (xs ++ ys) vs') ∧ w.grownBy w' lv.ownBlock ∧ ∃ a c, v' = .slice a (xs.length + ys.length) c) := fun v' w' us hus ho hgr => by
    have hto := h.grow (hbk w' hgr) hus ho
    obtain ⟨a, c, e⟩ := hto.slice
    rw [List.length_append] at e
    exact ⟨⟨_, hto⟩, hgr, a, c, e⟩
  by_cases h0 : ys = []
  · subst h0
    cases al with
    | none =>
      refine ⟨lv, w, ?_, hfin lv w [] (fun j x u h => by simp at h) (by rw [List.append_nil]; exact h.1) ⟨rfl, rfl, rfl, Nat.le_refl _, fun _ _ _ => rfl⟩⟩
      rcases h.1.2 with ⟨rfl, _⟩ | ⟨g, cap, cur, rfl, _, _, hle, _⟩
      · simp [Builtin.append_, run_underlying hu, sizeOf, typeInfo, hi, Builtin.lenOf, Builtin.firstCells, Result.andThen, hz1]
      · simp [Builtin.append_, run_underlying hu, sizeOf, typeInfo, hi, Builtin.lenOf, Builtin.firstCells, storeCells, Result.andThen, hz1, hle]
    | some a =>
      obtain ⟨v', w', hr, ho, hgr, _⟩ := run_append_own_at (P := Tryz.prog) w N 118 ty 58 i0 .nilIface 1 16 hu hi hz0 hz1 hz2 rfl (by decide) lv xs.length vs h.1 a 0 cl [] rfl (fun j u hj => by simp at hj) (fun u hu => by simp at hu) (by unfold maxLen; omega) (by omega) hN
      exact ⟨v', w', hr, hfin v' w' [] (fun j x u h => by simp at h) ho hgr⟩
  · have hpos : 0 < ys.length := List.length_pos_iff.2 h0
    obtain ⟨_, a', c', hv', h3⟩ := hv
    cases hv'
    rcases h3 with h3 | ⟨b, o, hbS, rfl, hc⟩
    · exact absurd h3 h0
    have hex : ∀ j, j < ys.length → ∃ u, w.cell? ⟨b, o + j, none⟩ = some u ∧ u.oneCell' = true ∧ ∀ x, ys[j]? = some x → TreeG S w d x u := by
      intro j hj
      obtain ⟨u, e0, e1⟩ := hc j _ (List.getElem?_eq_getElem hj)
      obtain ⟨T, u', rfl⟩ := e1.iface
      refine ⟨_, e0, rfl, fun x hx => ?_⟩
      rw [List.getElem?_eq_getElem hj] at hx
      cases hx
      exact e1
    obtain ⟨news, hnl, hnews⟩ : ∃ news : List Value, news.length = ys.length ∧ ∀ j, j < ys.length → ∃ u, news[j]? = some u ∧ w.cell? ⟨b, o + j, none⟩ = some u ∧ u.oneCell' = true ∧ ∀ x, ys[j]? = some x → TreeG S w d x u := by
      refine ⟨(List.range ys.length).map (fun j => (w.cell? ⟨b, o + j, none⟩).getD undef), by simp, fun j hj => ?_⟩
      obtain ⟨u, hu, h1⟩ := hex j hj
      exact ⟨u, by simp [hj, hu], hu, h1⟩
    have hat : ∀ j u, news[j]? = some u → w.cell? ⟨b, o + j, none⟩ = some u ∧ u.oneCell' = true ∧ ∀ x, ys[j]? = some x → TreeG S w d x u := by
      intro j u hj
      obtain ⟨u', h1, h2⟩ := hnews j (by have := (List.getElem?_eq_some_iff.1 hj).1; omega)
      rw [hj] at h1
      cases h1
      exact h2
    have hadd : ∀ j, (⟨b, o, none⟩ : Addr).add j = ⟨b, o + j, none⟩ := fun j => by unfold Addr.add; split <;> simp_all
    obtain ⟨v', w', hr, ho, hgr, _⟩ := run_append_own_at (P := Tryz.prog) w N 118 ty 58 i0 .nilIface 1 16 hu hi hz0 hz1 hz2 rfl (by decide) lv xs.length vs h.1 ⟨b, o, none⟩ ys.length cl news (by omega)
      (fun j u hj => by rw [hadd]; exact (hat j u hj).1) (fun u hu => by obtain ⟨j, hj⟩ := List.getElem?_of_mem hu; exact (hat j u hj).2.1) (by unfold maxLen; omega) (by omega) hN
    exact ⟨v', w', hr, hfin v' w' news (fun j x u hx hu => (hat j u hu).2.2 x hx) ho hgr⟩
end Go.Proofs.YtoangpfmjohhmaaGreatDoor

/- slices.Concat at rows of the program's trees: two of them, one behind the other. -/
namespace Go.Proofs.YtoangpfmjohhmaaGreatDoor
open Go.RowKit Go.Deep

theorem GF.empty {d N g cap : Nat} {S : Nat → Prop} {w : World} {cur : Array Value} (h : w.heap[g]? = some (.cells cur 58 (0, 0))) (hg : N ≤ g) (hc : cur.size = cap) (hm : cap ≤ maxLen) : GF (d := d) S N w (.slice (some ⟨g, 0, none⟩) 0 cap) [] [] :=
  ⟨⟨rfl, Or.inr ⟨g, cap, cur, rfl, hg, h, Nat.zero_le _, hm, by rw [hc, Nat.mul_one], by simp⟩⟩, fun j x u h => by simp at h⟩
theorem grow_nil (d n : Nat) (hn : n ≤ 100000) (S : Nat → Prop) (w : World) :
    Calls Tryz.prog 103 #[.slice none 0 0, .int .i64 (n : Int)] w fun e w' => ∃ a c, e = .returned (.slice a 0 c) ∧ GF (d := d) S w.heap.size w' (.slice a 0 c) [] [] ∧ Below w.heap.size w w' := by
  rcases Nat.eq_zero_or_pos n with rfl | hp
  · refine Calls.mono (Any8.slices_Grow_room Tryz.laysG none 0 0 0 w (Nat.le_refl _) (by omega) (by omega) (by omega)) ?_
    rintro e w' ⟨rfl, rfl⟩
    exact ⟨none, 0, rfl, GF.nil _ _ _, Below.refl _ _⟩
  · obtain ⟨i0, hi, hz0, hz1, hz2⟩ := info_parts Tryz.infoTree
    refine Calls.mono (Any8.slices_Grow_grow Tryz.laysG i0 .nilIface hi hz0 (by rw [hz1]; omega) none 0 0 n [] w (Nat.le_refl _) (by omega) (by rw [hz2]; omega) (by omega) (by simp) (fun _ => rfl) (fun a h => by cases h)) ?_
    rintro e w' ⟨rfl, rfl⟩
    have hge := grownCap_ge w (0 + n) 0 58
    have hle := grownCap_le_maxLen w (0 + n) 0 58 (by unfold maxLen; omega)
    refine ⟨_, _, rfl, GF.empty (heap_alloc_new w.drew _) (Nat.le_refl _) ?_ hle, ⟨rfl, rfl, rfl, by simp, fun b hb => Below.heap_alloc w.drew _ b hb⟩⟩
    have hge2 : n ≤ grownCap w n 0 58 := by rw [Nat.zero_add] at hge; exact hge
    show ((([] : List Value).toArray ++ Builtin.zeroCells (Value.nilIface).cells (0 + n - 0)) ++ Builtin.zeroCells (Value.nilIface).cells (grownCap w (0 + n) 0 58 - (0 + n))).size = grownCap w (0 + n) 0 58
    rw [Array.size_append, Array.size_append, size_zeroCells, size_zeroCells, Nat.zero_add, Nat.sub_zero]
    show 0 + n * 1 + (grownCap w n 0 58 - n) * 1 = _
    omega

/-- The first m of two rows, one behind the other. -/
def twoL {α : Type} (xs ys : List α) (m : Nat) : List α := if m = 0 then [] else if m = 1 then xs else xs ++ ys
set_option maxRecDepth 100000 in
set_option maxHeartbeats 4000000 in
theorem concat_any (d : Nat) (S : Nat → Prop) (xs ys : List (Tr d)) (aa ba : Option Addr) (ca cb g : Nat) (w : World) (hx : Row1At S w (TreeG S w d) (.slice aa xs.length ca) xs) (hy : Row1At S w (TreeG S w d) (.slice ba ys.length cb) ys) (hS : Within S w)
    (c0 : w.cell? ⟨g, 0, none⟩ = some (.slice aa xs.length ca)) (c1 : w.cell? ⟨g, 1, none⟩ = some (.slice ba ys.length cb)) (hg : g < w.heap.size) (hlx : xs.length ≤ 1000) (hly : ys.length ≤ 1000) :
    Calls Tryz.prog 78 #[.slice (some ⟨g, 0, none⟩) 2 2] w fun e w' => ∃ sv vs, e = .returned sv ∧ GF S w.heap.size w' sv (xs ++ ys) vs ∧ Below w.heap.size w w' := by
  have n1 : ¬ ((xs.length : Int) < 0) := by omega
  have n2 : ¬ ((xs.length : Int) + (ys.length : Int) < 0) := by omega
  have w1 : wrap64 (xs.length : Int) = (xs.length : Int) := by unfold wrap64; omega
  have w2 : wrap64 ((xs.length : Int) + (ys.length : Int)) = (xs.length : Int) + (ys.length : Int) := by unfold wrap64; omega
  go_enter Tryz.func78, Tryz.ntmps78
  go_wp2_with fail
  go_loop [3, 11] (fun s i => (i = .int .i64 0 ∧ s = .int .i64 0) ∨ (i = .int .i64 1 ∧ s = .int .i64 (xs.length : Int)) ∨ (i = .int .i64 2 ∧ s = .int .i64 ((xs.length : Int) + (ys.length : Int)))) (fun _ i => 2 - (intOf i).toNat)
  case atStart => exact Or.inl ⟨rfl, rfl⟩
  case round =>
    rcases hrel with ⟨rfl, rfl⟩ | ⟨rfl, rfl⟩ | ⟨rfl, rfl⟩
    · go_wp2_with fail
      go_round
      case rel => exact Or.inr (Or.inl ⟨rfl, by simp⟩)
      case measure => simp [intOf]
    · go_wp2_with fail
      go_round
      case rel => exact Or.inr (Or.inr ⟨rfl, rfl⟩)
      case measure => simp [intOf]
    · go_upto_region 9 with fail
      go_wp2_with fail
      have hgr := hide (grow_nil d (xs.length + ys.length) (by omega) S w)
      rw [show ((xs.length + ys.length : Nat) : Int) = (xs.length : Int) + (ys.length : Int) by omega] at hgr
      refine Calls.mono hgr.out ?_
      rintro e w3 ⟨a0, cap0, rfl, hgf, hb3⟩
      have HX := hide hx
      have HY := hide hy
      have HSX := hide hS
      have hst : Hid (GF S w.heap.size w3 (.slice a0 0 cap0) (twoL xs ys 0) []) := hgf
      have hB3 := hide hb3
      have hc0 := hb3.cell (p := ⟨g, 0, none⟩) hg
      have hc1 := hb3.cell (p := ⟨g, 1, none⟩) hg
      clear hgf hb3 hgr hx hy hS
      go_wp2_with fail
      go_loopw [6, 27] (fun sv i wr => ∃ (m n : Nat) (a : Option Addr) (c : Nat) (vs : List Value), m ≤ 2 ∧ i = .int .i64 (m : Int) ∧ sv = .slice a n c ∧ Hid (GF S w.heap.size wr (.slice a n c) (twoL xs ys m) vs) ∧ Hid (Below w.heap.size w wr)) (fun _ i _ => 2 - (intOf i).toNat)
      case atStart => exact ⟨0, 0, _, _, [], by omega, rfl, rfl, hst, hB3⟩
      case round =>
        clear hst hB3 hc0 hc1
        obtain ⟨m, n, a, c, vs, hm, rfl, rfl, hgf, hbr⟩ := hrel
        have e0 := (hbr.out.cell (p := ⟨g, 0, none⟩) hg).trans c0
        have e1 := (hbr.out.cell (p := ⟨g, 1, none⟩) hg).trans c1
        have hsz := hbr.out.size
        have hmv := HSX.out.same hbr.out
        have hstep : ∀ (zs : List (Tr d)) (za : Option Addr) (zc : Nat), zs.length ≤ 1000 → (twoL xs ys m).length ≤ 1000 → twoL xs ys m ++ zs = twoL xs ys (m + 1) → Row1At S w (TreeG S w d) (.slice za zs.length zc) zs → Hid (∀ ty, ∃ v' w', (Builtin.append_ #[118, 118] ty #[.slice a n c, .slice za zs.length zc]).run Tryz.prog wr = .ok v' w' ∧ Hid (∃ n' a' c' vs', v' = .slice a' n' c' ∧ GF S w.heap.size w' (.slice a' n' c') (twoL xs ys (m + 1)) vs' ∧ Below w.heap.size w w')) := by
          intro zs za zc hzl hml heq hrow ty
          have hrow2 := hrow.moved (At' := TreeG S wr d) hmv (fun _ h => h) (fun x u hx => TreeG.moved hmv (fun _ h => h) d x u hx)
          obtain ⟨v', w', hr, ⟨vs', hv'⟩, hgr, a', c', e⟩ := run_append_onto_trees hgf.out (fun b hb => HSX.out b hb) hsz zs za zc zs.length ty rfl hrow2 (by omega)
          subst e
          have hrow := fun g' hg' => (hgf.out.1.lt g' hg').1
          refine ⟨_, w', hr, _, a', c', vs', rfl, by rw [← heq]; exact hv', ?_⟩
          exact ⟨hgr.os.trans hbr.out.os, hgr.tape.trans hbr.out.tape, hgr.output.trans hbr.out.output, Nat.le_trans hbr.out.size hgr.size, fun b hb => (hgr.block b (by omega) (fun e => by have := hrow b e.symm; omega)).trans (hbr.out.block b hb)⟩
        rcases (by omega : m = 0 ∨ m = 1 ∨ m = 2) with rfl | rfl | rfl
        · have hs := hstep xs aa ca hlx (by simp [twoL]) (by simp [twoL]) HX.out
          have HB := hide hbr.out
          clear hstep hgf hbr hmv hsz
          go_wp2_with (at_builtin; refine wpList_append_run (fun v' w' => Hid (∃ n' a' c' vs', v' = .slice a' n' c' ∧ GF S w.heap.size w' (.slice a' n' c') (twoL xs ys (0 + 1)) vs' ∧ Below w.heap.size w w')) rfl _ _ 118 rfl (.slice a n c) (.slice aa xs.length ca) rfl rfl (hs.out 118) ?_)
          rintro v' w2' hph
          obtain ⟨n', a', c', rfl, ⟨vs', hv'⟩, hb'⟩ := hph.out
          have HV := hide hv'
          have HB' := hide hb'
          clear hph hs hv' hb' HB
          go_wp2_with fail
          go_roundw
          case rel => exact ⟨1, n', a', c', vs', by omega, by go_num, rfl, HV, HB'⟩
          case measure => simp [intOf]
        · have hs := hstep ys ba cb hly (by simp [twoL]; exact hlx) (by simp [twoL]) HY.out
          have HB := hide hbr.out
          clear hstep hgf hbr hmv hsz
          go_wp2_with (at_builtin; refine wpList_append_run (fun v' w' => Hid (∃ n' a' c' vs', v' = .slice a' n' c' ∧ GF S w.heap.size w' (.slice a' n' c') (twoL xs ys (1 + 1)) vs' ∧ Below w.heap.size w w')) rfl _ _ 118 rfl (.slice a n c) (.slice ba ys.length cb) rfl rfl (hs.out 118) ?_)
          rintro v' w2' hph
          obtain ⟨n', a', c', rfl, ⟨vs', hv'⟩, hb'⟩ := hph.out
          have HV := hide hv'
          have HB' := hide hb'
          clear hph hs hv' hb' HB
          go_wp2_with fail
          go_roundw
          case rel => exact ⟨2, n', a', c', vs', by omega, by go_num, rfl, HV, HB'⟩
          case measure => simp [intOf]
        · have HV : Hid (GF S w.heap.size wr (.slice a n c) (xs ++ ys) vs) := hgf.out
          have HB := hide hbr.out
          clear hstep hgf hbr hmv hsz
          go_wp2_with fail
          go_ret
          exact ⟨_, _, rfl, HV.out, HB.out⟩
end Go.Proofs.YtoangpfmjohhmaaGreatDoor
