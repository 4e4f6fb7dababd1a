/- Texts of the proof, put together by program: ShelfG, WRowO, WFlatP, WFlatQ, WAddG, WAddI. -/
import Derived.Shelf.Spec.SlicesGrow
import Derived.Test.YtilgbnnjecpneaaGreatDoorProg
import Derived.Test.YtilgbnnjecpneaaGreatDoorU24
import Derived.Test.YtilgbnnjecpneaaGreatDoorU12
import Derived.Test.YtilgbnnjecpneaaGreatDoorU21
import Derived.Test.YtilgbnnjecpneaaGreatDoorU11
import Derived.Test.YtilgbnnjecpneaaGreatDoorU22
/- The library's Grow at this program's numbers: laid by program. -/
namespace Go.Proofs
open Go.Shelf
def Tryz.laysG_ren : Go.Shelf.Ren := ⟨fun | 4 => 100 | n => n, fun | 22 => 74 | 25 => 64 | 3 => 3 | 4 => 4 | 9 => 9 | 20 => 20 | 0 => 0 | n => n, fun | n => n⟩
theorem Tryz.laysG : Go.Proofs.Lays8.n4 Tryz.prog Tryz.laysG_ren := {
  mixed := by kernel_rfl
  f4 := ⟨Tryz.f100.name, by decide, Tryz.func100.trans (congrArg some (by kernel_rfl))⟩
  t0 := Tryz.underlying0
  a0 := Tryz.isAgg0
  z0 := Tryz.sizeOf0
  v0 := Tryz.zeroValue0
  t3 := Tryz.underlying3
  a3 := Tryz.isAgg3
  z3 := Tryz.sizeOf3
  v3 := Tryz.zeroValue3
  t4 := Tryz.underlying4
  a4 := Tryz.isAgg4
  z4 := Tryz.sizeOf4
  v4 := Tryz.zeroValue4
  t9 := Tryz.underlying9
  a9 := Tryz.isAgg9
  z9 := Tryz.sizeOf9
  v9 := Tryz.zeroValue9
  t20 := Tryz.underlying20
  a20 := Tryz.isAgg20
  z20 := Tryz.sizeOf20
  v20 := Tryz.zeroValue20
  t22 := Tryz.underlying74
  a22 := Tryz.isAgg74
  z22 := Tryz.sizeOf74
  v22 := Tryz.zeroValue74 }
end Go.Proofs

/- l4Of of the model. -/
namespace Go.Proofs.YtilgbnnjecpneaaGreatDoor
open Go.RowKit Go.Deep

theorem l4Of_any (a : Option Addr) (n c : Nat) (w : World) : Calls Tryz.prog 34 #[.slice a n c] w fun e w' => e = .returned (.agg #[.int .i64 5, .int .i64 0, .string ByteArray.empty, .slice none 0 0, .slice a n c]) ∧ Below w.heap.size w w' := by
  go_enter Tryz.func34, Tryz.ntmps34
  go_wp2_with fail
  exact bodyPost_ret (v := .agg #[.int .i64 5, .int .i64 0, .string ByteArray.empty, .slice none 0 0, .slice a n c]) (by simp [results, Tryz.results34, go_sem]; rfl) rfl ⟨rfl, below_alloc1 _ _⟩
end Go.Proofs.YtilgbnnjecpneaaGreatDoor

/- RowFlat: the flat row; whole rows appended. -/
namespace Go.Proofs.YtilgbnnjecpneaaGreatDoor
open Go.RowKit Go.Deep

/-- A tree's kind and list, out of its five cells. -/
theorem ValAt.parts {S : Nat → Prop} {w : World} {d : Nat} {t : Tr (d + 1)} {k n : Int} {s : ByteArray} {ak al : Option Addr} {lk ck ll cl : Nat} (h : ValAt S w (d + 1) t (.agg #[.int .i64 k, .int .i64 n, .string s, .slice ak lk ck, .slice al ll cl])) :
    k = Nd.kind t ∧ ll = (Nd.list t).length ∧ RowAt S w (ValAt S w d) (.slice al ll cl) (Nd.list t) := by
  obtain ⟨vk, vl, hv, i1, i2, i3, hk, hl⟩ := h
  obtain ⟨a, c, rfl, _⟩ := hl.open'
  simp at hv
  obtain ⟨rfl, _, _, _, rfl, rfl, rfl⟩ := hv
  exact ⟨rfl, rfl, hl⟩

end Go.Proofs.YtilgbnnjecpneaaGreatDoor

/- The program's own trees: one deeper; whole rows of them appended. -/
namespace Go.Proofs.YtilgbnnjecpneaaGreatDoor
open Go.RowKit Go.Deep

theorem Row1At.up {α β : Type} {S : Nat → Prop} {w : World} {At : α → Value → Prop} {At' : β → Value → Prop} {v : Value} {xs : List α} (f : α → β) (h : Row1At S w At v xs) (hi : ∀ x u, At x u → At' (f x) u) : Row1At S w At' v (xs.map f) := by
  obtain ⟨h1, a, cap, hv, h3⟩ := h
  refine ⟨by rw [List.length_map]; exact h1, a, cap, by rw [List.length_map]; exact hv, ?_⟩
  rcases h3 with h3 | ⟨b, o, hB, ha, hc⟩
  · exact Or.inl (by rw [h3]; rfl)
  · refine Or.inr ⟨b, o, hB, ha, fun i x hx => ?_⟩
    rw [List.getElem?_map] at hx
    obtain ⟨y, hy, rfl⟩ := Option.map_eq_some_iff.1 hx
    obtain ⟨u, e0, e1⟩ := hc i y hy
    exact ⟨u, e0, hi _ _ e1⟩
theorem MapG.up {α β : Type} {At : α → Value → Prop} {At' : β → Value → Prop} {es : Array MapEntry} {ps : List (ByteArray × α)} (f : α → β) (h : MapG At es ps) (hi : ∀ x u, At x u → At' (f x) u) : MapG At' es (ps.map (fun p => (p.1, f p.2))) := by
  refine ⟨by rw [List.length_map]; exact h.1, fun i k x hp => ?_⟩
  rw [List.getElem?_map] at hp
  obtain ⟨⟨k', y⟩, hy, e⟩ := Option.map_eq_some_iff.1 hp
  cases e
  obtain ⟨u, e0, e1⟩ := h.2 i k' y hy
  exact ⟨u, e0, hi _ _ e1⟩
theorem zip_up {α β γ : Type} (f : β → γ) : ∀ (ks : List α) (xs : List β), ks.zip (xs.map f) = (ks.zip xs).map (fun p => (p.1, f p.2))
  | [], _ => rfl
  | _ :: _, [] => rfl
  | k :: r, x :: s => by rw [List.map_cons, List.zip_cons_cons, List.zip_cons_cons, List.map_cons, zip_up f r s]
theorem TreeG.up {S : Nat → Prop} {w : World} : ∀ (d : Nat) (t : Tr d) (v : Value), TreeG S w d t v → TreeG S w (d + 1) (up d t) v
  | 0, _, _, h => h.elim
  | d + 1, t, v, h => by
    rcases h with ⟨k, h1, rfl, h3⟩ | ⟨n, h1, rfl, h3⟩ | ⟨s, h1, rfl, h3⟩ | ⟨xs, sv, h1, rfl, h3, hr⟩ | ⟨keys, xs, ps, r, es, h1, h2, h3, h4, rfl, h6, hr, hm, he⟩
    · exact Or.inl ⟨k, h1, rfl, h3⟩
    · exact Or.inr (Or.inl ⟨n, h1, rfl, h3⟩)
    · exact Or.inr (Or.inr (Or.inl ⟨s, h1, rfl, h3⟩))
    · exact Or.inr (Or.inr (Or.inr (Or.inl ⟨xs.map (Go.Proofs.YtilgbnnjecpneaaGreatDoor.up d), sv, by rw [List.length_map]; exact h1, rfl, h3, hr.up (At' := TreeG S w (d + 1)) _ (fun x u hx => TreeG.up d x u hx)⟩)))
    · refine Or.inr (Or.inr (Or.inr (Or.inr ⟨keys, xs.map (Go.Proofs.YtilgbnnjecpneaaGreatDoor.up d), ps.map (fun p => (p.1, Go.Proofs.YtilgbnnjecpneaaGreatDoor.up d p.2)), r, es, by rw [List.length_map]; exact h1, h2, by rw [List.length_map]; exact h3, ?_, rfl, h6, hr, by rw [List.length_map]; exact hm, he.up (At' := TreeG S w (d + 1)) _ (fun x u hx => TreeG.up d x u hx)⟩)))
      rw [zip_up]
      exact h4.map _

/-- A row of the program's that owns its cells; its trees lie in blocks of S. -/
def GF {d : Nat} (S : Nat → Prop) (N : Nat) (w : World) (sv : Value) (xs : List (Tr d)) (vs : List Value) : Prop :=
  w.ownsRow N 64 1 sv xs.length vs ∧ ∀ (j : Nat) (x : Tr d) (u : Value), xs[j]? = some x → vs[j]? = some u → TreeG S w d x u
theorem GF.nil {d : Nat} (S : Nat → Prop) (N : Nat) (w : World) : GF (d := d) S N w (.slice none 0 0) [] [] := ⟨World.ownsRow_nil _ _ _ _, fun j x u h => by simp at h⟩
theorem GF.slice {d N : Nat} {S : Nat → Prop} {w : World} {lv : Value} {xs : List (Tr d)} {vs : List Value} (h : GF S N w lv xs vs) : ∃ a c, lv = .slice a xs.length c := by
  rcases h.1.2 with ⟨rfl, h0⟩ | ⟨g, cap, cur, rfl, _⟩
  · exact ⟨none, 0, by rw [h0]⟩
  · exact ⟨_, _, rfl⟩
theorem GF.grow {d N : Nat} {S : Nat → Prop} {wr w2 : World} {lv lv' : Value} {xs ys : List (Tr d)} {vs us : List Value} (h : GF S N wr lv xs vs) (hs : Same S wr w2) (hy : ∀ (j : Nat) (x : Tr d) (u : Value), ys[j]? = some x → us[j]? = some u → TreeG S wr d x u) (hown : w2.ownsRow N 64 1 lv' (xs.length + ys.length) (vs ++ us)) : GF S N w2 lv' (xs ++ ys) (vs ++ us) := by
  have hlen : vs.length = xs.length := by have := h.1.1; omega
  refine ⟨by rw [List.length_append]; exact hown, fun j x u hx hu => ?_⟩
  by_cases e : j < xs.length
  · rw [List.getElem?_append_left e] at hx
    rw [List.getElem?_append_left (by omega)] at hu
    exact (h.2 j x u hx hu).same hs
  · rw [List.getElem?_append_right (by omega)] at hx
    rw [List.getElem?_append_right (by omega), hlen] at hu
    exact (hy _ x u hx hu).same hs
theorem GF.tree {d N M : Nat} {S : Nat → Prop} {w : World} {sv : Value} {xs : List (Tr d)} {vs : List Value} (h : GF S N w sv xs vs) (hl : xs.length ≤ 1000) (hM : M ≤ N) (hSM : ∀ b, S b → M ≤ b ∧ b < w.heap.size) : TreeG (fun b => M ≤ b ∧ b < w.heap.size) w (d + 1) (rowT d xs) (.iface 80 (.agg #[sv])) := by
  refine Or.inr (Or.inr (Or.inr (Or.inl ⟨xs, sv, hl, rfl, rfl, by omega, ?_⟩)))
  obtain ⟨h1, h2⟩ := h
  have hlen := h1.1
  rw [Nat.mul_one] at hlen
  rcases h1.2 with ⟨rfl, h0⟩ | ⟨g, cap, cur, rfl, hg, hh, _, _, _, _⟩
  · exact ⟨none, 0, by rw [h0], Or.inl (List.eq_nil_of_length_eq_zero h0)⟩
  · refine ⟨some ⟨g, 0, none⟩, cap, rfl, Or.inr ⟨g, 0, ⟨by omega, (Array.getElem?_eq_some_iff.1 hh).1⟩, rfl, fun i x hx => ?_⟩⟩
    have hi := (List.getElem?_eq_some_iff.1 hx).1
    have hvi : vs[i]? = some vs[i] := List.getElem?_eq_getElem (by omega)
    have hc := h1.cells (g := g) rfl i _ hvi
    have hadd : (⟨g, 0, none⟩ : Addr).add i = ⟨g, 0 + i, none⟩ := by unfold Addr.add; split <;> simp_all
    rw [hadd] at hc
    exact ⟨vs[i], hc, (h2 i x _ hx hvi).mono hSM⟩

/-- Trees of the program's, appended behind others. -/
theorem run_append_onto_trees {d N : Nat} {S : Nat → Prop} {w : World} {lv : Value} {xs : List (Tr d)} {vs : List Value} (h : GF S N w lv xs vs) (hSN : ∀ b, S b → b < N) (hN : N ≤ w.heap.size) (ys : List (Tr d)) (al : Option Addr) (cl n : Nat) (ty : TypeId) (hn : n = ys.length) (hv : Row1At S w (TreeG S w d) (.slice al n cl) ys) (hsm : xs.length + ys.length ≤ 100000) :
    ∃ v' w', (Builtin.append_ #[74, 74] ty #[lv, .slice al n cl]).run Tryz.prog w = .ok v' w' ∧ ((∃ vs', GF S N w' v' (xs ++ ys) vs') ∧ w.grownBy w' lv.ownBlock ∧ ∃ a c, v' = .slice a (xs.length + ys.length) c) := by
  subst hn
  obtain ⟨i0, hi, hz0, hz1, hz2⟩ := info_parts Tryz.infoTree
  have hu : Tryz.prog.underlying 74 = some (.slice 64) := Tryz.underlying74
  have hbk : ∀ w', w.grownBy w' lv.ownBlock → Same S w w' := fun w' hgr b hb => hgr.block b (Nat.lt_of_lt_of_le (hSN b hb) hN) (fun e => by have := (h.1.lt b e.symm).1; have := hSN b hb; omega)
  have hfin : ∀ v' w' us, (∀ (j : Nat) (x : Tr d) (u : Value), ys[j]? = some x → us[j]? = some u → TreeG S w d x u) → w'.ownsRow N 64 1 v' (xs.length + ys.length) (vs ++ us) → w.grownBy w' lv.ownBlock → ((∃ vs', GF S N w' v' (xs ++ ys) vs') ∧ w.grownBy w' lv.ownBlock ∧ ∃ a c, v' = .slice a (xs.length + ys.length) c) := fun v' w' us hus ho hgr => by
    have hto := h.grow (hbk w' hgr) hus ho
    obtain ⟨a, c, e⟩ := hto.slice
    rw [List.length_append] at e
    exact ⟨⟨_, hto⟩, hgr, a, c, e⟩
  by_cases h0 : ys = []
  · subst h0
    cases al with
    | none =>
      refine ⟨lv, w, ?_, hfin lv w [] (fun j x u h => by simp at h) (by rw [List.append_nil]; exact h.1) ⟨rfl, rfl, rfl, Nat.le_refl _, fun _ _ _ => rfl⟩⟩
      rcases h.1.2 with ⟨rfl, _⟩ | ⟨g, cap, cur, rfl, _, _, hle, _⟩
      · simp [Builtin.append_, run_underlying hu, sizeOf, typeInfo, hi, Builtin.lenOf, Builtin.firstCells, Result.andThen, hz1]
      · simp [Builtin.append_, run_underlying hu, sizeOf, typeInfo, hi, Builtin.lenOf, Builtin.firstCells, storeCells, Result.andThen, hz1, hle]
    | some a =>
      obtain ⟨v', w', hr, ho, hgr, _⟩ := run_append_own_at (P := Tryz.prog) w N 74 ty 64 i0 .nilIface 1 16 hu hi hz0 hz1 hz2 rfl (by decide) lv xs.length vs h.1 a 0 cl [] rfl (fun j u hj => by simp at hj) (fun u hu => by simp at hu) (by unfold maxLen; omega) (by omega) hN
      exact ⟨v', w', hr, hfin v' w' [] (fun j x u h => by simp at h) ho hgr⟩
  · have hpos : 0 < ys.length := List.length_pos_iff.2 h0
    obtain ⟨_, a', c', hv', h3⟩ := hv
    cases hv'
    rcases h3 with h3 | ⟨b, o, hbS, rfl, hc⟩
    · exact absurd h3 h0
    have hex : ∀ j, j < ys.length → ∃ u, w.cell? ⟨b, o + j, none⟩ = some u ∧ u.oneCell' = true ∧ ∀ x, ys[j]? = some x → TreeG S w d x u := by
      intro j hj
      obtain ⟨u, e0, e1⟩ := hc j _ (List.getElem?_eq_getElem hj)
      obtain ⟨T, u', rfl⟩ := e1.iface
      refine ⟨_, e0, rfl, fun x hx => ?_⟩
      rw [List.getElem?_eq_getElem hj] at hx
      cases hx
      exact e1
    obtain ⟨news, hnl, hnews⟩ : ∃ news : List Value, news.length = ys.length ∧ ∀ j, j < ys.length → ∃ u, news[j]? = some u ∧ w.cell? ⟨b, o + j, none⟩ = some u ∧ u.oneCell' = true ∧ ∀ x, ys[j]? = some x → TreeG S w d x u := by
      refine ⟨(List.range ys.length).map (fun j => (w.cell? ⟨b, o + j, none⟩).getD undef), by simp, fun j hj => ?_⟩
      obtain ⟨u, hu, h1⟩ := hex j hj
      exact ⟨u, by simp [hj, hu], hu, h1⟩
    have hat : ∀ j u, news[j]? = some u → w.cell? ⟨b, o + j, none⟩ = some u ∧ u.oneCell' = true ∧ ∀ x, ys[j]? = some x → TreeG S w d x u := by
      intro j u hj
      obtain ⟨u', h1, h2⟩ := hnews j (by have := (List.getElem?_eq_some_iff.1 hj).1; omega)
      rw [hj] at h1
      cases h1
      exact h2
    have hadd : ∀ j, (⟨b, o, none⟩ : Addr).add j = ⟨b, o + j, none⟩ := fun j => by unfold Addr.add; split <;> simp_all
    obtain ⟨v', w', hr, ho, hgr, _⟩ := run_append_own_at (P := Tryz.prog) w N 74 ty 64 i0 .nilIface 1 16 hu hi hz0 hz1 hz2 rfl (by decide) lv xs.length vs h.1 ⟨b, o, none⟩ ys.length cl news (by omega)
      (fun j u hj => by rw [hadd]; exact (hat j u hj).1) (fun u hu => by obtain ⟨j, hj⟩ := List.getElem?_of_mem hu; exact (hat j u hj).2.1) (by unfold maxLen; omega) (by omega) hN
    exact ⟨v', w', hr, hfin v' w' news (fun j x u hx hu => (hat j u hu).2.2 x hx) ho hgr⟩
end Go.Proofs.YtilgbnnjecpneaaGreatDoor

/- slices.Concat at rows of the program's trees: two of them, one behind the other. -/
namespace Go.Proofs.YtilgbnnjecpneaaGreatDoor
open Go.RowKit Go.Deep

theorem GF.empty {d N g cap : Nat} {S : Nat → Prop} {w : World} {cur : Array Value} (h : w.heap[g]? = some (.cells cur 64 (0, 0))) (hg : N ≤ g) (hc : cur.size = cap) (hm : cap ≤ maxLen) : GF (d := d) S N w (.slice (some ⟨g, 0, none⟩) 0 cap) [] [] :=
  ⟨⟨rfl, Or.inr ⟨g, cap, cur, rfl, hg, h, Nat.zero_le _, hm, by rw [hc, Nat.mul_one], by simp⟩⟩, fun j x u h => by simp at h⟩
theorem grow_nil (d n : Nat) (hn : n ≤ 100000) (S : Nat → Prop) (w : World) :
    Calls Tryz.prog 100 #[.slice none 0 0, .int .i64 (n : Int)] w fun e w' => ∃ a c, e = .returned (.slice a 0 c) ∧ GF (d := d) S w.heap.size w' (.slice a 0 c) [] [] ∧ Below w.heap.size w w' := by
  rcases Nat.eq_zero_or_pos n with rfl | hp
  · refine Calls.mono (Any8.slices_Grow_room Tryz.laysG none 0 0 0 w (Nat.le_refl _) (by omega) (by omega) (by omega)) ?_
    rintro e w' ⟨rfl, rfl⟩
    exact ⟨none, 0, rfl, GF.nil _ _ _, Below.refl _ _⟩
  · obtain ⟨i0, hi, hz0, hz1, hz2⟩ := info_parts Tryz.infoTree
    refine Calls.mono (Any8.slices_Grow_grow Tryz.laysG i0 .nilIface hi hz0 (by rw [hz1]; omega) none 0 0 n [] w (Nat.le_refl _) (by omega) (by rw [hz2]; omega) (by omega) (by simp) (fun _ => rfl) (fun a h => by cases h)) ?_
    rintro e w' ⟨rfl, rfl⟩
    have hge := grownCap_ge w (0 + n) 0 64
    have hle := grownCap_le_maxLen w (0 + n) 0 64 (by unfold maxLen; omega)
    refine ⟨_, _, rfl, GF.empty (heap_alloc_new w.drew _) (Nat.le_refl _) ?_ hle, ⟨rfl, rfl, rfl, by simp, fun b hb => Below.heap_alloc w.drew _ b hb⟩⟩
    have hge2 : n ≤ grownCap w n 0 64 := by rw [Nat.zero_add] at hge; exact hge
    show ((([] : List Value).toArray ++ Builtin.zeroCells (Value.nilIface).cells (0 + n - 0)) ++ Builtin.zeroCells (Value.nilIface).cells (grownCap w (0 + n) 0 64 - (0 + n))).size = grownCap w (0 + n) 0 64
    rw [Array.size_append, Array.size_append, size_zeroCells, size_zeroCells, Nat.zero_add, Nat.sub_zero]
    show 0 + n * 1 + (grownCap w n 0 64 - n) * 1 = _
    omega

/-- The first m of two rows, one behind the other. -/
def twoL {α : Type} (xs ys : List α) (m : Nat) : List α := if m = 0 then [] else if m = 1 then xs else xs ++ ys
set_option maxRecDepth 100000 in
set_option maxHeartbeats 4000000 in
theorem concat_any (d : Nat) (S : Nat → Prop) (xs ys : List (Tr d)) (aa ba : Option Addr) (ca cb g : Nat) (w : World) (hx : Row1At S w (TreeG S w d) (.slice aa xs.length ca) xs) (hy : Row1At S w (TreeG S w d) (.slice ba ys.length cb) ys) (hS : Within S w)
    (c0 : w.cell? ⟨g, 0, none⟩ = some (.slice aa xs.length ca)) (c1 : w.cell? ⟨g, 1, none⟩ = some (.slice ba ys.length cb)) (hg : g < w.heap.size) (hlx : xs.length ≤ 1000) (hly : ys.length ≤ 1000) :
    Calls Tryz.prog 82 #[.slice (some ⟨g, 0, none⟩) 2 2] w fun e w' => ∃ sv vs, e = .returned sv ∧ GF S w.heap.size w' sv (xs ++ ys) vs ∧ Below w.heap.size w w' := by
  have n1 : ¬ ((xs.length : Int) < 0) := by omega
  have n2 : ¬ ((xs.length : Int) + (ys.length : Int) < 0) := by omega
  have w1 : wrap64 (xs.length : Int) = (xs.length : Int) := by unfold wrap64; omega
  have w2 : wrap64 ((xs.length : Int) + (ys.length : Int)) = (xs.length : Int) + (ys.length : Int) := by unfold wrap64; omega
  go_enter Tryz.func82, Tryz.ntmps82
  go_wp2_with fail
  go_loop [3, 11] (fun s i => (i = .int .i64 0 ∧ s = .int .i64 0) ∨ (i = .int .i64 1 ∧ s = .int .i64 (xs.length : Int)) ∨ (i = .int .i64 2 ∧ s = .int .i64 ((xs.length : Int) + (ys.length : Int)))) (fun _ i => 2 - (intOf i).toNat)
  case atStart => exact Or.inl ⟨rfl, rfl⟩
  case round =>
    rcases hrel with ⟨rfl, rfl⟩ | ⟨rfl, rfl⟩ | ⟨rfl, rfl⟩
    · go_wp2_with fail
      go_round
      case rel => exact Or.inr (Or.inl ⟨rfl, by simp⟩)
      case measure => simp [intOf]
    · go_wp2_with fail
      go_round
      case rel => exact Or.inr (Or.inr ⟨rfl, rfl⟩)
      case measure => simp [intOf]
    · go_upto_region 9 with fail
      go_wp2_with fail
      have hgr := hide (grow_nil d (xs.length + ys.length) (by omega) S w)
      rw [show ((xs.length + ys.length : Nat) : Int) = (xs.length : Int) + (ys.length : Int) by omega] at hgr
      refine Calls.mono hgr.out ?_
      rintro e w3 ⟨a0, cap0, rfl, hgf, hb3⟩
      have HX := hide hx
      have HY := hide hy
      have HSX := hide hS
      have hst : Hid (GF S w.heap.size w3 (.slice a0 0 cap0) (twoL xs ys 0) []) := hgf
      have hB3 := hide hb3
      have hc0 := hb3.cell (p := ⟨g, 0, none⟩) hg
      have hc1 := hb3.cell (p := ⟨g, 1, none⟩) hg
      clear hgf hb3 hgr hx hy hS
      go_wp2_with fail
      go_loopw [6, 27] (fun sv i wr => ∃ (m n : Nat) (a : Option Addr) (c : Nat) (vs : List Value), m ≤ 2 ∧ i = .int .i64 (m : Int) ∧ sv = .slice a n c ∧ Hid (GF S w.heap.size wr (.slice a n c) (twoL xs ys m) vs) ∧ Hid (Below w.heap.size w wr)) (fun _ i _ => 2 - (intOf i).toNat)
      case atStart => exact ⟨0, 0, _, _, [], by omega, rfl, rfl, hst, hB3⟩
      case round =>
        clear hst hB3 hc0 hc1
        obtain ⟨m, n, a, c, vs, hm, rfl, rfl, hgf, hbr⟩ := hrel
        have e0 := (hbr.out.cell (p := ⟨g, 0, none⟩) hg).trans c0
        have e1 := (hbr.out.cell (p := ⟨g, 1, none⟩) hg).trans c1
        have hsz := hbr.out.size
        have hmv := HSX.out.same hbr.out
        have hstep : ∀ (zs : List (Tr d)) (za : Option Addr) (zc : Nat), zs.length ≤ 1000 → (twoL xs ys m).length ≤ 1000 → twoL xs ys m ++ zs = twoL xs ys (m + 1) → Row1At S w (TreeG S w d) (.slice za zs.length zc) zs → Hid (∀ ty, ∃ v' w', (Builtin.append_ #[74, 74] ty #[.slice a n c, .slice za zs.length zc]).run Tryz.prog wr = .ok v' w' ∧ Hid (∃ n' a' c' vs', v' = .slice a' n' c' ∧ GF S w.heap.size w' (.slice a' n' c') (twoL xs ys (m + 1)) vs' ∧ Below w.heap.size w w')) := by
          intro zs za zc hzl hml heq hrow ty
          have hrow2 := hrow.moved (At' := TreeG S wr d) hmv (fun _ h => h) (fun x u hx => TreeG.moved hmv (fun _ h => h) d x u hx)
          obtain ⟨v', w', hr, ⟨vs', hv'⟩, hgr, a', c', e⟩ := run_append_onto_trees hgf.out (fun b hb => HSX.out b hb) hsz zs za zc zs.length ty rfl hrow2 (by omega)
          subst e
          have hrow := fun g' hg' => (hgf.out.1.lt g' hg').1
          refine ⟨_, w', hr, _, a', c', vs', rfl, by rw [← heq]; exact hv', ?_⟩
          exact ⟨hgr.os.trans hbr.out.os, hgr.tape.trans hbr.out.tape, hgr.output.trans hbr.out.output, Nat.le_trans hbr.out.size hgr.size, fun b hb => (hgr.block b (by omega) (fun e => by have := hrow b e.symm; omega)).trans (hbr.out.block b hb)⟩
        rcases (by omega : m = 0 ∨ m = 1 ∨ m = 2) with rfl | rfl | rfl
        · have hs := hstep xs aa ca hlx (by simp [twoL]) (by simp [twoL]) HX.out
          have HB := hide hbr.out
          clear hstep hgf hbr hmv hsz
          go_wp2_with (at_builtin; refine wpList_append_run (fun v' w' => Hid (∃ n' a' c' vs', v' = .slice a' n' c' ∧ GF S w.heap.size w' (.slice a' n' c') (twoL xs ys (0 + 1)) vs' ∧ Below w.heap.size w w')) rfl _ _ 74 rfl (.slice a n c) (.slice aa xs.length ca) rfl rfl (hs.out 74) ?_)
          rintro v' w2' hph
          obtain ⟨n', a', c', rfl, ⟨vs', hv'⟩, hb'⟩ := hph.out
          have HV := hide hv'
          have HB' := hide hb'
          clear hph hs hv' hb' HB
          go_wp2_with fail
          go_roundw
          case rel => exact ⟨1, n', a', c', vs', by omega, by go_num, rfl, HV, HB'⟩
          case measure => simp [intOf]
        · have hs := hstep ys ba cb hly (by simp [twoL]; exact hlx) (by simp [twoL]) HY.out
          have HB := hide hbr.out
          clear hstep hgf hbr hmv hsz
          go_wp2_with (at_builtin; refine wpList_append_run (fun v' w' => Hid (∃ n' a' c' vs', v' = .slice a' n' c' ∧ GF S w.heap.size w' (.slice a' n' c') (twoL xs ys (1 + 1)) vs' ∧ Below w.heap.size w w')) rfl _ _ 74 rfl (.slice a n c) (.slice ba ys.length cb) rfl rfl (hs.out 74) ?_)
          rintro v' w2' hph
          obtain ⟨n', a', c', rfl, ⟨vs', hv'⟩, hb'⟩ := hph.out
          have HV := hide hv'
          have HB' := hide hb'
          clear hph hs hv' hb' HB
          go_wp2_with fail
          go_roundw
          case rel => exact ⟨2, n', a', c', vs', by omega, by go_num, rfl, HV, HB'⟩
          case measure => simp [intOf]
        · have HV : Hid (GF S w.heap.size wr (.slice a n c) (xs ++ ys) vs) := hgf.out
          have HB := hide hbr.out
          clear hstep hgf hbr hmv hsz
          go_wp2_with fail
          go_ret
          exact ⟨_, _, rfl, HV.out, HB.out⟩
end Go.Proofs.YtilgbnnjecpneaaGreatDoor

/- addTrees, PartAdd of the program. -/
namespace Go.Proofs.YtilgbnnjecpneaaGreatDoor
open Go.RowKit Go.Deep

theorem add_kinds {d : Nat} {a b : Tr (d + 1)} (h : Nd.kind a ≠ 0) (hb : Nd.kind b ≠ 0) (hn : Nd.kind a ≠ Nd.kind b ∨ Nd.kind a < 3) : sumT d a b = none := by
  unfold sumT
  rw [if_neg h, if_neg hb]
  split
  · rfl
  · rename_i hk
    rcases hn with hn | hn
    · exact absurd hn hk
    · rw [if_neg (by omega), if_neg (by omega), if_neg (by omega), if_neg (by omega)]
/-- What addTrees is asked to give. -/
def AddQ (d N : Nat) (a b : Tr (d + 1)) (w : World) (e : Ending) (w' : World) : Prop :=
  Below w.heap.size w w' ∧ ((∃ t u, sumT d a b = some t ∧ e = .returned (.tuple #[u, .nilIface]) ∧ TreeG (fun c => N ≤ c ∧ c < w'.heap.size) w' (d + 1) t u) ∨ (sumT d a b = none ∧ ∃ why, e = .returned (.tuple #[.nilIface, faultV why])))
theorem okT_len60 {d : Nat} {t : Tr (d + 1)} (h : okT (d + 1) t = true) : (Nd.list t).length < 60 := okT_len h

set_option maxRecDepth 100000 in
set_option maxHeartbeats 8000000 in
theorem addTrees_any (d N : Nat) (S : Nat → Prop) (a b : Tr (d + 1)) (ua ub : Value) (w : World) (hoka : okT (d + 1) a = true) (hokb : okT (d + 1) b = true) (hua : TreeG S w (d + 1) a ua) (hub : TreeG S w (d + 1) b ub) (hS : ∀ c, S c → N ≤ c ∧ c < w.heap.size) (hN : N ≤ w.heap.size) :
    Calls Tryz.prog 57 #[ua, ub] w (AddQ d N a b w) := by
  have hSw : Within S w := fun c hc => (hS c hc).2
  have HUA := hide hua
  have HUB := hide hub
  have HA0 := hide (num_bounds hoka)
  have HB0 := hide (num_bounds hokb)
  have HSA := hide (str_bounds hoka)
  have HSB := hide (str_bounds hokb)
  have HLA := hide (okT_len60 hoka)
  have HLB := hide (okT_len60 hokb)
  clear hoka hokb
  have hret : ∀ (t : Tr (d + 1)) (u : Value) (w' : World), TreeG S w (d + 1) t u → Below w.heap.size w w' → TreeG (fun c => N ≤ c ∧ c < w'.heap.size) w' (d + 1) t u := fun t u w' ht hb =>
    TreeG.moved (hSw.same hb) (fun c hc => ⟨(hS c hc).1, by have := (hS c hc).2; have := hb.size; omega⟩) (d + 1) t u ht
  have HRET := hide hret
  clear hret
  go_enter Tryz.func57, Tryz.ntmps57
  rcases hua with ⟨ka, ha1, rfl, rfl⟩ | ⟨na, ha1, rfl, rfl⟩ | ⟨sa, ha1, rfl, rfl⟩ | ⟨xsa, sva, ha1, rfl, rfl, hra⟩ | ⟨keysa, xsa, psa, ra, esa, ha1, ha2, ha3, ha4, rfl, rfl, hra, hma, hea⟩
  · have asaN := Tryz.asN_B
    have asaS := Tryz.asS_B
    have asaR := Tryz.asR_B
    have asaM := Tryz.asM_B
    go_wp2_with fail
    refine (isNothing_bare ka w).mono ?_
    rintro e w1 ⟨rfl, hbx⟩
    have HB := hide hbx
    clear hbx
    obtain ⟨Tb, ub', rfl⟩ := hub.iface
    by_cases ka0 : ka = 0
    · have kab : (ka == 0) = true := by simpa using ka0
      have hq : Hid (sumT d (Nd.mk ka 0 ByteArray.empty [] [] : Nd (Tr d)) b = some b) := if_pos ka0
      go_wp2_with fail
      go_ret2
      exact ⟨by first | exact HB.out | exact below_trans HB.out (below_alloc1 _ _) | exact below_trans (below_trans HB.out (below_alloc1 _ _)) (below_alloc1 _ _) | exact below_trans (below_trans (below_trans HB.out (below_alloc1 _ _)) (below_alloc1 _ _)) (below_alloc1 _ _), Or.inl ⟨_, _, hq.out, rfl, HRET.out _ _ _ HUB.out (by first | exact HB.out | exact below_trans HB.out (below_alloc1 _ _) | exact below_trans (below_trans HB.out (below_alloc1 _ _)) (below_alloc1 _ _) | exact below_trans (below_trans (below_trans HB.out (below_alloc1 _ _)) (below_alloc1 _ _)) (below_alloc1 _ _))⟩⟩
    have kab : (ka == 0) = false := by simpa using ka0
    rcases hub with ⟨kb, hb1, rfl, hvb⟩ | ⟨nb, hb1, rfl, hvb⟩ | ⟨sb, hb1, rfl, hvb⟩ | ⟨xsb, svb, hb1, rfl, hvb, hrb⟩ | ⟨keysb, xsb, psb, rb, esb, hb1, hb2k, hb3, hb4, rfl, hvb, hrb, hmb, heb⟩
    · cases hvb
      have asbN := Tryz.asN_B
      have asbS := Tryz.asS_B
      have asbR := Tryz.asR_B
      have asbM := Tryz.asM_B
      go_wp2_with fail
      refine (isNothing_bare kb w1).mono ?_
      rintro e w2 ⟨rfl, hbx⟩
      have HBn := hide (below_trans HB.out hbx)
      clear HB
      have HB := HBn
      clear HBn
      clear hbx
      by_cases kb0 : kb = 0
      · have kbb : (kb == 0) = true := by simpa using kb0
        have hq : Hid (sumT d (Nd.mk ka 0 ByteArray.empty [] [] : Nd (Tr d)) (Nd.mk kb 0 ByteArray.empty [] [] : Nd (Tr d)) = some (Nd.mk ka 0 ByteArray.empty [] [] : Nd (Tr d))) := by show sumT _ _ _ = _; unfold sumT; rw [if_neg (show Nd.kind (Nd.mk ka 0 ByteArray.empty [] [] : Nd (Tr d)) ≠ 0 from ka0)]; exact if_pos kb0
        go_wp2_with fail
        go_ret2
        exact ⟨by first | exact HB.out | exact below_trans HB.out (below_alloc1 _ _) | exact below_trans (below_trans HB.out (below_alloc1 _ _)) (below_alloc1 _ _) | exact below_trans (below_trans (below_trans HB.out (below_alloc1 _ _)) (below_alloc1 _ _)) (below_alloc1 _ _), Or.inl ⟨_, _, hq.out, rfl, HRET.out _ _ _ HUA.out (by first | exact HB.out | exact below_trans HB.out (below_alloc1 _ _) | exact below_trans (below_trans HB.out (below_alloc1 _ _)) (below_alloc1 _ _) | exact below_trans (below_trans (below_trans HB.out (below_alloc1 _ _)) (below_alloc1 _ _)) (below_alloc1 _ _))⟩⟩
      have kbb : (kb == 0) = false := by simpa using kb0
      have hq : Hid (sumT d (Nd.mk ka 0 ByteArray.empty [] [] : Nd (Tr d)) (Nd.mk kb 0 ByteArray.empty [] [] : Nd (Tr d)) = none) := add_kinds (show Nd.kind (Nd.mk ka 0 ByteArray.empty [] [] : Nd (Tr d)) ≠ 0 from ka0) (show Nd.kind (Nd.mk kb 0 ByteArray.empty [] [] : Nd (Tr d)) ≠ 0 from kb0) (Or.inr (by show ka < 3; omega))
      go_wp2_with fail
      go_ret2
      exact ⟨by first | exact HB.out | exact below_trans HB.out (below_alloc1 _ _) | exact below_trans (below_trans HB.out (below_alloc1 _ _)) (below_alloc1 _ _) | exact below_trans (below_trans (below_trans HB.out (below_alloc1 _ _)) (below_alloc1 _ _)) (below_alloc1 _ _), Or.inr ⟨hq.out, _, rfl⟩⟩
    · cases hvb
      have asbN := Tryz.asN_N
      have asbS := Tryz.asS_N
      have asbR := Tryz.asR_N
      have asbM := Tryz.asM_N
      go_wp2_with fail
      refine (isNothing_num _ w1).mono ?_
      rintro e w2 ⟨rfl, hbx⟩
      have HBn := hide (below_trans HB.out hbx)
      clear HB
      have HB := HBn
      clear HBn
      clear hbx
      have hq : Hid (sumT d (Nd.mk ka 0 ByteArray.empty [] [] : Nd (Tr d)) (Nd.mk 3 nb ByteArray.empty [] [] : Nd (Tr d)) = none) := add_kinds (show Nd.kind (Nd.mk ka 0 ByteArray.empty [] [] : Nd (Tr d)) ≠ 0 from ka0) (show Nd.kind (Nd.mk 3 nb ByteArray.empty [] [] : Nd (Tr d)) ≠ 0 from by show (3 : Int) ≠ 0; omega) (Or.inr (by show ka < 3; omega))
      go_wp2_with fail
      go_ret2
      exact ⟨by first | exact HB.out | exact below_trans HB.out (below_alloc1 _ _) | exact below_trans (below_trans HB.out (below_alloc1 _ _)) (below_alloc1 _ _) | exact below_trans (below_trans (below_trans HB.out (below_alloc1 _ _)) (below_alloc1 _ _)) (below_alloc1 _ _), Or.inr ⟨hq.out, _, rfl⟩⟩
    · cases hvb
      have asbN := Tryz.asN_S
      have asbS := Tryz.asS_S
      have asbR := Tryz.asR_S
      have asbM := Tryz.asM_S
      go_wp2_with fail
      refine (isNothing_str _ w1).mono ?_
      rintro e w2 ⟨rfl, hbx⟩
      have HBn := hide (below_trans HB.out hbx)
      clear HB
      have HB := HBn
      clear HBn
      clear hbx
      have hq : Hid (sumT d (Nd.mk ka 0 ByteArray.empty [] [] : Nd (Tr d)) (Nd.mk 4 0 sb [] [] : Nd (Tr d)) = none) := add_kinds (show Nd.kind (Nd.mk ka 0 ByteArray.empty [] [] : Nd (Tr d)) ≠ 0 from ka0) (show Nd.kind (Nd.mk 4 0 sb [] [] : Nd (Tr d)) ≠ 0 from by show (4 : Int) ≠ 0; omega) (Or.inr (by show ka < 3; omega))
      go_wp2_with fail
      go_ret2
      exact ⟨by first | exact HB.out | exact below_trans HB.out (below_alloc1 _ _) | exact below_trans (below_trans HB.out (below_alloc1 _ _)) (below_alloc1 _ _) | exact below_trans (below_trans (below_trans HB.out (below_alloc1 _ _)) (below_alloc1 _ _)) (below_alloc1 _ _), Or.inr ⟨hq.out, _, rfl⟩⟩
    · cases hvb
      have asbN := Tryz.asN_R
      have asbS := Tryz.asS_R
      have asbR := Tryz.asR_R
      have asbM := Tryz.asM_R
      go_wp2_with fail
      refine (isNothing_row _ w1).mono ?_
      rintro e w2 ⟨rfl, hbx⟩
      have HBn := hide (below_trans HB.out hbx)
      clear HB
      have HB := HBn
      clear HBn
      clear hbx
      have hq : Hid (sumT d (Nd.mk ka 0 ByteArray.empty [] [] : Nd (Tr d)) (Nd.mk 5 0 ByteArray.empty [] xsb : Nd (Tr d)) = none) := add_kinds (show Nd.kind (Nd.mk ka 0 ByteArray.empty [] [] : Nd (Tr d)) ≠ 0 from ka0) (show Nd.kind (Nd.mk 5 0 ByteArray.empty [] xsb : Nd (Tr d)) ≠ 0 from by show (5 : Int) ≠ 0; omega) (Or.inr (by show ka < 3; omega))
      go_wp2_with fail
      go_ret2
      exact ⟨by first | exact HB.out | exact below_trans HB.out (below_alloc1 _ _) | exact below_trans (below_trans HB.out (below_alloc1 _ _)) (below_alloc1 _ _) | exact below_trans (below_trans (below_trans HB.out (below_alloc1 _ _)) (below_alloc1 _ _)) (below_alloc1 _ _), Or.inr ⟨hq.out, _, rfl⟩⟩
    · cases hvb
      have asbN := Tryz.asN_M
      have asbS := Tryz.asS_M
      have asbR := Tryz.asR_M
      have asbM := Tryz.asM_M
      go_wp2_with fail
      refine (isNothing_map _ w1).mono ?_
      rintro e w2 ⟨rfl, hbx⟩
      have HBn := hide (below_trans HB.out hbx)
      clear HB
      have HB := HBn
      clear HBn
      clear hbx
      have hq : Hid (sumT d (Nd.mk ka 0 ByteArray.empty [] [] : Nd (Tr d)) (Nd.mk 6 0 ByteArray.empty keysb xsb : Nd (Tr d)) = none) := add_kinds (show Nd.kind (Nd.mk ka 0 ByteArray.empty [] [] : Nd (Tr d)) ≠ 0 from ka0) (show Nd.kind (Nd.mk 6 0 ByteArray.empty keysb xsb : Nd (Tr d)) ≠ 0 from by show (6 : Int) ≠ 0; omega) (Or.inr (by show ka < 3; omega))
      go_wp2_with fail
      go_ret2
      exact ⟨by first | exact HB.out | exact below_trans HB.out (below_alloc1 _ _) | exact below_trans (below_trans HB.out (below_alloc1 _ _)) (below_alloc1 _ _) | exact below_trans (below_trans (below_trans HB.out (below_alloc1 _ _)) (below_alloc1 _ _)) (below_alloc1 _ _), Or.inr ⟨hq.out, _, rfl⟩⟩
  · have asaN := Tryz.asN_N
    have asaS := Tryz.asS_N
    have asaR := Tryz.asR_N
    have asaM := Tryz.asM_N
    go_wp2_with fail
    refine (isNothing_num _ w).mono ?_
    rintro e w1 ⟨rfl, hbx⟩
    have HB := hide hbx
    clear hbx
    obtain ⟨Tb, ub', rfl⟩ := hub.iface
    rcases hub with ⟨kb, hb1, rfl, hvb⟩ | ⟨nb, hb1, rfl, hvb⟩ | ⟨sb, hb1, rfl, hvb⟩ | ⟨xsb, svb, hb1, rfl, hvb, hrb⟩ | ⟨keysb, xsb, psb, rb, esb, hb1, hb2k, hb3, hb4, rfl, hvb, hrb, hmb, heb⟩
    · cases hvb
      have asbN := Tryz.asN_B
      have asbS := Tryz.asS_B
      have asbR := Tryz.asR_B
      have asbM := Tryz.asM_B
      go_wp2_with fail
      refine (isNothing_bare kb w1).mono ?_
      rintro e w2 ⟨rfl, hbx⟩
      have HBn := hide (below_trans HB.out hbx)
      clear HB
      have HB := HBn
      clear HBn
      clear hbx
      by_cases kb0 : kb = 0
      · have kbb : (kb == 0) = true := by simpa using kb0
        have hq : Hid (sumT d (Nd.mk 3 na ByteArray.empty [] [] : Nd (Tr d)) (Nd.mk kb 0 ByteArray.empty [] [] : Nd (Tr d)) = some (Nd.mk 3 na ByteArray.empty [] [] : Nd (Tr d))) := by show sumT _ _ _ = _; unfold sumT; rw [if_neg (show Nd.kind (Nd.mk 3 na ByteArray.empty [] [] : Nd (Tr d)) ≠ 0 from by show (3 : Int) ≠ 0; omega)]; exact if_pos kb0
        go_wp2_with fail
        go_ret2
        exact ⟨by first | exact HB.out | exact below_trans HB.out (below_alloc1 _ _) | exact below_trans (below_trans HB.out (below_alloc1 _ _)) (below_alloc1 _ _) | exact below_trans (below_trans (below_trans HB.out (below_alloc1 _ _)) (below_alloc1 _ _)) (below_alloc1 _ _), Or.inl ⟨_, _, hq.out, rfl, HRET.out _ _ _ HUA.out (by first | exact HB.out | exact below_trans HB.out (below_alloc1 _ _) | exact below_trans (below_trans HB.out (below_alloc1 _ _)) (below_alloc1 _ _) | exact below_trans (below_trans (below_trans HB.out (below_alloc1 _ _)) (below_alloc1 _ _)) (below_alloc1 _ _))⟩⟩
      have kbb : (kb == 0) = false := by simpa using kb0
      have hq : Hid (sumT d (Nd.mk 3 na ByteArray.empty [] [] : Nd (Tr d)) (Nd.mk kb 0 ByteArray.empty [] [] : Nd (Tr d)) = none) := add_kinds (show Nd.kind (Nd.mk 3 na ByteArray.empty [] [] : Nd (Tr d)) ≠ 0 from by show (3 : Int) ≠ 0; omega) (show Nd.kind (Nd.mk kb 0 ByteArray.empty [] [] : Nd (Tr d)) ≠ 0 from kb0) (Or.inl (by show (3 : Int) ≠ kb; omega))
      go_wp2_with fail
      go_ret2
      exact ⟨by first | exact HB.out | exact below_trans HB.out (below_alloc1 _ _) | exact below_trans (below_trans HB.out (below_alloc1 _ _)) (below_alloc1 _ _) | exact below_trans (below_trans (below_trans HB.out (below_alloc1 _ _)) (below_alloc1 _ _)) (below_alloc1 _ _), Or.inr ⟨hq.out, _, rfl⟩⟩
    · cases hvb
      have asbN := Tryz.asN_N
      have asbS := Tryz.asS_N
      have asbR := Tryz.asR_N
      have asbM := Tryz.asM_N
      go_wp2_with fail
      refine (isNothing_num _ w1).mono ?_
      rintro e w2 ⟨rfl, hbx⟩
      have HBn := hide (below_trans HB.out hbx)
      clear HB
      have HB := HBn
      clear HBn
      clear hbx
      have hq : Hid (sumT d (Nd.mk 3 na ByteArray.empty [] [] : Nd (Tr d)) (Nd.mk 3 nb ByteArray.empty [] [] : Nd (Tr d)) = some (Nd.mk 3 (na + nb) ByteArray.empty [] [] : Nd (Tr d))) := rfl
      have hn1' : -1000000 ≤ na ∧ na ≤ 1000000 := by first | exact HA0.out rfl | exact HA0.out trivial
      have hn2' : -1000000 ≤ nb ∧ nb ≤ 1000000 := by first | exact HB0.out rfl | exact HB0.out trivial
      have hwr : wrap64 (na + nb) = na + nb := by unfold wrap64; omega
      go_wp2_with fail
      go_ret2
      exact ⟨by first | exact HB.out | exact below_trans HB.out (below_alloc1 _ _) | exact below_trans (below_trans HB.out (below_alloc1 _ _)) (below_alloc1 _ _) | exact below_trans (below_trans (below_trans HB.out (below_alloc1 _ _)) (below_alloc1 _ _)) (below_alloc1 _ _), Or.inl ⟨_, _, hq.out, rfl, Or.inr (Or.inl ⟨na + nb, ⟨by omega, by omega⟩, rfl, rfl⟩)⟩⟩
    · cases hvb
      have asbN := Tryz.asN_S
      have asbS := Tryz.asS_S
      have asbR := Tryz.asR_S
      have asbM := Tryz.asM_S
      go_wp2_with fail
      refine (isNothing_str _ w1).mono ?_
      rintro e w2 ⟨rfl, hbx⟩
      have HBn := hide (below_trans HB.out hbx)
      clear HB
      have HB := HBn
      clear HBn
      clear hbx
      have hq : Hid (sumT d (Nd.mk 3 na ByteArray.empty [] [] : Nd (Tr d)) (Nd.mk 4 0 sb [] [] : Nd (Tr d)) = none) := add_kinds (show Nd.kind (Nd.mk 3 na ByteArray.empty [] [] : Nd (Tr d)) ≠ 0 from by show (3 : Int) ≠ 0; omega) (show Nd.kind (Nd.mk 4 0 sb [] [] : Nd (Tr d)) ≠ 0 from by show (4 : Int) ≠ 0; omega) (Or.inl (by show (3 : Int) ≠ 4; omega))
      go_wp2_with fail
      go_ret2
      exact ⟨by first | exact HB.out | exact below_trans HB.out (below_alloc1 _ _) | exact below_trans (below_trans HB.out (below_alloc1 _ _)) (below_alloc1 _ _) | exact below_trans (below_trans (below_trans HB.out (below_alloc1 _ _)) (below_alloc1 _ _)) (below_alloc1 _ _), Or.inr ⟨hq.out, _, rfl⟩⟩
    · cases hvb
      have asbN := Tryz.asN_R
      have asbS := Tryz.asS_R
      have asbR := Tryz.asR_R
      have asbM := Tryz.asM_R
      go_wp2_with fail
      refine (isNothing_row _ w1).mono ?_
      rintro e w2 ⟨rfl, hbx⟩
      have HBn := hide (below_trans HB.out hbx)
      clear HB
      have HB := HBn
      clear HBn
      clear hbx
      have hq : Hid (sumT d (Nd.mk 3 na ByteArray.empty [] [] : Nd (Tr d)) (Nd.mk 5 0 ByteArray.empty [] xsb : Nd (Tr d)) = none) := add_kinds (show Nd.kind (Nd.mk 3 na ByteArray.empty [] [] : Nd (Tr d)) ≠ 0 from by show (3 : Int) ≠ 0; omega) (show Nd.kind (Nd.mk 5 0 ByteArray.empty [] xsb : Nd (Tr d)) ≠ 0 from by show (5 : Int) ≠ 0; omega) (Or.inl (by show (3 : Int) ≠ 5; omega))
      go_wp2_with fail
      go_ret2
      exact ⟨by first | exact HB.out | exact below_trans HB.out (below_alloc1 _ _) | exact below_trans (below_trans HB.out (below_alloc1 _ _)) (below_alloc1 _ _) | exact below_trans (below_trans (below_trans HB.out (below_alloc1 _ _)) (below_alloc1 _ _)) (below_alloc1 _ _), Or.inr ⟨hq.out, _, rfl⟩⟩
    · cases hvb
      have asbN := Tryz.asN_M
      have asbS := Tryz.asS_M
      have asbR := Tryz.asR_M
      have asbM := Tryz.asM_M
      go_wp2_with fail
      refine (isNothing_map _ w1).mono ?_
      rintro e w2 ⟨rfl, hbx⟩
      have HBn := hide (below_trans HB.out hbx)
      clear HB
      have HB := HBn
      clear HBn
      clear hbx
      have hq : Hid (sumT d (Nd.mk 3 na ByteArray.empty [] [] : Nd (Tr d)) (Nd.mk 6 0 ByteArray.empty keysb xsb : Nd (Tr d)) = none) := add_kinds (show Nd.kind (Nd.mk 3 na ByteArray.empty [] [] : Nd (Tr d)) ≠ 0 from by show (3 : Int) ≠ 0; omega) (show Nd.kind (Nd.mk 6 0 ByteArray.empty keysb xsb : Nd (Tr d)) ≠ 0 from by show (6 : Int) ≠ 0; omega) (Or.inl (by show (3 : Int) ≠ 6; omega))
      go_wp2_with fail
      go_ret2
      exact ⟨by first | exact HB.out | exact below_trans HB.out (below_alloc1 _ _) | exact below_trans (below_trans HB.out (below_alloc1 _ _)) (below_alloc1 _ _) | exact below_trans (below_trans (below_trans HB.out (below_alloc1 _ _)) (below_alloc1 _ _)) (below_alloc1 _ _), Or.inr ⟨hq.out, _, rfl⟩⟩
  · have asaN := Tryz.asN_S
    have asaS := Tryz.asS_S
    have asaR := Tryz.asR_S
    have asaM := Tryz.asM_S
    go_wp2_with fail
    refine (isNothing_str _ w).mono ?_
    rintro e w1 ⟨rfl, hbx⟩
    have HB := hide hbx
    clear hbx
    obtain ⟨Tb, ub', rfl⟩ := hub.iface
    rcases hub with ⟨kb, hb1, rfl, hvb⟩ | ⟨nb, hb1, rfl, hvb⟩ | ⟨sb, hb1, rfl, hvb⟩ | ⟨xsb, svb, hb1, rfl, hvb, hrb⟩ | ⟨keysb, xsb, psb, rb, esb, hb1, hb2k, hb3, hb4, rfl, hvb, hrb, hmb, heb⟩
    · cases hvb
      have asbN := Tryz.asN_B
      have asbS := Tryz.asS_B
      have asbR := Tryz.asR_B
      have asbM := Tryz.asM_B
      go_wp2_with fail
      refine (isNothing_bare kb w1).mono ?_
      rintro e w2 ⟨rfl, hbx⟩
      have HBn := hide (below_trans HB.out hbx)
      clear HB
      have HB := HBn
      clear HBn
      clear hbx
      by_cases kb0 : kb = 0
      · have kbb : (kb == 0) = true := by simpa using kb0
        have hq : Hid (sumT d (Nd.mk 4 0 sa [] [] : Nd (Tr d)) (Nd.mk kb 0 ByteArray.empty [] [] : Nd (Tr d)) = some (Nd.mk 4 0 sa [] [] : Nd (Tr d))) := by show sumT _ _ _ = _; unfold sumT; rw [if_neg (show Nd.kind (Nd.mk 4 0 sa [] [] : Nd (Tr d)) ≠ 0 from by show (4 : Int) ≠ 0; omega)]; exact if_pos kb0
        go_wp2_with fail
        go_ret2
        exact ⟨by first | exact HB.out | exact below_trans HB.out (below_alloc1 _ _) | exact below_trans (below_trans HB.out (below_alloc1 _ _)) (below_alloc1 _ _) | exact below_trans (below_trans (below_trans HB.out (below_alloc1 _ _)) (below_alloc1 _ _)) (below_alloc1 _ _), Or.inl ⟨_, _, hq.out, rfl, HRET.out _ _ _ HUA.out (by first | exact HB.out | exact below_trans HB.out (below_alloc1 _ _) | exact below_trans (below_trans HB.out (below_alloc1 _ _)) (below_alloc1 _ _) | exact below_trans (below_trans (below_trans HB.out (below_alloc1 _ _)) (below_alloc1 _ _)) (below_alloc1 _ _))⟩⟩
      have kbb : (kb == 0) = false := by simpa using kb0
      have hq : Hid (sumT d (Nd.mk 4 0 sa [] [] : Nd (Tr d)) (Nd.mk kb 0 ByteArray.empty [] [] : Nd (Tr d)) = none) := add_kinds (show Nd.kind (Nd.mk 4 0 sa [] [] : Nd (Tr d)) ≠ 0 from by show (4 : Int) ≠ 0; omega) (show Nd.kind (Nd.mk kb 0 ByteArray.empty [] [] : Nd (Tr d)) ≠ 0 from kb0) (Or.inl (by show (4 : Int) ≠ kb; omega))
      go_wp2_with fail
      go_ret2
      exact ⟨by first | exact HB.out | exact below_trans HB.out (below_alloc1 _ _) | exact below_trans (below_trans HB.out (below_alloc1 _ _)) (below_alloc1 _ _) | exact below_trans (below_trans (below_trans HB.out (below_alloc1 _ _)) (below_alloc1 _ _)) (below_alloc1 _ _), Or.inr ⟨hq.out, _, rfl⟩⟩
    · cases hvb
      have asbN := Tryz.asN_N
      have asbS := Tryz.asS_N
      have asbR := Tryz.asR_N
      have asbM := Tryz.asM_N
      go_wp2_with fail
      refine (isNothing_num _ w1).mono ?_
      rintro e w2 ⟨rfl, hbx⟩
      have HBn := hide (below_trans HB.out hbx)
      clear HB
      have HB := HBn
      clear HBn
      clear hbx
      have hq : Hid (sumT d (Nd.mk 4 0 sa [] [] : Nd (Tr d)) (Nd.mk 3 nb ByteArray.empty [] [] : Nd (Tr d)) = none) := add_kinds (show Nd.kind (Nd.mk 4 0 sa [] [] : Nd (Tr d)) ≠ 0 from by show (4 : Int) ≠ 0; omega) (show Nd.kind (Nd.mk 3 nb ByteArray.empty [] [] : Nd (Tr d)) ≠ 0 from by show (3 : Int) ≠ 0; omega) (Or.inl (by show (4 : Int) ≠ 3; omega))
      go_wp2_with fail
      go_ret2
      exact ⟨by first | exact HB.out | exact below_trans HB.out (below_alloc1 _ _) | exact below_trans (below_trans HB.out (below_alloc1 _ _)) (below_alloc1 _ _) | exact below_trans (below_trans (below_trans HB.out (below_alloc1 _ _)) (below_alloc1 _ _)) (below_alloc1 _ _), Or.inr ⟨hq.out, _, rfl⟩⟩
    · cases hvb
      have asbN := Tryz.asN_S
      have asbS := Tryz.asS_S
      have asbR := Tryz.asR_S
      have asbM := Tryz.asM_S
      go_wp2_with fail
      refine (isNothing_str _ w1).mono ?_
      rintro e w2 ⟨rfl, hbx⟩
      have HBn := hide (below_trans HB.out hbx)
      clear HB
      have HB := HBn
      clear HBn
      clear hbx
      have hq : Hid (sumT d (Nd.mk 4 0 sa [] [] : Nd (Tr d)) (Nd.mk 4 0 sb [] [] : Nd (Tr d)) = some (Nd.mk 4 0 (sa ++ sb) [] [] : Nd (Tr d))) := rfl
      have hn1 : sa.size ≤ 12 := by first | exact HSA.out rfl | exact HSA.out trivial
      have hn2 : sb.size ≤ 12 := by first | exact HSB.out rfl | exact HSB.out trivial
      go_wp2_with fail
      go_ret2
      exact ⟨by first | exact HB.out | exact below_trans HB.out (below_alloc1 _ _) | exact below_trans (below_trans HB.out (below_alloc1 _ _)) (below_alloc1 _ _) | exact below_trans (below_trans (below_trans HB.out (below_alloc1 _ _)) (below_alloc1 _ _)) (below_alloc1 _ _), Or.inl ⟨_, _, hq.out, rfl, Or.inr (Or.inr (Or.inl ⟨sa ++ sb, by rw [ByteArray.size_append]; omega, rfl, rfl⟩))⟩⟩
    · cases hvb
      have asbN := Tryz.asN_R
      have asbS := Tryz.asS_R
      have asbR := Tryz.asR_R
      have asbM := Tryz.asM_R
      go_wp2_with fail
      refine (isNothing_row _ w1).mono ?_
      rintro e w2 ⟨rfl, hbx⟩
      have HBn := hide (below_trans HB.out hbx)
      clear HB
      have HB := HBn
      clear HBn
      clear hbx
      have hq : Hid (sumT d (Nd.mk 4 0 sa [] [] : Nd (Tr d)) (Nd.mk 5 0 ByteArray.empty [] xsb : Nd (Tr d)) = none) := add_kinds (show Nd.kind (Nd.mk 4 0 sa [] [] : Nd (Tr d)) ≠ 0 from by show (4 : Int) ≠ 0; omega) (show Nd.kind (Nd.mk 5 0 ByteArray.empty [] xsb : Nd (Tr d)) ≠ 0 from by show (5 : Int) ≠ 0; omega) (Or.inl (by show (4 : Int) ≠ 5; omega))
      go_wp2_with fail
      go_ret2
      exact ⟨by first | exact HB.out | exact below_trans HB.out (below_alloc1 _ _) | exact below_trans (below_trans HB.out (below_alloc1 _ _)) (below_alloc1 _ _) | exact below_trans (below_trans (below_trans HB.out (below_alloc1 _ _)) (below_alloc1 _ _)) (below_alloc1 _ _), Or.inr ⟨hq.out, _, rfl⟩⟩
    · cases hvb
      have asbN := Tryz.asN_M
      have asbS := Tryz.asS_M
      have asbR := Tryz.asR_M
      have asbM := Tryz.asM_M
      go_wp2_with fail
      refine (isNothing_map _ w1).mono ?_
      rintro e w2 ⟨rfl, hbx⟩
      have HBn := hide (below_trans HB.out hbx)
      clear HB
      have HB := HBn
      clear HBn
      clear hbx
      have hq : Hid (sumT d (Nd.mk 4 0 sa [] [] : Nd (Tr d)) (Nd.mk 6 0 ByteArray.empty keysb xsb : Nd (Tr d)) = none) := add_kinds (show Nd.kind (Nd.mk 4 0 sa [] [] : Nd (Tr d)) ≠ 0 from by show (4 : Int) ≠ 0; omega) (show Nd.kind (Nd.mk 6 0 ByteArray.empty keysb xsb : Nd (Tr d)) ≠ 0 from by show (6 : Int) ≠ 0; omega) (Or.inl (by show (4 : Int) ≠ 6; omega))
      go_wp2_with fail
      go_ret2
      exact ⟨by first | exact HB.out | exact below_trans HB.out (below_alloc1 _ _) | exact below_trans (below_trans HB.out (below_alloc1 _ _)) (below_alloc1 _ _) | exact below_trans (below_trans (below_trans HB.out (below_alloc1 _ _)) (below_alloc1 _ _)) (below_alloc1 _ _), Or.inr ⟨hq.out, _, rfl⟩⟩
  · have asaN := Tryz.asN_R
    have asaS := Tryz.asS_R
    have asaR := Tryz.asR_R
    have asaM := Tryz.asM_R
    obtain ⟨aa, ca, rfl, _⟩ := hra.open'
    go_wp2_with fail
    refine (isNothing_row _ w).mono ?_
    rintro e w1 ⟨rfl, hbx⟩
    have HB := hide hbx
    clear hbx
    obtain ⟨Tb, ub', rfl⟩ := hub.iface
    rcases hub with ⟨kb, hb1, rfl, hvb⟩ | ⟨nb, hb1, rfl, hvb⟩ | ⟨sb, hb1, rfl, hvb⟩ | ⟨xsb, svb, hb1, rfl, hvb, hrb⟩ | ⟨keysb, xsb, psb, rb, esb, hb1, hb2k, hb3, hb4, rfl, hvb, hrb, hmb, heb⟩
    · cases hvb
      have asbN := Tryz.asN_B
      have asbS := Tryz.asS_B
      have asbR := Tryz.asR_B
      have asbM := Tryz.asM_B
      go_wp2_with fail
      refine (isNothing_bare kb w1).mono ?_
      rintro e w2 ⟨rfl, hbx⟩
      have HBn := hide (below_trans HB.out hbx)
      clear HB
      have HB := HBn
      clear HBn
      clear hbx
      by_cases kb0 : kb = 0
      · have kbb : (kb == 0) = true := by simpa using kb0
        have hq : Hid (sumT d (Nd.mk 5 0 ByteArray.empty [] xsa : Nd (Tr d)) (Nd.mk kb 0 ByteArray.empty [] [] : Nd (Tr d)) = some (Nd.mk 5 0 ByteArray.empty [] xsa : Nd (Tr d))) := by show sumT _ _ _ = _; unfold sumT; rw [if_neg (show Nd.kind (Nd.mk 5 0 ByteArray.empty [] xsa : Nd (Tr d)) ≠ 0 from by show (5 : Int) ≠ 0; omega)]; exact if_pos kb0
        go_wp2_with fail
        go_ret2
        exact ⟨by first | exact HB.out | exact below_trans HB.out (below_alloc1 _ _) | exact below_trans (below_trans HB.out (below_alloc1 _ _)) (below_alloc1 _ _) | exact below_trans (below_trans (below_trans HB.out (below_alloc1 _ _)) (below_alloc1 _ _)) (below_alloc1 _ _), Or.inl ⟨_, _, hq.out, rfl, HRET.out _ _ _ HUA.out (by first | exact HB.out | exact below_trans HB.out (below_alloc1 _ _) | exact below_trans (below_trans HB.out (below_alloc1 _ _)) (below_alloc1 _ _) | exact below_trans (below_trans (below_trans HB.out (below_alloc1 _ _)) (below_alloc1 _ _)) (below_alloc1 _ _))⟩⟩
      have kbb : (kb == 0) = false := by simpa using kb0
      have hq : Hid (sumT d (Nd.mk 5 0 ByteArray.empty [] xsa : Nd (Tr d)) (Nd.mk kb 0 ByteArray.empty [] [] : Nd (Tr d)) = none) := add_kinds (show Nd.kind (Nd.mk 5 0 ByteArray.empty [] xsa : Nd (Tr d)) ≠ 0 from by show (5 : Int) ≠ 0; omega) (show Nd.kind (Nd.mk kb 0 ByteArray.empty [] [] : Nd (Tr d)) ≠ 0 from kb0) (Or.inl (by show (5 : Int) ≠ kb; omega))
      go_wp2_with fail
      go_ret2
      exact ⟨by first | exact HB.out | exact below_trans HB.out (below_alloc1 _ _) | exact below_trans (below_trans HB.out (below_alloc1 _ _)) (below_alloc1 _ _) | exact below_trans (below_trans (below_trans HB.out (below_alloc1 _ _)) (below_alloc1 _ _)) (below_alloc1 _ _), Or.inr ⟨hq.out, _, rfl⟩⟩
    · cases hvb
      have asbN := Tryz.asN_N
      have asbS := Tryz.asS_N
      have asbR := Tryz.asR_N
      have asbM := Tryz.asM_N
      go_wp2_with fail
      refine (isNothing_num _ w1).mono ?_
      rintro e w2 ⟨rfl, hbx⟩
      have HBn := hide (below_trans HB.out hbx)
      clear HB
      have HB := HBn
      clear HBn
      clear hbx
      have hq : Hid (sumT d (Nd.mk 5 0 ByteArray.empty [] xsa : Nd (Tr d)) (Nd.mk 3 nb ByteArray.empty [] [] : Nd (Tr d)) = none) := add_kinds (show Nd.kind (Nd.mk 5 0 ByteArray.empty [] xsa : Nd (Tr d)) ≠ 0 from by show (5 : Int) ≠ 0; omega) (show Nd.kind (Nd.mk 3 nb ByteArray.empty [] [] : Nd (Tr d)) ≠ 0 from by show (3 : Int) ≠ 0; omega) (Or.inl (by show (5 : Int) ≠ 3; omega))
      go_wp2_with fail
      go_ret2
      exact ⟨by first | exact HB.out | exact below_trans HB.out (below_alloc1 _ _) | exact below_trans (below_trans HB.out (below_alloc1 _ _)) (below_alloc1 _ _) | exact below_trans (below_trans (below_trans HB.out (below_alloc1 _ _)) (below_alloc1 _ _)) (below_alloc1 _ _), Or.inr ⟨hq.out, _, rfl⟩⟩
    · cases hvb
      have asbN := Tryz.asN_S
      have asbS := Tryz.asS_S
      have asbR := Tryz.asR_S
      have asbM := Tryz.asM_S
      go_wp2_with fail
      refine (isNothing_str _ w1).mono ?_
      rintro e w2 ⟨rfl, hbx⟩
      have HBn := hide (below_trans HB.out hbx)
      clear HB
      have HB := HBn
      clear HBn
      clear hbx
      have hq : Hid (sumT d (Nd.mk 5 0 ByteArray.empty [] xsa : Nd (Tr d)) (Nd.mk 4 0 sb [] [] : Nd (Tr d)) = none) := add_kinds (show Nd.kind (Nd.mk 5 0 ByteArray.empty [] xsa : Nd (Tr d)) ≠ 0 from by show (5 : Int) ≠ 0; omega) (show Nd.kind (Nd.mk 4 0 sb [] [] : Nd (Tr d)) ≠ 0 from by show (4 : Int) ≠ 0; omega) (Or.inl (by show (5 : Int) ≠ 4; omega))
      go_wp2_with fail
      go_ret2
      exact ⟨by first | exact HB.out | exact below_trans HB.out (below_alloc1 _ _) | exact below_trans (below_trans HB.out (below_alloc1 _ _)) (below_alloc1 _ _) | exact below_trans (below_trans (below_trans HB.out (below_alloc1 _ _)) (below_alloc1 _ _)) (below_alloc1 _ _), Or.inr ⟨hq.out, _, rfl⟩⟩
    · cases hvb
      have asbN := Tryz.asN_R
      have asbS := Tryz.asS_R
      have asbR := Tryz.asR_R
      have asbM := Tryz.asM_R
      go_wp2_with fail
      refine (isNothing_row _ w1).mono ?_
      rintro e w2 ⟨rfl, hbx⟩
      have HBn := hide (below_trans HB.out hbx)
      clear HB
      have HB := HBn
      clear HBn
      clear hbx
      have hq : Hid (sumT d (Nd.mk 5 0 ByteArray.empty [] xsa : Nd (Tr d)) (Nd.mk 5 0 ByteArray.empty [] xsb : Nd (Tr d)) = some (rowT d (xsa ++ xsb))) := rfl
      obtain ⟨ba, cb, rfl, _⟩ := hrb.open'
      have hbA := below_trans (below_trans HB.out (below_alloc1 w2 (.cells #[.slice aa xsa.length ca] 80))) (below_alloc1 _ (.cells #[.slice ba xsb.length cb] 80))
      have HX := hide hra
      have HY := hide hrb
      clear hra hrb
      go_wp2_with fail
      obtain ⟨WC, hWC⟩ : ∃ WC, WC = ((w2.alloc (.cells #[.slice aa xsa.length ca] 80)).alloc (.cells #[.slice ba xsb.length cb] 80)).alloc (.cells #[.slice aa xsa.length ca, .slice ba xsb.length cb] 74) := ⟨_, rfl⟩
      have hbC : Below w.heap.size w WC := by rw [hWC]; exact below_trans hbA (below_alloc1 _ _)
      have hzC : WC.heap.size = w2.heap.size + 1 + 1 + 1 := by rw [hWC]; simp
      have hhC : WC.heap[w2.heap.size + 1 + 1]? = some (.cells #[.slice aa xsa.length ca, .slice ba xsb.length cb] 74 (0, 0)) := by
        have := heap_alloc_new ((w2.alloc (.cells #[.slice aa xsa.length ca] 80)).alloc (.cells #[.slice ba xsb.length cb] 80)) (.cells #[.slice aa xsa.length ca, .slice ba xsb.length cb] 74)
        rw [hWC]
        simpa using this
      rw [← hWC]
      have hsm := hSw.same hbC
      have hle := hbC.size
      refine Calls.mono (concat_any d S xsa xsb aa ba ca cb (w2.heap.size + 1 + 1) WC (HX.out.moved (At' := TreeG S WC d) hsm (fun _ h => h) (fun x u hx => TreeG.moved hsm (fun _ h => h) d x u hx)) (HY.out.moved (At' := TreeG S WC d) hsm (fun _ h => h) (fun x u hx => TreeG.moved hsm (fun _ h => h) d x u hx)) (hSw.later hle) (by simp [World.cell?, hhC]) (by simp [World.cell?, hhC]) (by omega) ha1 hb1) ?_
      rintro e w3 ⟨sv, vs, rfl, hgf, hb3⟩
      have hl3 : xsa.length < 60 := HLA.out
      have hl4 : xsb.length < 60 := HLB.out
      obtain ⟨ga, gc, e⟩ := hgf.slice
      rw [List.length_append] at e
      subst e
      have HT := hide (hgf.tree (M := N) (by rw [List.length_append]; omega) (by omega) (fun c hc => ⟨(hS c hc).1, by have := (hS c hc).2; have := hb3.size; omega⟩))
      have HB3 := hide (below_trans hbC hb3)
      clear hgf hb3 hsm hbC hWC hhC HB HX HY
      go_wp2_with fail
      go_ret2
      exact ⟨HB3.out, Or.inl ⟨_, _, hq.out, rfl, HT.out⟩⟩
    · cases hvb
      have asbN := Tryz.asN_M
      have asbS := Tryz.asS_M
      have asbR := Tryz.asR_M
      have asbM := Tryz.asM_M
      go_wp2_with fail
      refine (isNothing_map _ w1).mono ?_
      rintro e w2 ⟨rfl, hbx⟩
      have HBn := hide (below_trans HB.out hbx)
      clear HB
      have HB := HBn
      clear HBn
      clear hbx
      have hq : Hid (sumT d (Nd.mk 5 0 ByteArray.empty [] xsa : Nd (Tr d)) (Nd.mk 6 0 ByteArray.empty keysb xsb : Nd (Tr d)) = none) := add_kinds (show Nd.kind (Nd.mk 5 0 ByteArray.empty [] xsa : Nd (Tr d)) ≠ 0 from by show (5 : Int) ≠ 0; omega) (show Nd.kind (Nd.mk 6 0 ByteArray.empty keysb xsb : Nd (Tr d)) ≠ 0 from by show (6 : Int) ≠ 0; omega) (Or.inl (by show (5 : Int) ≠ 6; omega))
      go_wp2_with fail
      go_ret2
      exact ⟨by first | exact HB.out | exact below_trans HB.out (below_alloc1 _ _) | exact below_trans (below_trans HB.out (below_alloc1 _ _)) (below_alloc1 _ _) | exact below_trans (below_trans (below_trans HB.out (below_alloc1 _ _)) (below_alloc1 _ _)) (below_alloc1 _ _), Or.inr ⟨hq.out, _, rfl⟩⟩
  · have asaN := Tryz.asN_M
    have asaS := Tryz.asS_M
    have asaR := Tryz.asR_M
    have asaM := Tryz.asM_M
    go_wp2_with fail
    refine (isNothing_map _ w).mono ?_
    rintro e w1 ⟨rfl, hbx⟩
    have HB := hide hbx
    clear hbx
    obtain ⟨Tb, ub', rfl⟩ := hub.iface
    rcases hub with ⟨kb, hb1, rfl, hvb⟩ | ⟨nb, hb1, rfl, hvb⟩ | ⟨sb, hb1, rfl, hvb⟩ | ⟨xsb, svb, hb1, rfl, hvb, hrb⟩ | ⟨keysb, xsb, psb, rb, esb, hb1, hb2k, hb3, hb4, rfl, hvb, hrb, hmb, heb⟩
    · cases hvb
      have asbN := Tryz.asN_B
      have asbS := Tryz.asS_B
      have asbR := Tryz.asR_B
      have asbM := Tryz.asM_B
      go_wp2_with fail
      refine (isNothing_bare kb w1).mono ?_
      rintro e w2 ⟨rfl, hbx⟩
      have HBn := hide (below_trans HB.out hbx)
      clear HB
      have HB := HBn
      clear HBn
      clear hbx
      by_cases kb0 : kb = 0
      · have kbb : (kb == 0) = true := by simpa using kb0
        have hq : Hid (sumT d (Nd.mk 6 0 ByteArray.empty keysa xsa : Nd (Tr d)) (Nd.mk kb 0 ByteArray.empty [] [] : Nd (Tr d)) = some (Nd.mk 6 0 ByteArray.empty keysa xsa : Nd (Tr d))) := by show sumT _ _ _ = _; unfold sumT; rw [if_neg (show Nd.kind (Nd.mk 6 0 ByteArray.empty keysa xsa : Nd (Tr d)) ≠ 0 from by show (6 : Int) ≠ 0; omega)]; exact if_pos kb0
        go_wp2_with fail
        go_ret2
        exact ⟨by first | exact HB.out | exact below_trans HB.out (below_alloc1 _ _) | exact below_trans (below_trans HB.out (below_alloc1 _ _)) (below_alloc1 _ _) | exact below_trans (below_trans (below_trans HB.out (below_alloc1 _ _)) (below_alloc1 _ _)) (below_alloc1 _ _), Or.inl ⟨_, _, hq.out, rfl, HRET.out _ _ _ HUA.out (by first | exact HB.out | exact below_trans HB.out (below_alloc1 _ _) | exact below_trans (below_trans HB.out (below_alloc1 _ _)) (below_alloc1 _ _) | exact below_trans (below_trans (below_trans HB.out (below_alloc1 _ _)) (below_alloc1 _ _)) (below_alloc1 _ _))⟩⟩
      have kbb : (kb == 0) = false := by simpa using kb0
      have hq : Hid (sumT d (Nd.mk 6 0 ByteArray.empty keysa xsa : Nd (Tr d)) (Nd.mk kb 0 ByteArray.empty [] [] : Nd (Tr d)) = none) := add_kinds (show Nd.kind (Nd.mk 6 0 ByteArray.empty keysa xsa : Nd (Tr d)) ≠ 0 from by show (6 : Int) ≠ 0; omega) (show Nd.kind (Nd.mk kb 0 ByteArray.empty [] [] : Nd (Tr d)) ≠ 0 from kb0) (Or.inl (by show (6 : Int) ≠ kb; omega))
      go_wp2_with fail
      go_ret2
      exact ⟨by first | exact HB.out | exact below_trans HB.out (below_alloc1 _ _) | exact below_trans (below_trans HB.out (below_alloc1 _ _)) (below_alloc1 _ _) | exact below_trans (below_trans (below_trans HB.out (below_alloc1 _ _)) (below_alloc1 _ _)) (below_alloc1 _ _), Or.inr ⟨hq.out, _, rfl⟩⟩
    · cases hvb
      have asbN := Tryz.asN_N
      have asbS := Tryz.asS_N
      have asbR := Tryz.asR_N
      have asbM := Tryz.asM_N
      go_wp2_with fail
      refine (isNothing_num _ w1).mono ?_
      rintro e w2 ⟨rfl, hbx⟩
      have HBn := hide (below_trans HB.out hbx)
      clear HB
      have HB := HBn
      clear HBn
      clear hbx
      have hq : Hid (sumT d (Nd.mk 6 0 ByteArray.empty keysa xsa : Nd (Tr d)) (Nd.mk 3 nb ByteArray.empty [] [] : Nd (Tr d)) = none) := add_kinds (show Nd.kind (Nd.mk 6 0 ByteArray.empty keysa xsa : Nd (Tr d)) ≠ 0 from by show (6 : Int) ≠ 0; omega) (show Nd.kind (Nd.mk 3 nb ByteArray.empty [] [] : Nd (Tr d)) ≠ 0 from by show (3 : Int) ≠ 0; omega) (Or.inl (by show (6 : Int) ≠ 3; omega))
      go_wp2_with fail
      go_ret2
      exact ⟨by first | exact HB.out | exact below_trans HB.out (below_alloc1 _ _) | exact below_trans (below_trans HB.out (below_alloc1 _ _)) (below_alloc1 _ _) | exact below_trans (below_trans (below_trans HB.out (below_alloc1 _ _)) (below_alloc1 _ _)) (below_alloc1 _ _), Or.inr ⟨hq.out, _, rfl⟩⟩
    · cases hvb
      have asbN := Tryz.asN_S
      have asbS := Tryz.asS_S
      have asbR := Tryz.asR_S
      have asbM := Tryz.asM_S
      go_wp2_with fail
      refine (isNothing_str _ w1).mono ?_
      rintro e w2 ⟨rfl, hbx⟩
      have HBn := hide (below_trans HB.out hbx)
      clear HB
      have HB := HBn
      clear HBn
      clear hbx
      have hq : Hid (sumT d (Nd.mk 6 0 ByteArray.empty keysa xsa : Nd (Tr d)) (Nd.mk 4 0 sb [] [] : Nd (Tr d)) = none) := add_kinds (show Nd.kind (Nd.mk 6 0 ByteArray.empty keysa xsa : Nd (Tr d)) ≠ 0 from by show (6 : Int) ≠ 0; omega) (show Nd.kind (Nd.mk 4 0 sb [] [] : Nd (Tr d)) ≠ 0 from by show (4 : Int) ≠ 0; omega) (Or.inl (by show (6 : Int) ≠ 4; omega))
      go_wp2_with fail
      go_ret2
      exact ⟨by first | exact HB.out | exact below_trans HB.out (below_alloc1 _ _) | exact below_trans (below_trans HB.out (below_alloc1 _ _)) (below_alloc1 _ _) | exact below_trans (below_trans (below_trans HB.out (below_alloc1 _ _)) (below_alloc1 _ _)) (below_alloc1 _ _), Or.inr ⟨hq.out, _, rfl⟩⟩
    · cases hvb
      have asbN := Tryz.asN_R
      have asbS := Tryz.asS_R
      have asbR := Tryz.asR_R
      have asbM := Tryz.asM_R
      go_wp2_with fail
      refine (isNothing_row _ w1).mono ?_
      rintro e w2 ⟨rfl, hbx⟩
      have HBn := hide (below_trans HB.out hbx)
      clear HB
      have HB := HBn
      clear HBn
      clear hbx
      have hq : Hid (sumT d (Nd.mk 6 0 ByteArray.empty keysa xsa : Nd (Tr d)) (Nd.mk 5 0 ByteArray.empty [] xsb : Nd (Tr d)) = none) := add_kinds (show Nd.kind (Nd.mk 6 0 ByteArray.empty keysa xsa : Nd (Tr d)) ≠ 0 from by show (6 : Int) ≠ 0; omega) (show Nd.kind (Nd.mk 5 0 ByteArray.empty [] xsb : Nd (Tr d)) ≠ 0 from by show (5 : Int) ≠ 0; omega) (Or.inl (by show (6 : Int) ≠ 5; omega))
      go_wp2_with fail
      go_ret2
      exact ⟨by first | exact HB.out | exact below_trans HB.out (below_alloc1 _ _) | exact below_trans (below_trans HB.out (below_alloc1 _ _)) (below_alloc1 _ _) | exact below_trans (below_trans (below_trans HB.out (below_alloc1 _ _)) (below_alloc1 _ _)) (below_alloc1 _ _), Or.inr ⟨hq.out, _, rfl⟩⟩
    · cases hvb
      have asbN := Tryz.asN_M
      have asbS := Tryz.asS_M
      have asbR := Tryz.asR_M
      have asbM := Tryz.asM_M
      go_wp2_with fail
      refine (isNothing_map _ w1).mono ?_
      rintro e w2 ⟨rfl, hbx⟩
      have HBn := hide (below_trans HB.out hbx)
      clear HB
      have HB := HBn
      clear HBn
      clear hbx
      have hq : Hid (sumT d (Nd.mk 6 0 ByteArray.empty keysa xsa : Nd (Tr d)) (Nd.mk 6 0 ByteArray.empty keysb xsb : Nd (Tr d)) = some (mapT d (putAll (keysa.zip xsa) (keysb.zip xsb)))) := rfl
      have hb2 := hide (below_trans (below_trans HB.out (below_alloc1 w2 (.cells #[.map (some ra)] 120))) (below_alloc1 _ (.cells #[.map (some rb)] 120)))
      have HIA := hide (show MapIn S w ra esa psa (keysa.zip xsa) from ⟨hma, hea, ha4, by rw [zip_fst _ _ ha3]; exact ha2⟩)
      have HIB := hide (show MapIn S w rb esb psb (keysb.zip xsb) from ⟨hmb, heb, hb4, by rw [zip_fst _ _ hb3]; exact hb2k⟩)
      have HLA2 : xsa.length < 60 := HLA.out
      have HLB2 : xsb.length < 60 := HLB.out
      have hral := hSw ra hra
      have hrbl := hSw rb hrb
      clear hma hea ha4 ha3 ha2 hmb heb hb4 hb3 hb2k hra hrb
      go_wp2_with fail
      have hsm := hSw.same hb2.out
      refine Calls.mono (addMaps_any d N S ra rb esa esb psa (keysa.zip xsa) psb (keysb.zip xsb) _ (HIA.out.later (hb2.out.block _ hral) hsm) (HIB.out.later (hb2.out.block _ hrbl) hsm) (fun c hc => ⟨(hS c hc).1, by have := (hS c hc).2; have := hb2.out.size; omega⟩) (by have := hb2.out.size; omega) (by rw [List.length_zip, List.length_zip]; omega)) ?_
      rintro e w3 ⟨u, rfl, hu, hb3'⟩
      obtain ⟨Tu, u', rfl⟩ := hu.iface
      have HU := hide hu
      have HB3 := hide (below_trans hb2.out hb3')
      clear hu hb3' hsm
      go_wp2_with fail
      go_ret2
      exact ⟨HB3.out, Or.inl ⟨_, _, hq.out, rfl, HU.out⟩⟩

theorem add_bad2 {d : Nat} {a b : Tr (d + 1)} (h : okT (d + 1) a = false ∨ okT (d + 1) b = false) : partAddT d a b = (zeroT d, false) := by
  unfold partAddT
  refine if_neg (fun hh => ?_)
  rcases h with h | h
  · rw [h] at hh; exact absurd hh.1 (by simp)
  · rw [h] at hh; exact absurd hh.2 (by simp)

set_option maxRecDepth 100000 in
set_option maxHeartbeats 4000000 in
theorem implPartAdd_any (d : Nat) (S : Nat → Prop) (a : Tr (d + 1)) (va : Value) (S2 : Nat → Prop) (b : Tr (d + 1)) (vb : Value) (w : World) (hv : ValAt S w (d + 1) a va) (hS : Within S w) (hx : ValAt S2 w (d + 1) b vb) (hS2 : Within S2 w) (hg : ErrType w) :
    Calls Tryz.prog 27 #[va, vb] w (TellQ d (partAddT d a b).1 (partAddT d a b).2 w) := by
  obtain ⟨k, n, s, ak, lk, ck, al, ll, cl, rfl⟩ := hv.shape
  obtain ⟨k', n', s', ak', lk', ck', al', ll', cl', rfl⟩ := hx.shape
  obtain ⟨k0, k1, k2, hW0, hsz0⟩ := laid3 w 29 29 29 (.int .i64 k) (.int .i64 n) (.string s) (.slice ak lk ck) (.slice al ll cl) (.int .i64 k') (.int .i64 n') (.string s') (.slice ak' lk' ck') (.slice al' ll' cl') (.int .i64 0) (.int .i64 0) (.string { data := #[] }) (.slice none 0 0) (.slice none 0 0)
  obtain ⟨W0, hW⟩ : ∃ W0, W0 = ((w.alloc (.cells #[.int .i64 k, .int .i64 n, .string s, .slice ak lk ck, .slice al ll cl] 29)).alloc (.cells #[.int .i64 k', .int .i64 n', .string s', .slice ak' lk' ck', .slice al' ll' cl'] 29)).alloc (.cells #[.int .i64 0, .int .i64 0, .string { data := #[] }, .slice none 0 0, .slice none 0 0] 29) := ⟨_, rfl⟩
  rw [← hW] at k0 k1 k2 hW0 hsz0
  have HW := hide hW
  clear hW k0
  go_enter Tryz.func27, Tryz.ntmps27
  go_wp2_with fail
  rw [← HW.out]
  clear HW
  refine (given_any (d + 1) S a _ W0 (hv.same (hS.same hW0)) (hS.later hW0.size)).mono ?_
  rintro e w1 ⟨hb1, hq⟩
  have hB1 := below_trans hW0 hb1
  replace k1 := k1.below hb1
  replace k2 := k2.below hb1
  have hg1 := hg.below hB1
  have hs1 := hb1.size
  have hfin : ∀ (w1' : World), Below W0.heap.size w1 w1' → ∀ (y : Tr (d + 1)) (ok : Bool), Hid (∀ e w2, TellQ d y ok w1' e w2 → ∃ v0 v1 v2 v3 v4 v5 v6 v7 v8, e = .returned (.tuple #[.agg #[.int .i64 v0, .int .i64 v1, .string v2, .slice v3 v4 v5, .slice v6 v7 v8], .bool ok]) ∧
      Blk5 w2 (w.heap.size + 1 + 1) 29 (.int .i64 0) (.int .i64 0) (.string { data := #[] }) (.slice none 0 0) (.slice none 0 0) ∧
      ∀ wF, wF = set5 w2 (w.heap.size + 1 + 1) 0 (.int .i64 v0) (.int .i64 v1) (.string v2) (.slice v3 v4 v5) (.slice v6 v7 v8) → ValOwn wF (d + 1) (Fresh w wF) y (.agg #[.int .i64 v0, .int .i64 v1, .string v2, .slice v3 v4 v5, .slice v6 v7 v8]) ∧ Below w.heap.size w wF) := fun w1' hb' y ok => by
    intro e w2 ⟨v, he, hv, hb2⟩
    obtain ⟨v0, v1, v2, v3, v4, v5, v6, v7, v8, rfl⟩ := (ValOwn.at _ _ _ _ hv).shape
    have hbw : Below w.heap.size w w1' := hB1.trans (hb'.mono (by omega))
    have hk : Blk5 w1' (w.heap.size + 1 + 1) 29 (.int .i64 0) (.int .i64 0) (.string { data := #[] }) (.slice none 0 0) (.slice none 0 0) := k2.of_block (hb'.block _ (by omega))
    exact ⟨v0, v1, v2, v3, v4, v5, v6, v7, v8, he, hk.below hb2, tell_end hv (below_trans hbw hb2) (by omega) (by have := hb'.size; omega)⟩
  clear hv hW0 k2
  rcases hq with ⟨hok, u, rfl, hu⟩ | ⟨hok, why, rfl⟩
  · obtain ⟨T, u', rfl⟩ := hu.iface
    obtain ⟨x0, x1, x2, x3, x4⟩ := k1.cell
    have HU := hide hu
    clear hu
    go_wp2_with fail
    refine (given_any (d + 1) S2 b _ w1 (hx.same (hS2.same hB1)) (hS2.later hB1.size)).mono ?_
    rintro e w2 ⟨hb2, hq⟩
    have hbN2 : Below W0.heap.size w1 w2 := hb2.mono hs1
    have hs2 := hb2.size
    have hg2 := hg1.below hb2
    clear x0 x1 x2 x3 x4
    rcases hq with ⟨hok2, u2, rfl, hu2⟩ | ⟨hok2, why, rfl⟩
    · obtain ⟨T2, u2', rfl⟩ := hu2.iface
      have hu1 : TreeG (fun c => W0.heap.size ≤ c ∧ c < w2.heap.size) w2 (d + 1) a (.iface T u') := TreeG.moved (fun c hc => hb2.block c hc.2) (fun c hc => ⟨hc.1, by have := hc.2; omega⟩) (d + 1) a _ HU.out
      have hu2' : TreeG (fun c => W0.heap.size ≤ c ∧ c < w2.heap.size) w2 (d + 1) b (.iface T2 u2') := hu2.mono (fun c hc => ⟨by have := hc.1; omega, hc.2⟩)
      have hcallA := hide (addTrees_any d W0.heap.size (fun c => W0.heap.size ≤ c ∧ c < w2.heap.size) a b _ _ w2 hok hok2 hu1 hu2' (fun c hc => hc) (by omega))
      have HOK := hide (And.intro hok hok2)
      clear hu1 hu2 hu2' hb2 hok hok2 HU
      go_wp2_with fail
      refine Calls.mono hcallA.out ?_
      rintro e w3 ⟨hb3, hq⟩
      have hbN3 := hbN2.trans (hb3.mono (by omega))
      have hg3 := hg2.below hb3
      clear hcallA
      rcases hq with ⟨t, u3, hsum, rfl, hu3⟩ | ⟨hsum, why, rfl⟩
      · obtain ⟨T3, u3', rfl⟩ := hu3.iface
        have HR : Hid (partAddT d a b = (toldT d t, okT (d + 1) t)) := by
          show partAddT d a b = _
          unfold partAddT
          rw [if_pos HOK.out, hsum]
        have hcall := hide (told_tree d _ _ _ w3 hu3 (fun b hb => hb.2))
        clear hu3 hsum hb3
        go_wp2_with fail
        refine Calls.mono hcall.out ?_
        intro e w4 hq
        obtain ⟨v0, v1, v2, v3, v4, v5, v6, v7, v8, rfl, k3, hF⟩ := (hfin w3 hbN3 _ _).out e w4 hq
        have HF := hide hF
        obtain ⟨y0, y1, y2, y3, y4⟩ := k3.cell
        have yf := k3.frozen
        clear hF hq hfin hcall k3
        go_wp2_with fail
        refine bodyPost_ret (v := .tuple #[.agg #[.int .i64 v0, .int .i64 v1, .string v2, .slice v3 v4 v5, .slice v6 v7 v8], .bool (okT (d + 1) t)]) (by simp [results, Tryz.results27, go_sem, y0, y1, y2, y3, y4]) rfl ⟨_, by rw [HR.out], by rw [HR.out]; exact (HF.out _ rfl).1, (HF.out _ rfl).2⟩
      · have HR : Hid (partAddT d a b = (zeroT d, false)) := by
          show partAddT d a b = _
          unfold partAddT
          rw [if_pos HOK.out, hsum]
        have hcall := hide (told_fault d .nilIface why w3 hg3)
        unfold faultV
        clear hsum hb3
        go_wp2_with fail
        refine Calls.mono hcall.out ?_
        intro e w4 hq
        obtain ⟨v0, v1, v2, v3, v4, v5, v6, v7, v8, rfl, k3, hF⟩ := (hfin w3 hbN3 _ _).out e w4 hq
        have HF := hide hF
        obtain ⟨y0, y1, y2, y3, y4⟩ := k3.cell
        have yf := k3.frozen
        clear hF hq hfin hcall k3
        go_wp2_with fail
        refine bodyPost_ret (v := .tuple #[.agg #[.int .i64 v0, .int .i64 v1, .string v2, .slice v3 v4 v5, .slice v6 v7 v8], .bool false]) (by simp [results, Tryz.results27, go_sem, y0, y1, y2, y3, y4]) rfl ⟨_, by rw [HR.out], by rw [HR.out]; exact (HF.out _ rfl).1, (HF.out _ rfl).2⟩
    · have HR : Hid (partAddT d a b = (zeroT d, false)) := add_bad2 (Or.inr hok2)
      have hcall := hide (told_fault d .nilIface why w2 hg2)
      unfold faultV
      clear HU
      go_wp2_with fail
      refine Calls.mono hcall.out ?_
      intro e w4 hq
      obtain ⟨v0, v1, v2, v3, v4, v5, v6, v7, v8, rfl, k3, hF⟩ := (hfin w2 hbN2 _ _).out e w4 hq
      have HF := hide hF
      obtain ⟨y0, y1, y2, y3, y4⟩ := k3.cell
      have yf := k3.frozen
      clear hF hq hfin hcall k3
      go_wp2_with fail
      refine bodyPost_ret (v := .tuple #[.agg #[.int .i64 v0, .int .i64 v1, .string v2, .slice v3 v4 v5, .slice v6 v7 v8], .bool false]) (by simp [results, Tryz.results27, go_sem, y0, y1, y2, y3, y4]) rfl ⟨_, by rw [HR.out], by rw [HR.out]; exact (HF.out _ rfl).1, (HF.out _ rfl).2⟩
  · have HR : Hid (partAddT d a b = (zeroT d, false)) := add_bad2 (Or.inl hok)
    have hcall := hide (told_fault d .nilIface why w1 hg1)
    unfold faultV
    clear k1
    go_wp2_with fail
    refine Calls.mono hcall.out ?_
    intro e w2 hq
    obtain ⟨v0, v1, v2, v3, v4, v5, v6, v7, v8, rfl, k3, hF⟩ := (hfin w1 (Below.refl _ _) _ _).out e w2 hq
    have HF := hide hF
    obtain ⟨y0, y1, y2, y3, y4⟩ := k3.cell
    have yf := k3.frozen
    clear hF hq hfin hcall k3
    go_wp2_with fail
    refine bodyPost_ret (v := .tuple #[.agg #[.int .i64 v0, .int .i64 v1, .string v2, .slice v3 v4 v5, .slice v6 v7 v8], .bool false]) (by simp [results, Tryz.results27, go_sem, y0, y1, y2, y3, y4]) rfl ⟨_, by rw [HR.out], by rw [HR.out]; exact (HF.out _ rfl).1, (HF.out _ rfl).2⟩
end Go.Proofs.YtilgbnnjecpneaaGreatDoor
