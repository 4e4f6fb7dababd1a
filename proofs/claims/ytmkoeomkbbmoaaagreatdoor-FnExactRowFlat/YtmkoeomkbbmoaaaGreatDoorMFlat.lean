/- A row of the model's that is being made out of trees that lie elsewhere; what is told, in the result's own cells. -/
import Derived.Test.YtmkoeomkbbmoaaaGreatDoorWGTo
import Derived.Test.YtmkoeomkbbmoaaaGreatDoorWCopy
import Derived.Test.YtmkoeomkbbmoaaaGreatDoorWAssert
import Derived.Test.YtmkoeomkbbmoaaaGreatDoorWPartP
namespace Go.Proofs.YtmkoeomkbbmoaaaGreatDoor
open Go.RowKit Go.Deep

theorem nodes_wt : ∀ (d : Nat) (t : Tr d), nodes d t ≤ wtT d t
  | 0, t => Empty.elim t
  | d + 1, t => by
    have h : ∀ xs : List (Tr d), (xs.map (nodes d)).sum ≤ (xs.map (wtT d)).sum := by
      intro xs
      induction xs with
      | nil => exact Nat.le_refl _
      | cons x r ih =>
        have := nodes_wt d x
        simp only [List.map_cons, List.sum_cons]
        omega
    have := h (Nd.list t)
    rw [nodes, wtT]
    omega
theorem nodes_ok {d : Nat} {t : Tr d} (h : okT d t = true) : nodes d t ≤ 300 := Nat.le_trans (nodes_wt d t) (wtT_ok h)
theorem sum_le_of {α : Type} {f : α → Nat} {c : Nat} : ∀ {xs : List α}, (∀ x ∈ xs, f x ≤ c) → (xs.map f).sum ≤ c * xs.length
  | [], _ => by simp
  | x :: r, h => by
    have h1 := h x (by simp)
    have h2 := sum_le_of (xs := r) (fun y hy => h y (by simp [hy]))
    simp only [List.map_cons, List.sum_cons, List.length_cons]
    rw [Nat.mul_succ]
    omega
/-- A row of the model's that owns its cells; its trees lie in blocks of S. -/
def VTo {d : Nat} (S : Nat → Prop) (N : Nat) (w : World) (lv : Value) (xs : List (Tr d)) (vs : List Value) : Prop :=
  w.ownsRow N 29 5 lv xs.length vs ∧ ∀ (j : Nat) (x : Tr d), xs[j]? = some x → ∃ c0 c1 c2 c3 c4, vs[j * 5]? = some c0 ∧ vs[j * 5 + 1]? = some c1 ∧ vs[j * 5 + 2]? = some c2 ∧ vs[j * 5 + 3]? = some c3 ∧ vs[j * 5 + 4]? = some c4 ∧ ValAt S w d x (.agg #[c0, c1, c2, c3, c4])

theorem VTo.grow {d N : Nat} {S : Nat → Prop} {wr w2 : World} {lv lv' : Value} {xs : List (Tr d)} {vs : List Value} {x : Tr d} {v0 v1 v2 v3 v4 : Value} (h : VTo S N wr lv xs vs) (hs : Same S wr w2) (hx : ValAt S wr d x (.agg #[v0, v1, v2, v3, v4])) (hown : w2.ownsRow N 29 5 lv' (xs.length + 1) (vs ++ [v0, v1, v2, v3, v4])) : VTo S N w2 lv' (xs ++ [x]) (vs ++ [v0, v1, v2, v3, v4]) := by
  obtain ⟨h1, h2⟩ := h
  have hlen : vs.length = xs.length * 5 := h1.1
  refine ⟨by rw [List.length_append]; exact hown, fun j y hy => ?_⟩
  by_cases e : j < xs.length
  · rw [List.getElem?_append_left e] at hy
    obtain ⟨c0, c1, c2, c3, c4, e0, e1, e2, e3, e4, hv⟩ := h2 j y hy
    refine ⟨c0, c1, c2, c3, c4, ?_, ?_, ?_, ?_, ?_, hv.same hs⟩
    · rw [List.getElem?_append_left (by omega)]; exact e0
    · rw [List.getElem?_append_left (by omega)]; exact e1
    · rw [List.getElem?_append_left (by omega)]; exact e2
    · rw [List.getElem?_append_left (by omega)]; exact e3
    · rw [List.getElem?_append_left (by omega)]; exact e4
  · have hj : j = xs.length := by
      have := (List.getElem?_eq_some_iff.1 hy).1
      rw [List.length_append, List.length_singleton] at this
      omega
    subst hj
    rw [List.getElem?_append_right (Nat.le_refl _), Nat.sub_self] at hy
    cases hy
    refine ⟨v0, v1, v2, v3, v4, ?_, ?_, ?_, ?_, ?_, hx.same hs⟩
    · rw [List.getElem?_append_right (by omega), hlen]; simp
    · rw [List.getElem?_append_right (by omega), hlen]; simp
    · rw [List.getElem?_append_right (by omega), hlen]; simp
    · rw [List.getElem?_append_right (by omega), hlen]; simp
    · rw [List.getElem?_append_right (by omega), hlen]; simp

theorem VTo.moved {d N : Nat} {S : Nat → Prop} {w w' : World} {lv : Value} {xs : List (Tr d)} {vs : List Value} (h : VTo S N w lv xs vs) (hs : Same S w w') (ho : ∀ g, lv.ownBlock = some g → w'.heap[g]? = w.heap[g]?) : VTo S N w' lv xs vs := by
  obtain ⟨h1, h2⟩ := h
  refine ⟨⟨h1.1, ?_⟩, fun j x hx => ?_⟩
  · rcases h1.2 with h | ⟨g, cap, cur, hv, hg, hh, hrest⟩
    · exact Or.inl h
    · exact Or.inr ⟨g, cap, cur, hv, hg, (ho g (by rw [hv]; rfl)).trans hh, hrest⟩
  · obtain ⟨c0, c1, c2, c3, c4, e0, e1, e2, e3, e4, hv⟩ := h2 j x hx
    exact ⟨c0, c1, c2, c3, c4, e0, e1, e2, e3, e4, hv.same hs⟩

/-- The row, where it lies. -/
theorem VTo.at {d N : Nat} {S : Nat → Prop} {w : World} {lv : Value} {xs : List (Tr d)} {vs : List Value} (h : VTo S N w lv xs vs) (hl : xs.length < 3518437208883) : RowAt (fun b => S b ∨ (N ≤ b ∧ b < w.heap.size)) w (ValAt (fun b => S b ∨ (N ≤ b ∧ b < w.heap.size)) w d) lv xs := by
  obtain ⟨h1, h2⟩ := h
  refine ⟨hl, ?_⟩
  rcases h1.2 with ⟨rfl, h0⟩ | ⟨g, cap, cur, rfl, hg, hh, hnc, _, hcs, htake⟩
  · exact ⟨none, 0, by rw [h0], Or.inl (List.eq_nil_of_length_eq_zero h0)⟩
  · refine ⟨some ⟨g, 0, none⟩, cap, rfl, Or.inr ⟨g, 0, Or.inr ⟨hg, (Array.getElem?_eq_some_iff.1 hh).1⟩, rfl, fun i x hx => ?_⟩⟩
    obtain ⟨c0, c1, c2, c3, c4, e0, e1, e2, e3, e4, hv⟩ := h2 i x hx
    have hi := (List.getElem?_eq_some_iff.1 hx).1
    have hc : ∀ j c, j < xs.length * 5 → vs[j]? = some c → w.cell? ⟨g, 0 + j, none⟩ = some c := fun j c hj hc => by
      rw [Nat.zero_add]
      exact (h1.cellAt j hj).trans hc
    refine ⟨c0, c1, c2, c3, c4, hc _ _ (by omega) e0, hc _ _ (by omega) e1, hc _ _ (by omega) e2, hc _ _ (by omega) e3, hc _ _ (by omega) e4, hv.mono (fun b hb => Or.inl hb)⟩

/-- Another tree at a place. -/
theorem VTo.put {d N g n cap k : Nat} {S : Nat → Prop} {w : World} {xs : List (Tr d)} {vs : List Value} {x : Tr d} {v0 v1 v2 v3 v4 : Value} (h : VTo S N w (.slice (some ⟨g, 0, none⟩) n cap) xs vs) (hn : n = xs.length) (hk : k < xs.length) (hx : ValAt S w d x (.agg #[v0, v1, v2, v3, v4])) (hS : ∀ b, S b → b < N) :
    (∃ vs', VTo S N (set5 w g (k * 5) v0 v1 v2 v3 v4) (.slice (some ⟨g, 0, none⟩) n cap) (xs.set k x) vs') ∧ Below N w (set5 w g (k * 5) v0 v1 v2 v3 v4) := by
  subst hn
  obtain ⟨h1, h2⟩ := h
  have hlen : vs.length = xs.length * 5 := h1.1
  have hgN := (h1.lt g rfl).1
  have hB : Below N w (set5 w g (k * 5) v0 v1 v2 v3 v4) := below_set5 (Below.refl _ _) hgN _ _ _ _ _ _
  have hsame : Same S w (set5 w g (k * 5) v0 v1 v2 v3 v4) := fun b hb => hB.block b (hS b hb)
  have ho := (((((h1.stored (k * 5) v0).1.stored (k * 5 + 1) v1).1.stored (k * 5 + 2) v2).1.stored (k * 5 + 3) v3).1.stored (k * 5 + 4) v4).1
  refine ⟨⟨_, by rw [List.length_set]; exact ho, fun j y hy => ?_⟩, hB⟩
  by_cases e : k = j
  · subst e
    rw [List.getElem?_set_self hk] at hy
    cases hy
    refine ⟨v0, v1, v2, v3, v4, ?_, ?_, ?_, ?_, ?_, hx.same hsame⟩
    all_goals simp [List.getElem?_set, hlen]
    all_goals omega
  · rw [List.getElem?_set_ne e] at hy
    obtain ⟨c0, c1, c2, c3, c4, e0, e1, e2, e3, e4, hv⟩ := h2 j y hy
    refine ⟨c0, c1, c2, c3, c4, ?_, ?_, ?_, ?_, ?_, hv.same hsame⟩
    · rw [List.getElem?_set_ne (by omega), List.getElem?_set_ne (by omega), List.getElem?_set_ne (by omega), List.getElem?_set_ne (by omega), List.getElem?_set_ne (by omega)]; exact e0
    · rw [List.getElem?_set_ne (by omega), List.getElem?_set_ne (by omega), List.getElem?_set_ne (by omega), List.getElem?_set_ne (by omega), List.getElem?_set_ne (by omega)]; exact e1
    · rw [List.getElem?_set_ne (by omega), List.getElem?_set_ne (by omega), List.getElem?_set_ne (by omega), List.getElem?_set_ne (by omega), List.getElem?_set_ne (by omega)]; exact e2
    · rw [List.getElem?_set_ne (by omega), List.getElem?_set_ne (by omega), List.getElem?_set_ne (by omega), List.getElem?_set_ne (by omega), List.getElem?_set_ne (by omega)]; exact e3
    · rw [List.getElem?_set_ne (by omega), List.getElem?_set_ne (by omega), List.getElem?_set_ne (by omega), List.getElem?_set_ne (by omega), List.getElem?_set_ne (by omega)]; exact e4
/-- What was told is put into the result's own cells. -/
theorem tell_endA {d : Nat} {t : Tr (d + 1)} {w w1 w2 : World} {v0 v1 : Int} {v2 : ByteArray} {v3 v6 : Option Addr} {v4 v5 v7 v8 rb : Nat} (hv : ValAt (Fresh w1 w2) w2 (d + 1) t (.agg #[.int .i64 v0, .int .i64 v1, .string v2, .slice v3 v4 v5, .slice v6 v7 v8])) (hb : Below w.heap.size w w2)
    (hr : w.heap.size ≤ rb) (hr1 : rb < w1.heap.size) :
    ∀ wF, wF = set5 w2 rb 0 (.int .i64 v0) (.int .i64 v1) (.string v2) (.slice v3 v4 v5) (.slice v6 v7 v8) → ValAt (Fresh w wF) wF (d + 1) t (.agg #[.int .i64 v0, .int .i64 v1, .string v2, .slice v3 v4 v5, .slice v6 v7 v8]) ∧ Below w.heap.size w wF := by
  intro wF hF
  have hzF : wF.heap.size = w2.heap.size := by rw [hF, set5_size]
  refine ⟨ValAt.moved (fun b hb => ?_) (fun b hb => ⟨by have := hb.1; omega, by have := hb.2; omega⟩) (d + 1) t _ hv, ?_⟩
  · rw [hF, set5_block _ _ _ _ _ _ _ _ _ (by have := hb.1; omega)]
  · rw [hF]
    exact below_set5 hb hr _ _ _ _ _ _

end Go.Proofs.YtmkoeomkbbmoaaaGreatDoor

/- treesInRow: the trees of a row, in memory of their own. -/
namespace Go.Proofs.YtmkoeomkbbmoaaaGreatDoor
open Go.RowKit Go.Deep

/-- The trees of a row that is ok. -/
def treesL (d : Nat) (t : Tr (d + 1)) : Option (List (Tr d)) := if okT (d + 1) t = true then (if Nd.kind t = 5 then some (Nd.list t) else none) else none
theorem treesL_ok {d : Nat} {t : Tr (d + 1)} (h : okT (d + 1) t = true) : treesL d t = (if Nd.kind t = 5 then some (Nd.list t) else none) := if_pos h
theorem treesL_some {d : Nat} {t : Tr (d + 1)} {xs : List (Tr d)} (h : treesL d t = some xs) : okT (d + 1) t = true ∧ Nd.kind t = 5 ∧ Nd.list t = xs := by
  unfold treesL at h
  split at h
  · split at h
    · exact ⟨‹_›, ‹_›, by cases h; rfl⟩
    · cases h
  · cases h

/-- What treesInRow is asked to give. -/
def TreesOQ (d : Nat) (t : Tr (d + 1)) (w : World) (e : Ending) (w' : World) : Prop :=
  Below w.heap.size w w' ∧ ((∃ xs a cap vs, treesL d t = some xs ∧ e = .returned (.tuple #[.slice a xs.length cap, .nilIface]) ∧ GTo w.heap.size w' (.slice a xs.length cap) xs vs) ∨ (treesL d t = none ∧ ∃ why, e = .returned (.tuple #[.slice none 0 0, faultV why])))

set_option maxRecDepth 100000 in
set_option maxHeartbeats 4000000 in
theorem treesInRow_own (d : Nat) (S : Nat → Prop) (t : Tr (d + 1)) (v : Value) (w : World) (hv : ValAt S w (d + 1) t v) (hS : Within S w) :
    Calls Tryz.prog 54 #[v] w (TreesOQ d t w) := by
  obtain ⟨k, n, s, ak, lk, ck, al, ll, cl, rfl⟩ := hv.shape
  have hA := below_alloc1 w (.cells #[.int .i64 k, .int .i64 n, .string s, .slice ak lk ck, .slice al ll cl] 29)
  have hAs := hA.size
  go_enter Tryz.func54, Tryz.ntmps54
  go_wp2_with fail
  refine (given_own d S t _ _ (hv.same (hS.same hA)) (hS.later hA.size)).mono ?_
  rintro e w1 ⟨hb1, hq⟩
  have hB := below_trans hA hb1
  clear hb1 hA hv
  rcases hq with ⟨hok, u, rfl, hu, htop⟩ | ⟨hok, why, rfl⟩
  · rcases hu with ⟨k', h1, rfl, rfl⟩ | ⟨n', h1, rfl, rfl⟩ | ⟨s', h1, rfl, rfl⟩ | ⟨xs, sv, h1, rfl, rfl, hr⟩ | ⟨keys, xs, ps, r, es, h1, h2, h3, h4, rfl, rfl, hr, hm, he⟩
    · have a3 := Tryz.asR_B
      have hq : Hid (treesL d (Nd.mk k' 0 ByteArray.empty [] [] : Nd (Tr d)) = none) := by
        refine (treesL_ok hok).trans ?_
        show (if k' = 5 then _ else _) = _
        rw [if_neg (by omega)]
      have HB := hide hB
      clear hB htop
      go_wp2_with fail
      go_ret2
      exact ⟨below_trans HB.out (below_alloc1 _ _), Or.inr ⟨hq.out, _, rfl⟩⟩
    · have a3 := Tryz.asR_N
      have hq : Hid (treesL d (Nd.mk 3 n' ByteArray.empty [] [] : Nd (Tr d)) = none) := by
        exact (treesL_ok hok).trans rfl
      have HB := hide hB
      clear hB htop
      go_wp2_with fail
      go_ret2
      exact ⟨below_trans HB.out (below_alloc1 _ _), Or.inr ⟨hq.out, _, rfl⟩⟩
    · have a3 := Tryz.asR_S
      have hq : Hid (treesL d (Nd.mk 4 0 s' [] [] : Nd (Tr d)) = none) := by
        exact (treesL_ok hok).trans rfl
      have HB := hide hB
      clear hB htop
      go_wp2_with fail
      go_ret2
      exact ⟨below_trans HB.out (below_alloc1 _ _), Or.inr ⟨hq.out, _, rfl⟩⟩
    · have a3 := Tryz.asR_R
      obtain ⟨sa, sc, rfl, _⟩ := hr.open'
      have hq : Hid (treesL d (Nd.mk 5 0 ByteArray.empty [] xs : Nd (Tr d)) = some xs) := by
        exact (treesL_ok hok).trans rfl
      have hA2 := below_alloc1 w1 (.cells #[.slice sa xs.length sc] 83)
      have HB2 := hide (below_trans hB hA2)
      have hsz := hA2.size
      have HR : Hid (∃ vs, GTo w.heap.size (w1.alloc (.cells #[.slice sa xs.length sc] 83)) (.slice sa xs.length sc) xs vs) := by
        obtain ⟨sv', vs, he, hto⟩ := htop.1 rfl
        cases he
        exact ⟨vs, (gto_of (hto.moved hA2 (by omega)) (okT_row hok))⟩
      clear hB hA2 hr htop
      go_wp2_with fail
      go_ret2
      obtain ⟨vs, hvs⟩ := HR.out
      exact ⟨HB2.out, Or.inl ⟨xs, sa, sc, vs, hq.out, rfl, hvs⟩⟩
    · have a3 := Tryz.asR_M
      have hq : Hid (treesL d (Nd.mk 6 0 ByteArray.empty keys xs : Nd (Tr d)) = none) := by
        exact (treesL_ok hok).trans rfl
      have HB := hide hB
      clear hB htop he hm hr h4 h3 h2
      go_wp2_with fail
      go_ret2
      exact ⟨below_trans HB.out (below_alloc1 _ _), Or.inr ⟨hq.out, _, rfl⟩⟩
  · unfold faultV
    go_wp2_with fail
    go_ret2
    refine ⟨hB, Or.inr ⟨?_, why, rfl⟩⟩
    rw [treesL, if_neg (by rw [hok]; simp)]

end Go.Proofs.YtmkoeomkbbmoaaaGreatDoor

/- Rows of trees: what is told of the trees of a row. -/
namespace Go.Proofs.YtmkoeomkbbmoaaaGreatDoor
open Go.RowKit Go.Deep

/-- What is told of a row, f being what is told of its trees. -/
def rowTell {d e : Nat} (f : List (Tr d) → Option (Tr (e + 1))) (t : Tr (d + 1)) : Tr (e + 1) × Bool :=
  match treesL d t with
  | none => (zeroT e, false)
  | some xs =>
    match f xs with
    | none => (zeroT e, false)
    | some x => (toldT e x, okT (e + 1) x)
theorem okT_rowTell {d e : Nat} (f : List (Tr d) → Option (Tr (e + 1))) (t : Tr (d + 1)) : okT (e + 1) (rowTell f t).1 = true := by
  unfold rowTell
  split
  · exact okT_zero _
  · split
    · exact okT_zero _
    · exact okT_told _ _
theorem rowTell_none {d e : Nat} {f : List (Tr d) → Option (Tr (e + 1))} {t : Tr (d + 1)} (h : treesL d t = none) : rowTell f t = (zeroT e, false) := by
  unfold rowTell
  rw [h]
theorem rowTell_fault {d e : Nat} {f : List (Tr d) → Option (Tr (e + 1))} {t : Tr (d + 1)} {xs : List (Tr d)} (h : treesL d t = some xs) (hf : f xs = none) : rowTell f t = (zeroT e, false) := by
  unfold rowTell
  rw [h]
  show (match f xs with | none => _ | some x => _) = _
  rw [hf]
theorem rowTell_some {d e : Nat} {f : List (Tr d) → Option (Tr (e + 1))} {t : Tr (d + 1)} {xs : List (Tr d)} {x : Tr (e + 1)} (h : treesL d t = some xs) (hf : f xs = some x) : rowTell f t = (toldT e x, okT (e + 1) x) := by
  unfold rowTell
  rw [h]
  show (match f xs with | none => _ | some x => _) = _
  rw [hf]
/-- Rows of trees that are ok are small. -/
theorem nodes_row {d : Nat} {xs : List (Tr d)} (hxs : ∀ x ∈ xs, okT d x = true) (hl : xs.length ≤ 10000) : (nodes (d + 1) (rowT d xs) : Int) ≤ 4194304 := by
  have h1 : (xs.map (nodes d)).sum ≤ 300 * xs.length := sum_le_of (fun x hx => nodes_ok (hxs x hx))
  have h2 : nodes (d + 1) (rowT d xs) = 1 + (xs.map (nodes d)).sum := rfl
  rw [h2]
  omega
/-- What a function that tells of the trees of a row is asked to give. -/
def TellF (e N : Nat) (r : Option (Tr (e + 1))) (w : World) (en : Ending) (w' : World) : Prop :=
  Below N w w' ∧ ((∃ x u, r = some x ∧ en = .returned (.tuple #[u, .nilIface]) ∧ TreeG (fun b => N ≤ b ∧ b < w'.heap.size) w' (e + 1) x u) ∨ (r = none ∧ ∃ why, en = .returned (.tuple #[.nilIface, faultV why])))

end Go.Proofs.YtmkoeomkbbmoaaaGreatDoor

/- l2Told of the model: a tree in new memory, if it is right. -/
namespace Go.Proofs.YtmkoeomkbbmoaaaGreatDoor
open Go.RowKit Go.Deep

set_option maxRecDepth 100000 in
set_option maxHeartbeats 4000000 in
theorem l2Told_any (d : Nat) (S : Nat → Prop) (t : Tr (d + 1)) (v : Value) (w : World) (hv : ValAt S w (d + 1) t v) (hS : Within S w) (hsm : (nodes (d + 1) t : Int) ≤ 4194304) :
    Calls Tryz.prog 24 #[v] w (SpecQ d (toldT d t) (okT (d + 1) t) w) := by
  have hv0 := hv
  obtain ⟨k, n, s, ak, lk, ck, al, ll, cl, rfl⟩ := hv.shape
  obtain ⟨W0, hW⟩ : ∃ W0, W0 = (w.alloc (.cells #[.int .i64 k, .int .i64 n, .string s, .slice ak lk ck, .slice al ll cl] 29)).alloc (.cells #[.int .i64 0, .int .i64 0, .string { data := #[] }, .slice none 0 0, .slice none 0 0] 29) := ⟨_, rfl⟩
  have hW0 : Below w.heap.size w W0 := by rw [hW]; exact below_trans (below_alloc1 _ _) (below_alloc1 _ _)
  have k0 : Blk5 W0 w.heap.size 29 (.int .i64 k) (.int .i64 n) (.string s) (.slice ak lk ck) (.slice al ll cl) := by
    rw [hW]; exact (Blk5.new w 29 _ _ _ _ _).alloc _
  have k1 : Blk5 W0 (w.heap.size + 1) 29 (.int .i64 0) (.int .i64 0) (.string { data := #[] }) (.slice none 0 0) (.slice none 0 0) := by
    have := Blk5.new (w.alloc (.cells #[.int .i64 k, .int .i64 n, .string s, .slice ak lk ck, .slice al ll cl] 29)) 29 (.int .i64 0) (.int .i64 0) (.string { data := #[] }) (.slice none 0 0) (.slice none 0 0)
    rw [World.size_alloc] at this
    rw [hW]
    exact this
  have HW := hide hW
  clear hW hv
  go_enter Tryz.func24, Tryz.ntmps24
  go_wp2_with fail
  rw [← HW.out]
  clear HW
  refine (specValOk_any (d + 1) S t _ W0 (hv0.same (hS.same hW0)) (hS.later hW0.size) hsm).mono ?_
  rintro e w1 ⟨rfl, hb1⟩
  replace k0 := k0.below hb1
  replace k1 := k1.below hb1
  have hB1 := below_trans hW0 hb1
  obtain ⟨x0, x1, x2, x3, x4⟩ := k0.cell
  have hlt := k1.lt
  clear hb1 hW0
  cases hf : okT (d + 1) t with
  | false =>
    have hz : Hid (toldT d t = zeroT d) := by
      show toldT d t = _
      rw [toldT, hf]
      rfl
    have hno : Hid (∀ wF, wF = set5 w1 (w.heap.size + 1) 0 (.int .i64 0) (.int .i64 0) (.string { data := #[] }) (.slice none 0 0) (.slice none 0 0) → Below w.heap.size w wF) := by
      intro wF hF
      rw [hF]
      exact below_set5 hB1 (by omega) _ _ _ _ _ _
    obtain ⟨y0, y1, y2, y3, y4⟩ := k1.cell
    have yf := k1.frozen
    clear k0 k1 hB1 hv0
    go_wp2_with fail
    rw [hz.out, hf]
    refine bodyPost_ret (v := .tuple #[zeroVal, .bool false]) (by simp [results, Tryz.results24, go_sem, zeroVal, y0, y1, y2, y3, y4]; rfl) rfl ⟨_, rfl, zeroAt d _ _, hno.out _ rfl⟩
  | true =>
    have hz : Hid (toldT d t = t) := by
      show toldT d t = _
      rw [toldT, hf]
      rfl
    have hwt := wtT_ok hf
    go_wp2_with fail
    refine (l1Copy_any (d + 1) S t _ w1 (hv0.same (hS.same hB1)) (hS.later hB1.size) (by omega)).mono ?_
    rintro e w3 ⟨u, rfl, hu3, hb3⟩
    obtain ⟨u0, u1, u2, u3, u4, u5, u6, u7, u8, rfl⟩ := (ValOwn.at _ _ _ _ hu3).shape
    have HF := hide (tell_end hu3 (below_trans hB1 hb3) (by omega) hlt)
    have k3 := k1.below hb3
    clear hu3 hb3 k1 k0 hv0 x0 x1 x2 x3 x4
    obtain ⟨y0, y1, y2, y3, y4⟩ := k3.cell
    have yf := k3.frozen
    clear k3
    go_wp2_with fail
    rw [hz.out, hf]
    refine bodyPost_ret (v := .tuple #[.agg #[.int .i64 u0, .int .i64 u1, .string u2, .slice u3 u4 u5, .slice u6 u7 u8], .bool true]) (by simp [results, Tryz.results24, go_sem, y0, y1, y2, y3, y4]) rfl ⟨_, rfl, ValOwn.at _ _ _ _ (HF.out _ rfl).1, (HF.out _ rfl).2⟩
end Go.Proofs.YtmkoeomkbbmoaaaGreatDoor

/- append of trees onto a row of nothing. -/
namespace Go.Proofs.YtmkoeomkbbmoaaaGreatDoor
open Go.RowKit Go.Deep

/-- An append, as one step of a region in its order. -/
theorem wpList_append_run {P : Program} {ops : Array Oper} {rest : List Oper} {o : Oper} {a : Act} {w : World} {Q : Exit → Act → World → Prop} (Φ : Value → World → Prop) (hgd : o.guard = none) (s x : Operand) (t : TypeId)
    (ho : o.op = .call { callee := .builtin .append, args := #[s, x], argTypes := #[t, t] }) (vs vx : Value) (hs : a.eval s = vs) (hx : a.eval x = vx)
    (hrun : ∃ v' w', (Builtin.append_ #[t, t] o.type #[vs, vx]).run P w = .ok v' w' ∧ Φ v' w') (h : ∀ v' w', Φ v' w' → wpList P ops Q rest (a.put o.dst v') w') :
    wpList P ops Q (o :: rest) a w := by
  refine wpList_plain hgd fun K hK => ?_
  obtain ⟨v', w', hr, h2⟩ := hrun
  unfold Oper.wp execOp
  simp only [ho, resolve, invoke, builtin, Sem.run_bind, Sem.run_pure, Result.andThen_ok, List.map_toArray, List.map_cons, List.map_nil, hs, hx, hr]
  exact hK _ _ (h v' w' h2)

theorem Tryz.infoV2 : (Tryz.prog.info? 29).map (fun i => (i.zero, i.size, i.bytes)) = some (some zeroVal, 5, 80) := by kernel_rfl

/-- Trees, copied behind nothing: the cells alone. -/
theorem run_append_vals {d : Nat} (S : Nat → Prop) (xs : List (Tr d)) (al : Option Addr) (cl g : Nat) (ty : TypeId) (w : World) (hg : w.heap[g]? = some (.cells #[] 29 (0, 0))) (hv : RowAt S w (ValAt S w d) (.slice al xs.length cl) xs) (hSg : ¬ S g) (hS : Within S w) (hsm : xs.length ≤ 4194304) :
    ∃ v' w', (Builtin.append_ #[27, 27] ty #[.slice (some ⟨g, 0, none⟩) 0 0, .slice al xs.length cl]).run Tryz.prog w = .ok v' w' ∧
      ((∃ vs, VTo S g w' v' xs vs) ∧ w.grownBy w' (some g) ∧ ∃ a c, v' = .slice a xs.length c) := by
  obtain ⟨i0, hi, hz0, hz1, hz2⟩ := info_parts Tryz.infoV2
  have hgl := (Array.getElem?_eq_some_iff.1 hg).1
  have hu : Tryz.prog.underlying 27 = some (.slice 29) := Tryz.underlying27
  have hown : w.ownsRow g 29 5 (.slice (some ⟨g, 0, none⟩) 0 0) 0 [] := ⟨by simp, .inr ⟨g, 0, #[], rfl, Nat.le_refl _, hg, Nat.le_refl _, Nat.zero_le _, by simp, by simp⟩⟩
  by_cases h0 : xs = []
  · subst h0
    refine ⟨.slice (some ⟨g, 0, none⟩) 0 0, w, ?_, ⟨[], hown, fun j x h => by simp at h⟩, ⟨rfl, rfl, rfl, Nat.le_refl _, fun _ _ _ => rfl⟩, _, _, rfl⟩
    cases al with
    | none => simp [Builtin.append_, run_underlying hu, sizeOf, typeInfo, hi, Builtin.lenOf, Builtin.firstCells, loadCells, loadCellsFrom, storeCells, Result.andThen, hz1]
    | some a => simp [Builtin.append_, run_underlying hu, sizeOf, typeInfo, hi, Builtin.lenOf, Builtin.firstCells, loadCells, loadCellsFrom, storeCells, Result.andThen, hz1]
  · have hpos : 0 < xs.length := List.length_pos_iff.2 h0
    obtain ⟨b, o, _, _, _, _, _, _, rfl, hbS, _⟩ := hv.cell hpos
    have hcell : ∀ i x, xs[i]? = some x → ∃ c0 c1 c2 c3 c4, w.cell? ⟨b, o + i * 5, none⟩ = some c0 ∧ w.cell? ⟨b, o + i * 5 + 1, none⟩ = some c1 ∧ w.cell? ⟨b, o + i * 5 + 2, none⟩ = some c2 ∧ w.cell? ⟨b, o + i * 5 + 3, none⟩ = some c3 ∧ w.cell? ⟨b, o + i * 5 + 4, none⟩ = some c4 ∧ ValAt S w d x (.agg #[c0, c1, c2, c3, c4]) := by
      intro i x hx
      obtain ⟨b', o', x', c0, c1, c2, c3, c4, e', _, hx', e0, e1, e2, e3, e4, hval⟩ := hv.cell (List.getElem?_eq_some_iff.1 hx).1
      cases e'
      rw [hx] at hx'
      cases hx'
      exact ⟨c0, c1, c2, c3, c4, e0, e1, e2, e3, e4, hval⟩
    obtain ⟨news, hnl, hnews⟩ : ∃ news : List Value, news.length = xs.length * 5 ∧ ∀ j, j < xs.length * 5 → ∃ u, news[j]? = some u ∧ w.cell? ⟨b, o + j, none⟩ = some u := by
      refine ⟨(List.range (xs.length * 5)).map (fun j => (w.cell? ⟨b, o + j, none⟩).getD undef), by simp, fun j hj => ?_⟩
      have hq : j / 5 < xs.length := by omega
      obtain ⟨c0, c1, c2, c3, c4, e0, e1, e2, e3, e4, _⟩ := hcell (j / 5) _ (List.getElem?_eq_getElem hq)
      have hex : ∃ u, w.cell? ⟨b, o + j, none⟩ = some u := by
        rcases (by omega : j = j / 5 * 5 ∨ j = j / 5 * 5 + 1 ∨ j = j / 5 * 5 + 2 ∨ j = j / 5 * 5 + 3 ∨ j = j / 5 * 5 + 4) with e | e | e | e | e
        · exact ⟨c0, by rw [e]; exact e0⟩
        · exact ⟨c1, by rw [e, ← Nat.add_assoc]; exact e1⟩
        · exact ⟨c2, by rw [e, ← Nat.add_assoc]; exact e2⟩
        · exact ⟨c3, by rw [e, ← Nat.add_assoc]; exact e3⟩
        · exact ⟨c4, by rw [e, ← Nat.add_assoc]; exact e4⟩
      obtain ⟨u, hu⟩ := hex
      exact ⟨u, by simp [hj, hu], hu⟩
    have hone : ∀ u ∈ news, u.oneCell' = true := by
      intro u hu
      obtain ⟨j, hj⟩ := List.getElem?_of_mem hu
      have hjl := (List.getElem?_eq_some_iff.1 hj).1
      obtain ⟨u', hu', hc⟩ := hnews j (by omega)
      rw [hj] at hu'
      cases hu'
      have hq : j / 5 < xs.length := by omega
      obtain ⟨c0, c1, c2, c3, c4, e0, e1, e2, e3, e4, hval⟩ := hcell (j / 5) _ (List.getElem?_eq_getElem hq)
      obtain ⟨q0, q1, q2, q3, q4, q5, q6, q7, q8, hq⟩ := hval.shape
      cases hq
      rcases (by omega : j = j / 5 * 5 ∨ j = j / 5 * 5 + 1 ∨ j = j / 5 * 5 + 2 ∨ j = j / 5 * 5 + 3 ∨ j = j / 5 * 5 + 4) with e | e | e | e | e
      · rw [e, e0] at hc; cases hc; rfl
      · rw [e, ← Nat.add_assoc, e1] at hc; cases hc; rfl
      · rw [e, ← Nat.add_assoc, e2] at hc; cases hc; rfl
      · rw [e, ← Nat.add_assoc, e3] at hc; cases hc; rfl
      · rw [e, ← Nat.add_assoc, e4] at hc; cases hc; rfl
    have hadd : ∀ j, (⟨b, o, none⟩ : Addr).add j = ⟨b, o + j, none⟩ := fun j => by unfold Addr.add; split <;> simp_all
    obtain ⟨v', w', hr, ho, hgr, _, hat⟩ := run_append_own_at (P := Tryz.prog) w g 27 ty 29 i0 zeroVal 5 80 hu hi hz0 hz1 hz2 rfl (by decide) _ 0 [] hown ⟨b, o, none⟩ xs.length cl news hnl
      (fun j u hj => by rw [hadd]; obtain ⟨u', h1, h2⟩ := hnews j (by have := (List.getElem?_eq_some_iff.1 hj).1; omega); rw [hj] at h1; cases h1; exact h2) hone (by unfold maxLen; omega) (by omega) (by omega)
    rw [Nat.zero_add, List.nil_append] at ho
    have hsh : ∃ a c, v' = .slice a xs.length c := by
      rcases ho.2 with ⟨_, h⟩ | ⟨g', c', cur, e, _⟩
      · omega
      · exact ⟨_, _, e⟩
    have hsame : Same S w w' := fun c hc => hgr.block c (hS c hc) (fun e => by cases e; exact hSg hc)
    refine ⟨v', w', hr, ⟨news, ho, fun j x hx => ?_⟩, hgr, hsh⟩
    obtain ⟨c0, c1, c2, c3, c4, e0, e1, e2, e3, e4, hval⟩ := hcell j x hx
    have hjl := (List.getElem?_eq_some_iff.1 hx).1
    have hn : ∀ m c, m < xs.length * 5 → w.cell? ⟨b, o + m, none⟩ = some c → news[m]? = some c := fun m c hm hc => by
      obtain ⟨u, h1, h2⟩ := hnews m hm
      rw [hc] at h2
      cases h2
      exact h1
    exact ⟨c0, c1, c2, c3, c4, hn _ _ (by omega) e0, hn _ _ (by omega) (by rw [← Nat.add_assoc]; exact e1), hn _ _ (by omega) (by rw [← Nat.add_assoc]; exact e2), hn _ _ (by omega) (by rw [← Nat.add_assoc]; exact e3), hn _ _ (by omega) (by rw [← Nat.add_assoc]; exact e4), hval.same hsame⟩
end Go.Proofs.YtmkoeomkbbmoaaaGreatDoor

/- Rows of the model: l4Row, l4Of. -/
namespace Go.Proofs.YtmkoeomkbbmoaaaGreatDoor
open Go.RowKit Go.Deep

theorem treesL_isSome {d : Nat} (t : Tr (d + 1)) : (treesL d t).isSome = (okT (d + 1) t && (Nd.kind t == 5)) := by
  unfold treesL
  cases okT (d + 1) t with
  | false => rfl
  | true =>
    rw [if_pos rfl]
    by_cases h : Nd.kind t = 5
    · rw [if_pos h]; simp [h]
    · rw [if_neg h]; simp [h]

set_option maxRecDepth 100000 in
set_option maxHeartbeats 1000000 in
theorem l4Row_any (d : Nat) (S : Nat → Prop) (t : Tr (d + 1)) (v : Value) (w : World) (hv : ValAt S w (d + 1) t v) (hS : Within S w) (hsm : (nodes (d + 1) t : Int) ≤ 4194304) :
    Calls Tryz.prog 37 #[v] w fun e w' => e = .returned (.bool (treesL d t).isSome) ∧ Below w.heap.size w w' := by
  rw [treesL_isSome]
  have hv0 := hv
  obtain ⟨vk, vl, rfl, i1, i2, i3, hk, hl⟩ := hv
  obtain ⟨ak, ck, rfl, hkl⟩ := hk.open'
  obtain ⟨al, cl, rfl, hll⟩ := hl.open'
  have hA := below_alloc1 w (.cells #[.int .i64 t.kind, .int .i64 t.num, .string t.str, .slice ak t.keys.length ck, .slice al t.list.length cl] 29)
  have k0 := Blk5.new w 29 (.int .i64 t.kind) (.int .i64 t.num) (.string t.str) (.slice ak t.keys.length ck) (.slice al t.list.length cl)
  go_enter Tryz.func37, Tryz.ntmps37
  go_wp2_with fail
  refine (specValOk_any (d + 1) S t _ _ (hv0.same (hS.same hA)) (hS.later hA.size) hsm).mono ?_
  rintro e w1 ⟨rfl, hb1⟩
  replace k0 := k0.below hb1
  have HB := hide (below_trans hA hb1)
  obtain ⟨x0, x1, x2, x3, x4⟩ := k0.cell
  clear hb1 hA hv0 hk hl k0
  cases hf : okT (d + 1) t with
  | false =>
    go_wp2_with fail
    go_ret
    exact ⟨by rw [hf]; rfl, HB.out⟩
  | true =>
    go_wp2_with fail
    go_ret
    exact ⟨by rw [hf]; rfl, HB.out⟩

theorem l4Of_any (a : Option Addr) (n c : Nat) (w : World) : Calls Tryz.prog 38 #[.slice a n c] w fun e w' => e = .returned (.agg #[.int .i64 5, .int .i64 0, .string ByteArray.empty, .slice none 0 0, .slice a n c]) ∧ Below w.heap.size w w' := by
  go_enter Tryz.func38, Tryz.ntmps38
  go_wp2_with fail
  exact bodyPost_ret (v := .agg #[.int .i64 5, .int .i64 0, .string ByteArray.empty, .slice none 0 0, .slice a n c]) (by simp [results, Tryz.results38, go_sem]; rfl) rfl ⟨rfl, below_alloc1 _ _⟩

/-- A row of the model's, made out of trees that lie elsewhere, as a tree. -/
theorem rowV_at {d N : Nat} {S : Nat → Prop} {w w' : World} {lv : Value} {xs : List (Tr d)} {vs : List Value} (h : VTo S N w lv xs vs) (hl : xs.length ≤ 100000) (hb : Below w.heap.size w w') (hS : Within S w) :
    ValAt (fun b => S b ∨ (N ≤ b ∧ b < w'.heap.size)) w' (d + 1) (rowT d xs) (.agg #[.int .i64 5, .int .i64 0, .string ByteArray.empty, .slice none 0 0, lv]) := by
  have hz := hb.size
  have hrow := h.at (by omega)
  have hmv : Same (fun b => S b ∨ (N ≤ b ∧ b < w.heap.size)) w w' := fun b hb' => hb.block b (by rcases hb' with h | h; exact hS b h; exact h.2)
  have hin : ∀ b, (S b ∨ (N ≤ b ∧ b < w.heap.size)) → (S b ∨ (N ≤ b ∧ b < w'.heap.size)) := fun b hb' => by
    rcases hb' with h | h
    · exact Or.inl h
    · exact Or.inr ⟨h.1, by omega⟩
  exact ⟨_, _, rfl, ⟨by show _ ≤ (5 : Int); omega, by show (5 : Int) ≤ _; omega⟩, ⟨by show _ ≤ (0 : Int); omega, by show (0 : Int) ≤ _; omega⟩, by show (0 : Nat) < _; omega, ⟨by show (0 : Nat) < _; omega, (fun s hs => by cases hs), none, 0, rfl, Or.inl rfl⟩, hrow.moved hmv hin (fun y u hy => ValAt.moved hmv hin _ y u hy)⟩
/-- A row's value is a slice of just so many. -/
theorem VTo.slice {d N : Nat} {S : Nat → Prop} {w : World} {lv : Value} {xs : List (Tr d)} {vs : List Value} (h : VTo S N w lv xs vs) : ∃ a c, lv = .slice a xs.length c := by
  rcases h.1.2 with ⟨rfl, h0⟩ | ⟨g, cap, cur, rfl, _⟩
  · exact ⟨none, 0, by rw [h0]⟩
  · exact ⟨_, _, rfl⟩
/-- A row of nothing, as it is made. -/
theorem VTo.start {d : Nat} (S : Nat → Prop) (w : World) : VTo (d := d) S w.heap.size (w.alloc (.cells #[] 29)) (.slice (some ⟨w.heap.size, 0, none⟩) 0 0) [] [] :=
  ⟨⟨rfl, Or.inr ⟨w.heap.size, 0, #[], rfl, Nat.le_refl _, heap_alloc_new w _, Nat.le_refl _, Nat.zero_le _, rfl, rfl⟩⟩, fun j x h => by simp at h⟩
/-- One tree more, from elsewhere. -/
theorem VTo.push {d N : Nat} {S : Nat → Prop} {w1 wr w2 : World} {lv lv' : Value} {xs : List (Tr d)} {vs : List Value} {x : Tr d} {v0 v1 v2 v3 v4 : Value} {o : Obj} (h : VTo S N wr lv xs vs) (hS : ∀ b, S b → b < N) (hN : N ≤ wr.heap.size) (hb : Below N w1 wr) (hx : ValAt S wr d x (.agg #[v0, v1, v2, v3, v4]))
    (hown : w2.ownsRow N 29 5 lv' (xs.length + 1) (vs ++ [v0, v1, v2, v3, v4])) (hg : (wr.alloc o).grownBy w2 lv.ownBlock) : VTo S N w2 lv' (xs ++ [x]) (vs ++ [v0, v1, v2, v3, v4]) ∧ Below N w1 w2 ∧ N ≤ w2.heap.size := by
  have hz : (wr.alloc o).heap.size = wr.heap.size + 1 := by simp
  have hs2 := hg.size
  have hrow : ∀ g, lv.ownBlock = some g → N ≤ g := fun g hg' => (h.1.lt g hg').1
  have hblk : ∀ b, b < N → w2.heap[b]? = wr.heap[b]? := fun b hb' => (hg.block b (by omega) (fun e => by have := hrow b e.symm; omega)).trans (Below.heap_alloc _ _ _ (by omega))
  refine ⟨h.grow (fun b hb' => hblk b (hS b hb')) hx hown, ⟨hg.os.trans hb.os, hg.tape.trans hb.tape, hg.output.trans hb.output, ?_, fun b hb' => (hblk b hb').trans (hb.block b hb')⟩, by omega⟩
  have := hb.size
  omega
end Go.Proofs.YtmkoeomkbbmoaaaGreatDoor

/- A tree as one that may be one deeper. -/
namespace Go.Proofs.YtmkoeomkbbmoaaaGreatDoor
open Go.RowKit Go.Deep

/-- The same tree, as one that may be one deeper. -/
def up : (d : Nat) → Tr d → Tr (d + 1)
  | 0, t => Empty.elim t
  | d + 1, t => (Nd.mk (Nd.kind t) (Nd.num t) (Nd.str t) (Nd.keys t) ((Nd.list t).map (up d)) : Nd (Tr (d + 1)))

theorem all_up {d : Nat} {list : List (Tr d)} {deep : Int} (h : ∀ x, formT (d + 1) (up d x) deep = formT d x deep) : (list.map (up d)).all (fun x => formT (d + 1) x deep) = list.all (fun x => formT d x deep) := by
  rw [List.all_map]
  congr 1
  funext x
  exact h x
theorem formT_lift : ∀ (d : Nat) (t : Tr d) (deep : Int), formT (d + 1) (up d t) deep = formT d t deep
  | 0, t, _ => Empty.elim t
  | d + 1, t, deep => by
    obtain ⟨kind, num, str, keys, list⟩ := t
    have ha := all_up (list := list) (fun x => formT_lift d x (deep - 1))
    have hl : (list.map (up d)).length = list.length := List.length_map ..
    show formT (d + 2) (Nd.mk kind num str keys (list.map (up d)) : Nd (Tr (d + 1))) deep = _
    cases hb : headBad kind num str keys.length list.length deep with
    | true => rw [formT_bad hb, formT_bad (by rw [hl]; exact hb)]
    | false => rw [formT_good hb, formT_good (by rw [hl]; exact hb), hl, ha]
theorem manyT_lift : ∀ (d : Nat) (t : Tr d) (deep : Int), manyT (d + 1) (up d t) deep = manyT d t deep
  | 0, t, _ => Empty.elim t
  | d + 1, t, deep => by
    obtain ⟨kind, num, str, keys, list⟩ := t
    show 1 + (if 0 < deep then ((list.map (up d)).map (fun x => manyT (d + 1) x (deep - 1))).sum else 0) = 1 + (if 0 < deep then (list.map (fun x => manyT d x (deep - 1))).sum else 0)
    rw [List.map_map]
    have h := sum_map_eq (f := (fun x => manyT (d + 1) x (deep - 1)) ∘ up d) (g := fun x => manyT d x (deep - 1)) list (fun x _ => manyT_lift d x (deep - 1))
    rw [h]
theorem okT_lift (d : Nat) (t : Tr d) : okT (d + 1) (up d t) = okT d t := by
  unfold okT
  rw [formT_lift, manyT_lift]
theorem up_zero (d : Nat) : up (d + 1) (zeroT d) = zeroT (d + 1) := rfl

theorem RowAt.up {α β : Type} {S : Nat → Prop} {w : World} {At : α → Value → Prop} {At' : β → Value → Prop} {v : Value} {xs : List α} (f : α → β) (h : RowAt S w At v xs) (hi : ∀ x u, At x u → At' (f x) u) : RowAt S w At' v (xs.map f) := by
  obtain ⟨h1, a, cap, hv, h3⟩ := h
  refine ⟨by rw [List.length_map]; exact h1, a, cap, by rw [List.length_map]; exact hv, ?_⟩
  rcases h3 with h3 | ⟨b, o, hB, ha, hc⟩
  · exact Or.inl (by rw [h3]; rfl)
  · refine Or.inr ⟨b, o, hB, ha, fun i x hx => ?_⟩
    rw [List.getElem?_map] at hx
    obtain ⟨y, hy, rfl⟩ := Option.map_eq_some_iff.1 hx
    obtain ⟨c0, c1, c2, c3, c4, e0, e1, e2, e3, e4, e5⟩ := hc i y hy
    exact ⟨c0, c1, c2, c3, c4, e0, e1, e2, e3, e4, hi _ _ e5⟩
theorem ValAt.up {S : Nat → Prop} {w : World} : ∀ (d : Nat) (t : Tr d) (v : Value), ValAt S w d t v → ValAt S w (d + 1) (up d t) v
  | 0, _, _, h => h.elim
  | d + 1, t, v, h => by
    obtain ⟨vk, vl, hv, i1, i2, i3, hk, hl⟩ := h
    exact ⟨vk, vl, hv, i1, i2, i3, hk, hl.up (At' := ValAt S w (d + 1)) _ (fun x u hx => ValAt.up d x u hx)⟩
theorem RowOwn.up {α β : Type} {w : World} {At : (Nat → Prop) → α → Value → Prop} {At' : (Nat → Prop) → β → Value → Prop} {S : Nat → Prop} {v : Value} {xs : List α} (f : α → β) (h : RowOwn w At S v xs) (hi : ∀ P x u, At P x u → At' P (f x) u) : RowOwn w At' S v (xs.map f) := by
  obtain ⟨h1, a, cap, hv, h3⟩ := h
  refine ⟨by rw [List.length_map]; exact h1, a, cap, by rw [List.length_map]; exact hv, ?_⟩
  rcases h3 with h3 | ⟨b, n, g, P, hB, ha, hl, hr, hP, hd, hc⟩
  · exact Or.inl (by rw [h3]; rfl)
  · refine Or.inr ⟨b, n, g, P, hB, ha, by rw [List.length_map]; exact hl, hr, hP, hd, fun i x hx => ?_⟩
    rw [List.getElem?_map] at hx
    obtain ⟨y, hy, rfl⟩ := Option.map_eq_some_iff.1 hx
    exact hi _ _ _ (hc i y hy)
theorem ValOwn.up {w : World} : ∀ (d : Nat) (S : Nat → Prop) (t : Tr d) (v : Value), ValOwn w d S t v → ValOwn w (d + 1) S (up d t) v
  | 0, _, _, _, h => h.elim
  | d + 1, S, t, v, h => by
    obtain ⟨vk, vl, Sk, Sl, hv, i1, i2, i3, hk, hl, s1, s2, s3⟩ := h
    exact ⟨vk, vl, Sk, Sl, hv, i1, i2, i3, hk, hl.up (At' := fun P x u => ValOwn w (d + 1) P x u) _ (fun P x u hx => ValOwn.up d P x u hx), s1, s2, s3⟩
end Go.Proofs.YtmkoeomkbbmoaaaGreatDoor

/- RowFlat: the flat row; whole rows appended. -/
namespace Go.Proofs.YtmkoeomkbbmoaaaGreatDoor
open Go.RowKit Go.Deep

/-- What a tree of a row gives to the flat row. -/
def flat1 (d : Nat) (x : Tr (d + 1)) : List (Tr (d + 1)) := if Nd.kind x = 5 then (Nd.list x).map (up d) else [x]
def flatL (d : Nat) (xs : List (Tr (d + 1))) : List (Tr (d + 1)) := xs.flatMap (flat1 d)
def flatF (d : Nat) (xs : List (Tr (d + 1))) : Option (Tr (d + 2)) := some (rowT (d + 1) (flatL d xs))
theorem flat1_row {d : Nat} {x : Tr (d + 1)} (h : Nd.kind x = 5) : flat1 d x = (Nd.list x).map (up d) := if_pos h
theorem flat1_one {d : Nat} {x : Tr (d + 1)} (h : Nd.kind x ≠ 5) : flat1 d x = [x] := if_neg h
theorem flatL_step {d : Nat} {xs : List (Tr (d + 1))} {k : Nat} {x : Tr (d + 1)} (h : xs[k]? = some x) : flatL d (xs.take (k + 1)) = flatL d (xs.take k) ++ flat1 d x := by
  obtain ⟨hk, e⟩ := List.getElem?_eq_some_iff.1 h
  unfold flatL
  rw [List.take_succ_eq_append_getElem hk, List.flatMap_append, e]
  simp
theorem flat1_len {d : Nat} (x : Tr (d + 1)) : (flat1 d x).length ≤ manyT (d + 1) x 5 := by
  have hm : manyT (d + 1) x 5 = 1 + ((Nd.list x).map (fun y => manyT d y (5 - 1))).sum := rfl
  have h1 := len_le_many (d := d) (deep := 5 - 1) (Nd.list x)
  unfold flat1
  split
  · rw [List.length_map]; omega
  · rw [List.length_singleton]; omega
theorem flatL_len {d : Nat} : ∀ (xs : List (Tr (d + 1))), (flatL d xs).length ≤ (xs.map (fun x => manyT (d + 1) x 5)).sum
  | [] => Nat.le_refl _
  | x :: r => by
    have h1 := flat1_len x
    have h2 := flatL_len r
    unfold flatL at h2 ⊢
    rw [List.flatMap_cons, List.length_append, List.map_cons, List.sum_cons]
    omega
theorem flat_len {d : Nat} {t : Tr (d + 2)} (h : okT (d + 2) t = true) : (flatL d (Nd.list t)).length ≤ 60 := by
  have hm := (okT_form h).2
  have hmm : manyT (d + 2) t 6 = 1 + ((Nd.list t).map (fun x => manyT (d + 1) x 5)).sum := rfl
  have := flatL_len (d := d) (Nd.list t)
  omega
theorem flat_take {d : Nat} (xs : List (Tr (d + 1))) (k : Nat) : (flatL d (xs.take k)).length ≤ (flatL d xs).length := by
  have h : flatL d xs = flatL d (xs.take k) ++ flatL d (xs.drop k) := by
    unfold flatL
    rw [← List.flatMap_append, List.take_append_drop]
  rw [h, List.length_append]
  omega
theorem flat_ok {d : Nat} {xs : List (Tr (d + 1))} (h : ∀ x ∈ xs, okT (d + 1) x = true) : ∀ y ∈ flatL d xs, okT (d + 1) y = true := by
  intro y hy
  obtain ⟨x, hx, hy⟩ := List.mem_flatMap.1 hy
  unfold flat1 at hy
  split at hy
  · obtain ⟨z, hz, rfl⟩ := List.mem_map.1 hy
    rw [okT_lift]
    exact okT_part (h x hx) hz
  · rw [List.mem_singleton.1 hy]
    exact h x hx

/-- A tree's kind and list, out of its five cells. -/
theorem ValAt.parts {S : Nat → Prop} {w : World} {d : Nat} {t : Tr (d + 1)} {k n : Int} {s : ByteArray} {ak al : Option Addr} {lk ck ll cl : Nat} (h : ValAt S w (d + 1) t (.agg #[.int .i64 k, .int .i64 n, .string s, .slice ak lk ck, .slice al ll cl])) :
    k = Nd.kind t ∧ ll = (Nd.list t).length ∧ RowAt S w (ValAt S w d) (.slice al ll cl) (Nd.list t) := by
  obtain ⟨vk, vl, hv, i1, i2, i3, hk, hl⟩ := h
  obtain ⟨a, c, rfl, _⟩ := hl.open'
  simp at hv
  obtain ⟨rfl, _, _, _, rfl, rfl, rfl⟩ := hv
  exact ⟨rfl, rfl, hl⟩

/-- Nothing, appended. -/
theorem run_append_none {t e ty : TypeId} {i : TypeInfo} {size : Nat} (hu : Tryz.prog.underlying t = some (.slice e)) (hi : Tryz.prog.info? e = some i) (hz : i.size = size) (w : World) {N n : Nat} {v : Value} {xs : List Value} (h : w.ownsRow N e size v n xs) :
    (Builtin.append_ #[t, t] ty #[v, .slice none 0 0]).run Tryz.prog w = .ok v w := by
  rcases h.2 with ⟨rfl, _⟩ | ⟨g, cap, cur, rfl, _, _, hle, _⟩
  · simp [Builtin.append_, run_underlying hu, sizeOf, typeInfo, hi, Builtin.lenOf, Builtin.firstCells, Result.andThen, hz]
  · simp [Builtin.append_, run_underlying hu, sizeOf, typeInfo, hi, Builtin.lenOf, Builtin.firstCells, loadCells, storeCells, Result.andThen, hz, hle]

/-- Trees of the model's, appended behind others. -/
theorem run_append_onto_vals {d N : Nat} {S : Nat → Prop} {w : World} {lv : Value} {xs : List (Tr d)} {vs : List Value} (h : VTo S N w lv xs vs) (hSN : ∀ b, S b → b < N) (hN : N ≤ w.heap.size) (ys : List (Tr d)) (al : Option Addr) (cl n : Nat) (ty : TypeId) (hn : n = ys.length) (hv : RowAt S w (ValAt S w d) (.slice al n cl) ys) (hsm : xs.length + ys.length ≤ 100000) :
    ∃ v' w', (Builtin.append_ #[27, 27] ty #[lv, .slice al n cl]).run Tryz.prog w = .ok v' w' ∧ ((∃ vs', VTo S N w' v' (xs ++ ys) vs') ∧ w.grownBy w' lv.ownBlock ∧ ∃ a c, v' = .slice a (xs.length + ys.length) c) := by
  subst hn
  obtain ⟨i0, hi, hz0, hz1, hz2⟩ := info_parts Tryz.infoV2
  have hu : Tryz.prog.underlying 27 = some (.slice 29) := Tryz.underlying27
  have hform : ∃ a c, lv = .slice a xs.length c := h.slice
  by_cases h0 : ys = []
  · subst h0
    have hsame : ∃ v' w', (Builtin.append_ #[27, 27] ty #[lv, .slice al 0 cl]).run Tryz.prog w = .ok v' w' ∧ w'.ownsRow N 29 5 v' (xs.length + 0) (vs ++ []) ∧ w.grownBy w' lv.ownBlock := by
      cases al with
      | none =>
        obtain ⟨_, a', c', hv', _⟩ := hv
        cases hv'
        rcases Nat.eq_zero_or_pos cl with rfl | hcl
        · exact ⟨lv, w, run_append_none hu hi hz1 w h.1, by rw [List.append_nil]; exact h.1, ⟨rfl, rfl, rfl, Nat.le_refl _, fun _ _ _ => rfl⟩⟩
        · refine ⟨lv, w, ?_, by rw [List.append_nil]; exact h.1, ⟨rfl, rfl, rfl, Nat.le_refl _, fun _ _ _ => rfl⟩⟩
          rcases h.1.2 with ⟨rfl, _⟩ | ⟨g, cap, cur, rfl, _, _, hle, _⟩
          · simp [Builtin.append_, run_underlying hu, sizeOf, typeInfo, hi, Builtin.lenOf, Builtin.firstCells, Result.andThen, hz1]
          · simp [Builtin.append_, run_underlying hu, sizeOf, typeInfo, hi, Builtin.lenOf, Builtin.firstCells, storeCells, Result.andThen, hz1, hle]
      | some a =>
        obtain ⟨v', w', hr, ho, hgr, _⟩ := run_append_own_at (P := Tryz.prog) w N 27 ty 29 i0 zeroVal 5 80 hu hi hz0 hz1 hz2 rfl (by decide) lv xs.length vs h.1 a 0 cl [] rfl (fun j u hj => by simp at hj) (fun u hu => by simp at hu) (by unfold maxLen; omega) (by omega) hN
        exact ⟨v', w', hr, ho, hgr⟩
    obtain ⟨v', w', hr, ho, hgr⟩ := hsame
    rw [List.append_nil, Nat.add_zero] at ho
    have hs : Same S w w' := fun b hb => hgr.block b (Nat.lt_of_lt_of_le (hSN b hb) hN) (fun e => by have := (h.1.lt b e.symm).1; have := hSN b hb; omega)
    have hto : VTo S N w' v' (xs ++ []) vs := by
      rw [List.append_nil]
      exact ⟨ho, fun j x hx => by obtain ⟨c0, c1, c2, c3, c4, e0, e1, e2, e3, e4, hvx⟩ := h.2 j x hx; exact ⟨c0, c1, c2, c3, c4, e0, e1, e2, e3, e4, hvx.same hs⟩⟩
    obtain ⟨a, c, e⟩ := hto.slice
    rw [List.append_nil] at e
    exact ⟨v', w', hr, ⟨vs, hto⟩, hgr, a, c, e⟩
  · have hpos : 0 < ys.length := List.length_pos_iff.2 h0
    obtain ⟨b, o, _, _, _, _, _, _, rfl, hbS, _⟩ := hv.cell hpos
    have hcell : ∀ i x, ys[i]? = some x → ∃ c0 c1 c2 c3 c4, w.cell? ⟨b, o + i * 5, none⟩ = some c0 ∧ w.cell? ⟨b, o + i * 5 + 1, none⟩ = some c1 ∧ w.cell? ⟨b, o + i * 5 + 2, none⟩ = some c2 ∧ w.cell? ⟨b, o + i * 5 + 3, none⟩ = some c3 ∧ w.cell? ⟨b, o + i * 5 + 4, none⟩ = some c4 ∧ ValAt S w d x (.agg #[c0, c1, c2, c3, c4]) := by
      intro i x hx
      obtain ⟨b', o', x', c0, c1, c2, c3, c4, e', _, hx', e0, e1, e2, e3, e4, hval⟩ := hv.cell (List.getElem?_eq_some_iff.1 hx).1
      cases e'
      rw [hx] at hx'
      cases hx'
      exact ⟨c0, c1, c2, c3, c4, e0, e1, e2, e3, e4, hval⟩
    have hex : ∀ j, j < ys.length * 5 → ∃ u, w.cell? ⟨b, o + j, none⟩ = some u ∧ u.oneCell' = true := by
      intro j hj
      obtain ⟨c0, c1, c2, c3, c4, e0, e1, e2, e3, e4, hval⟩ := hcell (j / 5) _ (List.getElem?_eq_getElem (show j / 5 < ys.length by omega))
      obtain ⟨q0, q1, q2, q3, q4, q5, q6, q7, q8, hq⟩ := hval.shape
      cases hq
      rcases (by omega : j = j / 5 * 5 ∨ j = j / 5 * 5 + 1 ∨ j = j / 5 * 5 + 2 ∨ j = j / 5 * 5 + 3 ∨ j = j / 5 * 5 + 4) with e | e | e | e | e
      · exact ⟨_, by rw [e]; exact e0, rfl⟩
      · exact ⟨_, by rw [e, ← Nat.add_assoc]; exact e1, rfl⟩
      · exact ⟨_, by rw [e, ← Nat.add_assoc]; exact e2, rfl⟩
      · exact ⟨_, by rw [e, ← Nat.add_assoc]; exact e3, rfl⟩
      · exact ⟨_, by rw [e, ← Nat.add_assoc]; exact e4, rfl⟩
    obtain ⟨news, hnl, hnews⟩ : ∃ news : List Value, news.length = ys.length * 5 ∧ ∀ j, j < ys.length * 5 → ∃ u, news[j]? = some u ∧ w.cell? ⟨b, o + j, none⟩ = some u ∧ u.oneCell' = true := by
      refine ⟨(List.range (ys.length * 5)).map (fun j => (w.cell? ⟨b, o + j, none⟩).getD undef), by simp, fun j hj => ?_⟩
      obtain ⟨u, hu, h1⟩ := hex j hj
      exact ⟨u, by simp [hj, hu], hu, h1⟩
    have hone : ∀ u ∈ news, u.oneCell' = true := by
      intro u hu
      obtain ⟨j, hj⟩ := List.getElem?_of_mem hu
      have hjl := (List.getElem?_eq_some_iff.1 hj).1
      obtain ⟨u', hu', _, h1⟩ := hnews j (by omega)
      rw [hj] at hu'
      cases hu'
      exact h1
    have hadd : ∀ j, (⟨b, o, none⟩ : Addr).add j = ⟨b, o + j, none⟩ := fun j => by unfold Addr.add; split <;> simp_all
    obtain ⟨v', w', hr, ho, hgr, _, hat⟩ := run_append_own_at (P := Tryz.prog) w N 27 ty 29 i0 zeroVal 5 80 hu hi hz0 hz1 hz2 rfl (by decide) lv xs.length vs h.1 ⟨b, o, none⟩ ys.length cl news hnl
      (fun j u hj => by rw [hadd]; obtain ⟨u', h1, h2, _⟩ := hnews j (by have := (List.getElem?_eq_some_iff.1 hj).1; omega); rw [hj] at h1; cases h1; exact h2) hone (by unfold maxLen; omega) (by omega) hN
    have hsame : Same S w w' := fun c hc => hgr.block c (Nat.lt_of_lt_of_le (hSN c hc) hN) (fun e => by have := (h.1.lt c e.symm).1; have := hSN c hc; omega)
    have hlen : vs.length = xs.length * 5 := h.1.1
    have hto : VTo S N w' v' (xs ++ ys) (vs ++ news) := by
      refine ⟨by rw [List.length_append]; exact ho, fun j x hx => ?_⟩
      by_cases e : j < xs.length
      · rw [List.getElem?_append_left e] at hx
        obtain ⟨c0, c1, c2, c3, c4, e0, e1, e2, e3, e4, hvx⟩ := h.2 j x hx
        refine ⟨c0, c1, c2, c3, c4, ?_, ?_, ?_, ?_, ?_, hvx.same hsame⟩
        · rw [List.getElem?_append_left (by omega)]; exact e0
        · rw [List.getElem?_append_left (by omega)]; exact e1
        · rw [List.getElem?_append_left (by omega)]; exact e2
        · rw [List.getElem?_append_left (by omega)]; exact e3
        · rw [List.getElem?_append_left (by omega)]; exact e4
      · rw [List.getElem?_append_right (by omega)] at hx
        obtain ⟨c0, c1, c2, c3, c4, e0, e1, e2, e3, e4, hval⟩ := hcell _ x hx
        have hjl := (List.getElem?_eq_some_iff.1 hx).1
        have hn : ∀ m c, m < 5 → w.cell? ⟨b, o + ((j - xs.length) * 5 + m), none⟩ = some c → (vs ++ news)[j * 5 + m]? = some c := fun m c hm hc => by
          rw [List.getElem?_append_right (by omega), show j * 5 + m - vs.length = (j - xs.length) * 5 + m by omega]
          obtain ⟨u, h1, h2, _⟩ := hnews ((j - xs.length) * 5 + m) (by omega)
          rw [hc] at h2
          cases h2
          exact h1
        exact ⟨c0, c1, c2, c3, c4, hn 0 _ (by omega) e0, hn 1 _ (by omega) (by rw [← Nat.add_assoc]; exact e1), hn 2 _ (by omega) (by rw [← Nat.add_assoc]; exact e2), hn 3 _ (by omega) (by rw [← Nat.add_assoc]; exact e3), hn 4 _ (by omega) (by rw [← Nat.add_assoc]; exact e4), hval.same hsame⟩
    obtain ⟨a, c, e⟩ := hto.slice
    rw [List.length_append] at e
    exact ⟨v', w', hr, ⟨_, hto⟩, hgr, a, c, e⟩
end Go.Proofs.YtmkoeomkbbmoaaaGreatDoor

/- RowFlat of the model. -/
namespace Go.Proofs.YtmkoeomkbbmoaaaGreatDoor
open Go.RowKit Go.Deep

set_option maxRecDepth 100000 in
set_option maxHeartbeats 2000000 in
theorem specRowFlat_any (d : Nat) (S : Nat → Prop) (t : Tr (d + 2)) (v : Value) (w : World) (hv : ValAt S w (d + 2) t v) (hS : Within S w) (hsm : (nodes (d + 2) t : Int) ≤ 4194304) :
    Calls Tryz.prog 14 #[v] w (SpecQ (d + 1) (rowTell (flatF d) t).1 (rowTell (flatF d) t).2 w) := by
  have hv0 := hv
  obtain ⟨vk, vl, rfl, i1, i2, i3, hk, hl⟩ := hv
  obtain ⟨ak, ck, rfl, hkl⟩ := hk.open'
  obtain ⟨al, cl, rfl, hll⟩ := hl.open'
  obtain ⟨W0, hW⟩ : ∃ W0, W0 = (w.alloc (.cells #[.int .i64 t.kind, .int .i64 t.num, .string t.str, .slice ak t.keys.length ck, .slice al t.list.length cl] 29)).alloc (.cells #[.int .i64 0, .int .i64 0, .string { data := #[] }, .slice none 0 0, .slice none 0 0] 29) := ⟨_, rfl⟩
  have hW0 : Below w.heap.size w W0 := by rw [hW]; exact below_trans (below_alloc1 _ _) (below_alloc1 _ _)
  have k0 : Blk5 W0 w.heap.size 29 (.int .i64 t.kind) (.int .i64 t.num) (.string t.str) (.slice ak t.keys.length ck) (.slice al t.list.length cl) := by
    rw [hW]; exact (Blk5.new w 29 _ _ _ _ _).alloc _
  have k1 : Blk5 W0 (w.heap.size + 1) 29 (.int .i64 0) (.int .i64 0) (.string { data := #[] }) (.slice none 0 0) (.slice none 0 0) := by
    have := Blk5.new (w.alloc (.cells #[.int .i64 t.kind, .int .i64 t.num, .string t.str, .slice ak t.keys.length ck, .slice al t.list.length cl] 29)) 29 (.int .i64 0) (.int .i64 0) (.string { data := #[] }) (.slice none 0 0) (.slice none 0 0)
    rw [World.size_alloc] at this
    rw [hW]
    exact this
  have HW := hide hW
  clear hW hk
  go_enter Tryz.func14, Tryz.ntmps14
  go_wp2_with fail
  rw [← HW.out]
  clear HW
  refine (l4Row_any (d + 1) S t _ W0 (hv0.same (hS.same hW0)) (hS.later hW0.size) hsm).mono ?_
  rintro e w1 ⟨rfl, hb1⟩
  replace k0 := k0.below hb1
  replace k1 := k1.below hb1
  have hB1 := below_trans hW0 hb1
  have hlt := k1.lt
  clear hb1 hW0 hv0
  cases hf : treesL (d + 1) t with
  | none =>
    have hz := hide (rowTell_none (f := flatF d) hf)
    have hno : Hid (∀ wF, wF = set5 w1 (w.heap.size + 1) 0 (.int .i64 0) (.int .i64 0) (.string { data := #[] }) (.slice none 0 0) (.slice none 0 0) → Below w.heap.size w wF) := by
      intro wF hF
      rw [hF]
      exact below_set5 hB1 (by omega) _ _ _ _ _ _
    obtain ⟨y0, y1, y2, y3, y4⟩ := k1.cell
    have yf := k1.frozen
    clear k0 k1 hB1
    go_wp2_with fail
    rw [hz.out]
    refine bodyPost_ret (v := .tuple #[zeroVal, .bool false]) (by simp [results, Tryz.results14, go_sem, zeroVal, y0, y1, y2, y3, y4]; rfl) rfl ⟨_, rfl, zeroAt (d + 1) _ _, hno.out _ rfl⟩
  | some xs =>
    obtain ⟨hok, h5, rfl⟩ := treesL_some hf
    clear h5
    have hR : Hid (rowTell (flatF d) t = (toldT (d + 1) (rowT (d + 1) (flatL d t.list)), okT (d + 2) (rowT (d + 1) (flatL d t.list)))) := rowTell_some hf rfl
    have hl60 : t.list.length ≤ 60 := (okT_kinds hok).2.1
    have hf60 : (flatL d t.list).length ≤ 60 := flat_len hok
    have hnod : (nodes (d + 2) (rowT (d + 1) (flatL d t.list)) : Int) ≤ 4194304 := nodes_row (flat_ok (fun x hx => okT_part hok hx)) (by omega)
    have hS1 : ∀ b, S b → b < w1.heap.size := hS.later hB1.size
    have hst : Hid (VTo (d := d + 1) S w1.heap.size (w1.alloc (.cells #[] 29)) (.slice (some ⟨w1.heap.size, 0, none⟩) 0 0) [] []) := VTo.start S w1
    have hbs := hide (below_alloc1 w1 (.cells #[] 29))
    obtain ⟨i0, hi, hz0, hz1, hz2⟩ := info_parts Tryz.infoV2
    obtain ⟨x0, x1, x2, x3, x4⟩ := (k0.alloc (.cells #[] 29)).cell
    clear hf hok
    go_wp2_with fail
    go_loopw [4, 5] (fun out i wr => ∃ (m n : Nat) (la : Option Addr) (lc : Nat) (vs : List Value), m ≤ t.list.length ∧ out = .slice la n lc ∧ i = .int .i64 (m : Int) ∧ n ≤ 60 ∧ Hid (n = (flatL d (t.list.take m)).length) ∧ Hid (VTo S w1.heap.size wr (.slice la n lc) (flatL d (t.list.take m)) vs) ∧ Hid (Below w1.heap.size w1 wr)) (fun _ i _ => t.list.length - (intOf i).toNat)
    case atStart => exact ⟨0, 0, _, _, [], Nat.zero_le _, rfl, rfl, Nat.zero_le _, rfl, hst, hbs⟩
    case round =>
      clear hst hbs x0 x1 x2 x3 x4
      obtain ⟨m, n, la, lc, vs, hm, rfl, rfl, hn60, hlen, hto, hbr⟩ := hrel
      have hsz := hbr.out.size
      have kbox := k0.below hbr.out
      obtain ⟨x0, x1, x2, x3, x4⟩ := kbox.cell
      by_cases hmt : m < t.list.length
      · have hmi : (m : Int) < (t.list.length : Int) := by omega
        obtain ⟨b, o, x, c0, c1, c2, c3, c4, rfl, hbS, hx, e0, e1, e2, e3, e4, hval⟩ := (hl.same (hS.same (below_trans hB1 hbr.out))).cell hmt
        obtain ⟨q0, q1, q2, q3, q4, q5, q6, q7, q8, hq⟩ := hval.shape
        cases hq
        obtain ⟨rfl, rfl, hin⟩ := hval.parts
        have hstp := hide (flatL_step (d := d) hx)
        have hle := hide (flat_take (d := d) t.list (m + 1))
        by_cases h5 : Nd.kind x = 5
        · have h5b : (Nd.kind x == 5) = true := by rw [h5]; rfl
          have hup := hin.up (At' := ValAt S wr (d + 1)) (up d) (fun y u hy => ValAt.up d y u hy)
          have hone := hide (flat1_row (d := d) h5)
          have hsm2 : (flatL d (t.list.take m)).length + ((Nd.list x).map (up d)).length ≤ 60 := by
            have h1 := hle.out
            rw [hstp.out, hone.out, List.length_append] at h1
            omega
          have hrun := hide (fun ty => run_append_onto_vals hto.out hS1 hsz ((Nd.list x).map (up d)) q6 q8 (Nd.list x).length ty (by rw [List.length_map]) hup (by omega))
          have hstep : Hid (∀ ty, ∃ v' w', (Builtin.append_ #[27, 27] ty #[.slice la n lc, .slice q6 (Nd.list x).length q8]).run Tryz.prog wr = .ok v' w' ∧ Hid (∃ n' a c vs', v' = .slice a n' c ∧ n' ≤ 60 ∧ n' = (flatL d (t.list.take (m + 1))).length ∧ VTo S w1.heap.size w' v' (flatL d (t.list.take (m + 1))) vs' ∧ Below w1.heap.size w1 w')) := by
            intro ty
            obtain ⟨lv', w2, hr, ⟨vs', hv'⟩, hgr, a, c, e⟩ := hrun.out ty
            have hrow := fun g hg => (hto.out.1.lt g hg).1
            refine ⟨lv', w2, hr, _, a, c, vs', e, by omega, ?_, ?_, ?_⟩
            · rw [hstp.out, hone.out, List.length_append]
            · rw [hstp.out, hone.out]; exact hv'
            · exact ⟨hgr.os.trans hbr.out.os, hgr.tape.trans hbr.out.tape, hgr.output.trans hbr.out.output, Nat.le_trans hbr.out.size hgr.size, fun b hb => (hgr.block b (by omega) (fun e => by have := hrow b e.symm; omega)).trans (hbr.out.block b hb)⟩
          clear hto hbr hval hx kbox hup hin hstp hle hone hsm2 hlen hrun hi hz0 hz1 hz2 hS1 hnod hR h5b
          rw [h5] at e0
          clear h5
          go_wp2_with (at_builtin; refine wpList_append_run (fun v' w' => Hid (∃ n' a c vs', v' = .slice a n' c ∧ n' ≤ 60 ∧ n' = (flatL d (t.list.take (m + 1))).length ∧ VTo S w1.heap.size w' v' (flatL d (t.list.take (m + 1))) vs' ∧ Below w1.heap.size w1 w')) rfl _ _ 27 rfl (.slice la n lc) (.slice q6 (Nd.list x).length q8) rfl rfl (hstep.out 27) ?_)
          rintro v' w2 hph
          obtain ⟨n', ⟨a, c, rfl⟩, hn', g2, ⟨vs', g3⟩, g4⟩ := hph.out
          have hl' := hide g2
          have hV := hide g3
          have hB' := hide g4
          clear hph hstep g2 g3 g4
          go_wp2_with fail
          go_roundw
          case rel => exact ⟨m + 1, n', a, c, vs', by omega, rfl, by go_num, hn', hl', hV, hB'⟩
          case measure => simp [intOf]; omega
        · have h5b : (Nd.kind x == 5) = false := by simp [h5]
          have hone := hide (flat1_one (d := d) h5)
          have hsm2 : n + 1 ≤ 60 := by
            have h1 := hle.out
            rw [hstp.out, hone.out, List.length_append, List.length_singleton, ← hlen.out] at h1
            omega
          have hown := hto.out.1
          rw [← hlen.out] at hown
          have HO := hide (hown.alloc (.cells #[.int .i64 (Nd.kind x), .int .i64 q1, .string q2, .slice q3 q4 q5, .slice q6 (Nd.list x).length q8] 29))
          have hstep : Hid (∀ lv' w2, w2.ownsRow w1.heap.size 29 5 lv' (n + 1) (vs ++ [.int .i64 (Nd.kind x), .int .i64 q1, .string q2, .slice q3 q4 q5, .slice q6 (Nd.list x).length q8]) → (wr.alloc (.cells #[.int .i64 (Nd.kind x), .int .i64 q1, .string q2, .slice q3 q4 q5, .slice q6 (Nd.list x).length q8] 29)).grownBy w2 (Value.slice la n lc).ownBlock →
              ∃ a c, lv' = .slice a (n + 1) c ∧ n + 1 = (flatL d (t.list.take (m + 1))).length ∧ VTo S w1.heap.size w2 lv' (flatL d (t.list.take (m + 1))) (vs ++ [.int .i64 (Nd.kind x), .int .i64 q1, .string q2, .slice q3 q4 q5, .slice q6 (Nd.list x).length q8]) ∧ Below w1.heap.size w1 w2) := by
            intro lv' w2 o1 o2
            have hp := hto.out.push hS1 hsz hbr.out hval (by rw [← hlen.out]; exact o1) o2
            have heq : flatL d (t.list.take m) ++ [x] = flatL d (t.list.take (m + 1)) := by rw [hstp.out, hone.out]
            rw [heq] at hp
            have hl1 : n + 1 = (flatL d (t.list.take (m + 1))).length := by rw [← heq, List.length_append, List.length_singleton, ← hlen.out]
            obtain ⟨a, c, e⟩ := hp.1.slice
            rw [← hl1] at e
            exact ⟨a, c, e, hl1, hp.1, hp.2.1⟩
          have hsw : w1.heap.size ≤ wr.heap.size := hsz
          clear hto hbr hown hval hx kbox hin hstp hle hone hlen
          go_wp2_with (at_builtin; refine wpList_append_own_at _ rfl _ _ 27 rfl w1.heap.size 29 i0 zeroVal 5 80 Tryz.underlying27 hi hz0 hz1 hz2 rfl (by decide) _ _ _ rfl HO.out ⟨wr.heap.size, 0, none⟩ 1 1 [.int .i64 (Nd.kind x), .int .i64 q1, .string q2, .slice q3 q4 q5, .slice q6 (Nd.list x).length q8] rfl rfl (cell_five_new _ _ _ _ _ _ _) ?c2 ?c3 ?c4 ?c5 ?_)
          case c2 => intro y hy; simp at hy; rcases hy with rfl | rfl | rfl | rfl | rfl <;> rfl
          case c3 => unfold maxLen; omega
          case c4 => omega
          case c5 => simp; omega
          · intro lv' w2 o1 o2 _ o3
            have HH := hide (hstep.out lv' w2 o1 o2)
            clear o1 o2 o3 hstep HO
            obtain ⟨a, c, rfl, hl1, hv2, hb2⟩ := HH.out
            have HL := hide hl1
            have HV := hide hv2
            have HB2 := hide hb2
            clear HH hv2 hb2 hl1 hi hz0 hz1 hz2
            go_wp2_with fail
            go_roundw
            case rel => exact ⟨m + 1, n + 1, a, c, _, by omega, rfl, by go_num, hsm2, HL, HV, HB2⟩
            case measure => simp [intOf]; omega
      · obtain rfl : m = t.list.length := by omega
        have hall : t.list.take t.list.length = t.list := List.take_of_length_le (Nat.le_refl _)
        have hto' := hto.out
        rw [hall] at hto'
        have HTO := hide hto'
        have kres := k1.below hbr.out
        have hB2 := below_trans hB1 hbr.out
        clear hto hto' hall kbox x0 x1 x2 x3 hi hz0 hz1 hz2 k0 k1 hlt hlen
        go_wp2_with fail
        refine (l4Of_any _ _ _ wr).mono ?_
        rintro e w3 ⟨rfl, hb3⟩
        have hB3 := below_trans hB2 hb3
        have hrow := rowV_at HTO.out (by omega) hb3 (fun b hb => Nat.lt_of_lt_of_le (hS1 b hb) hsz)
        have k3 := kres.below hb3
        have hWU3 : Within (fun b => S b ∨ (w1.heap.size ≤ b ∧ b < w3.heap.size)) w3 := fun b hb => by
          rcases hb with hb | hb
          · exact hS.later hB3.size b hb
          · exact hb.2
        have hcall2 := hide (l2Told_any (d + 1) _ _ _ w3 hrow hWU3 hnod)
        have hlt3 : w.heap.size + 1 < w3.heap.size := k3.lt
        clear hrow hWU3 hb3 HTO hbr kres hB2 hl
        go_wp2_with fail
        refine Calls.mono hcall2.out ?_
        rintro e w4 ⟨r, rfl, hr, hb4⟩
        obtain ⟨r0, r1, r2, r3, r4, r5, r6, r7, r8, rfl⟩ := hr.shape
        have HF := hide (tell_endA hr (below_trans hB3 hb4) (by omega) hlt3)
        have k4 := k3.below hb4
        obtain ⟨y0, y1, y2, y3, y4⟩ := k4.cell
        have yf := k4.frozen
        clear hr hb4 k3 k4 hcall2 hB3
        go_wp2_with fail
        rw [hR.out]
        exact bodyPost_ret (v := .tuple #[.agg #[.int .i64 r0, .int .i64 r1, .string r2, .slice r3 r4 r5, .slice r6 r7 r8], .bool (okT (d + 2) (rowT (d + 1) (flatL d t.list)))]) (by simp [results, Tryz.results14, go_sem, y0, y1, y2, y3, y4]) rfl ⟨_, rfl, (HF.out _ rfl).1, (HF.out _ rfl).2⟩
end Go.Proofs.YtmkoeomkbbmoaaaGreatDoor

/- The program's own trees: one deeper; whole rows of them appended. -/
namespace Go.Proofs.YtmkoeomkbbmoaaaGreatDoor
open Go.RowKit Go.Deep

theorem Row1At.up {α β : Type} {S : Nat → Prop} {w : World} {At : α → Value → Prop} {At' : β → Value → Prop} {v : Value} {xs : List α} (f : α → β) (h : Row1At S w At v xs) (hi : ∀ x u, At x u → At' (f x) u) : Row1At S w At' v (xs.map f) := by
  obtain ⟨h1, a, cap, hv, h3⟩ := h
  refine ⟨by rw [List.length_map]; exact h1, a, cap, by rw [List.length_map]; exact hv, ?_⟩
  rcases h3 with h3 | ⟨b, o, hB, ha, hc⟩
  · exact Or.inl (by rw [h3]; rfl)
  · refine Or.inr ⟨b, o, hB, ha, fun i x hx => ?_⟩
    rw [List.getElem?_map] at hx
    obtain ⟨y, hy, rfl⟩ := Option.map_eq_some_iff.1 hx
    obtain ⟨u, e0, e1⟩ := hc i y hy
    exact ⟨u, e0, hi _ _ e1⟩
theorem MapG.up {α β : Type} {At : α → Value → Prop} {At' : β → Value → Prop} {es : Array MapEntry} {ps : List (ByteArray × α)} (f : α → β) (h : MapG At es ps) (hi : ∀ x u, At x u → At' (f x) u) : MapG At' es (ps.map (fun p => (p.1, f p.2))) := by
  refine ⟨by rw [List.length_map]; exact h.1, fun i k x hp => ?_⟩
  rw [List.getElem?_map] at hp
  obtain ⟨⟨k', y⟩, hy, e⟩ := Option.map_eq_some_iff.1 hp
  cases e
  obtain ⟨u, e0, e1⟩ := h.2 i k' y hy
  exact ⟨u, e0, hi _ _ e1⟩
theorem zip_up {α β γ : Type} (f : β → γ) : ∀ (ks : List α) (xs : List β), ks.zip (xs.map f) = (ks.zip xs).map (fun p => (p.1, f p.2))
  | [], _ => rfl
  | _ :: _, [] => rfl
  | k :: r, x :: s => by rw [List.map_cons, List.zip_cons_cons, List.zip_cons_cons, List.map_cons, zip_up f r s]
theorem TreeG.up {S : Nat → Prop} {w : World} : ∀ (d : Nat) (t : Tr d) (v : Value), TreeG S w d t v → TreeG S w (d + 1) (up d t) v
  | 0, _, _, h => h.elim
  | d + 1, t, v, h => by
    rcases h with ⟨k, h1, rfl, h3⟩ | ⟨n, h1, rfl, h3⟩ | ⟨s, h1, rfl, h3⟩ | ⟨xs, sv, h1, rfl, h3, hr⟩ | ⟨keys, xs, ps, r, es, h1, h2, h3, h4, rfl, h6, hr, hm, he⟩
    · exact Or.inl ⟨k, h1, rfl, h3⟩
    · exact Or.inr (Or.inl ⟨n, h1, rfl, h3⟩)
    · exact Or.inr (Or.inr (Or.inl ⟨s, h1, rfl, h3⟩))
    · exact Or.inr (Or.inr (Or.inr (Or.inl ⟨xs.map (Go.Proofs.YtmkoeomkbbmoaaaGreatDoor.up d), sv, by rw [List.length_map]; exact h1, rfl, h3, hr.up (At' := TreeG S w (d + 1)) _ (fun x u hx => TreeG.up d x u hx)⟩)))
    · refine Or.inr (Or.inr (Or.inr (Or.inr ⟨keys, xs.map (Go.Proofs.YtmkoeomkbbmoaaaGreatDoor.up d), ps.map (fun p => (p.1, Go.Proofs.YtmkoeomkbbmoaaaGreatDoor.up d p.2)), r, es, by rw [List.length_map]; exact h1, h2, by rw [List.length_map]; exact h3, ?_, rfl, h6, hr, by rw [List.length_map]; exact hm, he.up (At' := TreeG S w (d + 1)) _ (fun x u hx => TreeG.up d x u hx)⟩)))
      rw [zip_up]
      exact h4.map _

/-- A row of the program's that owns its cells; its trees lie in blocks of S. -/
def GF {d : Nat} (S : Nat → Prop) (N : Nat) (w : World) (sv : Value) (xs : List (Tr d)) (vs : List Value) : Prop :=
  w.ownsRow N 54 1 sv xs.length vs ∧ ∀ (j : Nat) (x : Tr d) (u : Value), xs[j]? = some x → vs[j]? = some u → TreeG S w d x u
theorem GF.nil {d : Nat} (S : Nat → Prop) (N : Nat) (w : World) : GF (d := d) S N w (.slice none 0 0) [] [] := ⟨World.ownsRow_nil _ _ _ _, fun j x u h => by simp at h⟩
theorem GF.slice {d N : Nat} {S : Nat → Prop} {w : World} {lv : Value} {xs : List (Tr d)} {vs : List Value} (h : GF S N w lv xs vs) : ∃ a c, lv = .slice a xs.length c := by
  rcases h.1.2 with ⟨rfl, h0⟩ | ⟨g, cap, cur, rfl, _⟩
  · exact ⟨none, 0, by rw [h0]⟩
  · exact ⟨_, _, rfl⟩
theorem GF.grow {d N : Nat} {S : Nat → Prop} {wr w2 : World} {lv lv' : Value} {xs ys : List (Tr d)} {vs us : List Value} (h : GF S N wr lv xs vs) (hs : Same S wr w2) (hy : ∀ (j : Nat) (x : Tr d) (u : Value), ys[j]? = some x → us[j]? = some u → TreeG S wr d x u) (hown : w2.ownsRow N 54 1 lv' (xs.length + ys.length) (vs ++ us)) : GF S N w2 lv' (xs ++ ys) (vs ++ us) := by
  have hlen : vs.length = xs.length := by have := h.1.1; omega
  refine ⟨by rw [List.length_append]; exact hown, fun j x u hx hu => ?_⟩
  by_cases e : j < xs.length
  · rw [List.getElem?_append_left e] at hx
    rw [List.getElem?_append_left (by omega)] at hu
    exact (h.2 j x u hx hu).same hs
  · rw [List.getElem?_append_right (by omega)] at hx
    rw [List.getElem?_append_right (by omega), hlen] at hu
    exact (hy _ x u hx hu).same hs
theorem GF.tree {d N M : Nat} {S : Nat → Prop} {w : World} {sv : Value} {xs : List (Tr d)} {vs : List Value} (h : GF S N w sv xs vs) (hl : xs.length ≤ 1000) (hM : M ≤ N) (hSM : ∀ b, S b → M ≤ b ∧ b < w.heap.size) : TreeG (fun b => M ≤ b ∧ b < w.heap.size) w (d + 1) (rowT d xs) (.iface 83 (.agg #[sv])) := by
  refine Or.inr (Or.inr (Or.inr (Or.inl ⟨xs, sv, hl, rfl, rfl, by omega, ?_⟩)))
  obtain ⟨h1, h2⟩ := h
  have hlen := h1.1
  rw [Nat.mul_one] at hlen
  rcases h1.2 with ⟨rfl, h0⟩ | ⟨g, cap, cur, rfl, hg, hh, _, _, _, _⟩
  · exact ⟨none, 0, by rw [h0], Or.inl (List.eq_nil_of_length_eq_zero h0)⟩
  · refine ⟨some ⟨g, 0, none⟩, cap, rfl, Or.inr ⟨g, 0, ⟨by omega, (Array.getElem?_eq_some_iff.1 hh).1⟩, rfl, fun i x hx => ?_⟩⟩
    have hi := (List.getElem?_eq_some_iff.1 hx).1
    have hvi : vs[i]? = some vs[i] := List.getElem?_eq_getElem (by omega)
    have hc := h1.cells (g := g) rfl i _ hvi
    have hadd : (⟨g, 0, none⟩ : Addr).add i = ⟨g, 0 + i, none⟩ := by unfold Addr.add; split <;> simp_all
    rw [hadd] at hc
    exact ⟨vs[i], hc, (h2 i x _ hx hvi).mono hSM⟩

/-- Trees of the program's, appended behind others. -/
theorem run_append_onto_trees {d N : Nat} {S : Nat → Prop} {w : World} {lv : Value} {xs : List (Tr d)} {vs : List Value} (h : GF S N w lv xs vs) (hSN : ∀ b, S b → b < N) (hN : N ≤ w.heap.size) (ys : List (Tr d)) (al : Option Addr) (cl n : Nat) (ty : TypeId) (hn : n = ys.length) (hv : Row1At S w (TreeG S w d) (.slice al n cl) ys) (hsm : xs.length + ys.length ≤ 100000) :
    ∃ v' w', (Builtin.append_ #[79, 79] ty #[lv, .slice al n cl]).run Tryz.prog w = .ok v' w' ∧ ((∃ vs', GF S N w' v' (xs ++ ys) vs') ∧ w.grownBy w' lv.ownBlock ∧ ∃ a c, v' = .slice a (xs.length + ys.length) c) := by
  subst hn
  obtain ⟨i0, hi, hz0, hz1, hz2⟩ := info_parts Tryz.infoTree
  have hu : Tryz.prog.underlying 79 = some (.slice 54) := Tryz.underlying79
  have hbk : ∀ w', w.grownBy w' lv.ownBlock → Same S w w' := fun w' hgr b hb => hgr.block b (Nat.lt_of_lt_of_le (hSN b hb) hN) (fun e => by have := (h.1.lt b e.symm).1; have := hSN b hb; omega)
  have hfin : ∀ v' w' us, (∀ (j : Nat) (x : Tr d) (u : Value), ys[j]? = some x → us[j]? = some u → TreeG S w d x u) → w'.ownsRow N 54 1 v' (xs.length + ys.length) (vs ++ us) → w.grownBy w' lv.ownBlock → ((∃ vs', GF S N w' v' (xs ++ ys) vs') ∧ w.grownBy w' lv.ownBlock ∧ ∃ a c, v' = .slice a (xs.length + ys.length) c) := fun v' w' us hus ho hgr => by
    have hto := h.grow (hbk w' hgr) hus ho
    obtain ⟨a, c, e⟩ := hto.slice
    rw [List.length_append] at e
    exact ⟨⟨_, hto⟩, hgr, a, c, e⟩
  by_cases h0 : ys = []
  · subst h0
    cases al with
    | none =>
      refine ⟨lv, w, ?_, hfin lv w [] (fun j x u h => by simp at h) (by rw [List.append_nil]; exact h.1) ⟨rfl, rfl, rfl, Nat.le_refl _, fun _ _ _ => rfl⟩⟩
      rcases h.1.2 with ⟨rfl, _⟩ | ⟨g, cap, cur, rfl, _, _, hle, _⟩
      · simp [Builtin.append_, run_underlying hu, sizeOf, typeInfo, hi, Builtin.lenOf, Builtin.firstCells, Result.andThen, hz1]
      · simp [Builtin.append_, run_underlying hu, sizeOf, typeInfo, hi, Builtin.lenOf, Builtin.firstCells, storeCells, Result.andThen, hz1, hle]
    | some a =>
      obtain ⟨v', w', hr, ho, hgr, _⟩ := run_append_own_at (P := Tryz.prog) w N 79 ty 54 i0 .nilIface 1 16 hu hi hz0 hz1 hz2 rfl (by decide) lv xs.length vs h.1 a 0 cl [] rfl (fun j u hj => by simp at hj) (fun u hu => by simp at hu) (by unfold maxLen; omega) (by omega) hN
      exact ⟨v', w', hr, hfin v' w' [] (fun j x u h => by simp at h) ho hgr⟩
  · have hpos : 0 < ys.length := List.length_pos_iff.2 h0
    obtain ⟨_, a', c', hv', h3⟩ := hv
    cases hv'
    rcases h3 with h3 | ⟨b, o, hbS, rfl, hc⟩
    · exact absurd h3 h0
    have hex : ∀ j, j < ys.length → ∃ u, w.cell? ⟨b, o + j, none⟩ = some u ∧ u.oneCell' = true ∧ ∀ x, ys[j]? = some x → TreeG S w d x u := by
      intro j hj
      obtain ⟨u, e0, e1⟩ := hc j _ (List.getElem?_eq_getElem hj)
      obtain ⟨T, u', rfl⟩ := e1.iface
      refine ⟨_, e0, rfl, fun x hx => ?_⟩
      rw [List.getElem?_eq_getElem hj] at hx
      cases hx
      exact e1
    obtain ⟨news, hnl, hnews⟩ : ∃ news : List Value, news.length = ys.length ∧ ∀ j, j < ys.length → ∃ u, news[j]? = some u ∧ w.cell? ⟨b, o + j, none⟩ = some u ∧ u.oneCell' = true ∧ ∀ x, ys[j]? = some x → TreeG S w d x u := by
      refine ⟨(List.range ys.length).map (fun j => (w.cell? ⟨b, o + j, none⟩).getD undef), by simp, fun j hj => ?_⟩
      obtain ⟨u, hu, h1⟩ := hex j hj
      exact ⟨u, by simp [hj, hu], hu, h1⟩
    have hat : ∀ j u, news[j]? = some u → w.cell? ⟨b, o + j, none⟩ = some u ∧ u.oneCell' = true ∧ ∀ x, ys[j]? = some x → TreeG S w d x u := by
      intro j u hj
      obtain ⟨u', h1, h2⟩ := hnews j (by have := (List.getElem?_eq_some_iff.1 hj).1; omega)
      rw [hj] at h1
      cases h1
      exact h2
    have hadd : ∀ j, (⟨b, o, none⟩ : Addr).add j = ⟨b, o + j, none⟩ := fun j => by unfold Addr.add; split <;> simp_all
    obtain ⟨v', w', hr, ho, hgr, _⟩ := run_append_own_at (P := Tryz.prog) w N 79 ty 54 i0 .nilIface 1 16 hu hi hz0 hz1 hz2 rfl (by decide) lv xs.length vs h.1 ⟨b, o, none⟩ ys.length cl news (by omega)
      (fun j u hj => by rw [hadd]; exact (hat j u hj).1) (fun u hu => by obtain ⟨j, hj⟩ := List.getElem?_of_mem hu; exact (hat j u hj).2.1) (by unfold maxLen; omega) (by omega) hN
    exact ⟨v', w', hr, hfin v' w' news (fun j x u hx hu => (hat j u hu).2.2 x hx) ho hgr⟩
end Go.Proofs.YtmkoeomkbbmoaaaGreatDoor

/- ofRow of the program, at flatRow. -/
namespace Go.Proofs.YtmkoeomkbbmoaaaGreatDoor
open Go.RowKit Go.Deep

set_option maxRecDepth 100000 in
set_option maxHeartbeats 2000000 in
theorem ofRow_flatRow (d e : Nat) (S : Nat → Prop) (t : Tr (d + 1)) (v : Value) (f : List (Tr d) → Option (Tr (e + 1))) (w : World) (hv : ValAt S w (d + 1) t v) (hS : Within S w) (hg : ErrType w)
    (H : Hid (∀ (N : Nat) (xs : List (Tr d)) (a : Option Addr) (cap : Nat) (vs : List Value) (w1 : World), treesL d t = some xs → GTo N w1 (.slice a xs.length cap) xs vs → w.heap.size ≤ N → N ≤ w1.heap.size → ErrType w1 → Calls Tryz.prog 40 #[.slice a xs.length cap] w1 (TellF e N (f xs) w1))) :
    Calls Tryz.prog 39 #[v, .func (.func 40) #[] #[]] w (TellQ e (rowTell f t).1 (rowTell f t).2 w) := by
  obtain ⟨k, n, s, ak, lk, ck, al, ll, cl, rfl⟩ := hv.shape
  obtain ⟨W0, hW⟩ : ∃ W0, W0 = (w.alloc (.cells #[.int .i64 k, .int .i64 n, .string s, .slice ak lk ck, .slice al ll cl] 29)).alloc (.cells #[.int .i64 0, .int .i64 0, .string { data := #[] }, .slice none 0 0, .slice none 0 0] 29) := ⟨_, rfl⟩
  have hW0 : Below w.heap.size w W0 := by rw [hW]; exact below_trans (below_alloc1 _ _) (below_alloc1 _ _)
  have k1 : Blk5 W0 (w.heap.size + 1) 29 (.int .i64 0) (.int .i64 0) (.string { data := #[] }) (.slice none 0 0) (.slice none 0 0) := by
    have := Blk5.new (w.alloc (.cells #[.int .i64 k, .int .i64 n, .string s, .slice ak lk ck, .slice al ll cl] 29)) 29 (.int .i64 0) (.int .i64 0) (.string { data := #[] }) (.slice none 0 0) (.slice none 0 0)
    rw [World.size_alloc] at this
    rw [hW]
    exact this
  have HW := hide hW
  clear hW
  go_enter Tryz.func39, Tryz.ntmps39
  go_wp2_with fail
  rw [← HW.out]
  clear HW
  refine (treesInRow_own d S t _ W0 (hv.same (hS.same hW0)) (hS.later hW0.size)).mono ?_
  rintro en w1 ⟨hb1, hq⟩
  have hB1 := below_trans hW0 hb1
  have k2 := k1.below hb1
  have hg1 := hg.below hB1
  have hl1 := k1.lt
  have hs0 := hW0.size
  have hs1 := hb1.size
  clear hv
  -- what is told, however it is
  have hfin : ∀ (w1' : World), Below W0.heap.size w1 w1' → ∀ (x : Tr (e + 1)) (ok : Bool), Hid (∀ en w2, TellQ e x ok w1' en w2 → ∃ v0 v1 v2 v3 v4 v5 v6 v7 v8, en = .returned (.tuple #[.agg #[.int .i64 v0, .int .i64 v1, .string v2, .slice v3 v4 v5, .slice v6 v7 v8], .bool ok]) ∧
      Blk5 w2 (w.heap.size + 1) 29 (.int .i64 0) (.int .i64 0) (.string { data := #[] }) (.slice none 0 0) (.slice none 0 0) ∧
      ∀ wF, wF = set5 w2 (w.heap.size + 1) 0 (.int .i64 v0) (.int .i64 v1) (.string v2) (.slice v3 v4 v5) (.slice v6 v7 v8) → ValOwn wF (e + 1) (Fresh w wF) x (.agg #[.int .i64 v0, .int .i64 v1, .string v2, .slice v3 v4 v5, .slice v6 v7 v8]) ∧ Below w.heap.size w wF) := fun w1' hb' x ok => by
    intro en w2 ⟨v, he, hv, hb2⟩
    obtain ⟨v0, v1, v2, v3, v4, v5, v6, v7, v8, rfl⟩ := (ValOwn.at _ _ _ _ hv).shape
    have hs' := hb'.size
    exact ⟨v0, v1, v2, v3, v4, v5, v6, v7, v8, he, (k2.of_block (hb'.block _ hl1)).below hb2, tell_end hv (below_trans (hB1.trans (hb'.mono hs0)) hb2) (by omega) (by omega)⟩
  clear hW0 k1 hb1
  rcases hq with ⟨xs, xa, xc, vs, hrow, rfl, hto⟩ | ⟨hrow, why, rfl⟩
  · have hcall := hide (H.out W0.heap.size xs xa xc vs w1 hrow hto hs0 hs1 hg1)
    have HR := hide hrow
    clear hto H hrow
    go_wp2_with fail
    refine Calls.mono hcall.out ?_
    rintro en w2 ⟨hb2, hq⟩
    clear hcall
    have hz2 := hb2.size
    have h00 : 0 < W0.heap.size := Nat.lt_of_lt_of_le hg.lt hs0
    have hg2 : ErrType w2 := (hb2.cell (p := ⟨0, 0, none⟩) h00).trans hg1
    rcases hq with ⟨x, u, hx, rfl, hu⟩ | ⟨hx, why, rfl⟩
    · obtain ⟨T, u', rfl⟩ := hu.iface
      have hT := hide (rowTell_some HR.out hx)
      have hcall := hide (told_tree e _ x _ w2 hu (fun b hb => hb.2))
      clear hx hu
      go_wp2_with fail
      refine Calls.mono hcall.out ?_
      intro en w3 hq
      obtain ⟨v0, v1, v2, v3, v4, v5, v6, v7, v8, rfl, k3, hF⟩ := (hfin w2 hb2 _ _).out en w3 hq
      have HF := hide hF
      obtain ⟨y0, y1, y2, y3, y4⟩ := k3.cell
      have yf := k3.frozen
      clear hF hq hfin hcall k3
      go_wp2_with fail
      refine bodyPost_ret (v := .tuple #[.agg #[.int .i64 v0, .int .i64 v1, .string v2, .slice v3 v4 v5, .slice v6 v7 v8], .bool (okT (e + 1) x)]) (by simp [results, Tryz.results39, go_sem, y0, y1, y2, y3, y4]) rfl ⟨_, by rw [hT.out], by rw [hT.out]; exact (HF.out _ rfl).1, (HF.out _ rfl).2⟩
    · have hT := hide (rowTell_fault HR.out hx)
      have hcall := hide (told_fault e .nilIface why w2 hg2)
      unfold faultV
      clear hx
      go_wp2_with fail
      refine Calls.mono hcall.out ?_
      intro en w3 hq
      obtain ⟨v0, v1, v2, v3, v4, v5, v6, v7, v8, rfl, k3, hF⟩ := (hfin w2 hb2 _ _).out en w3 hq
      have HF := hide hF
      obtain ⟨y0, y1, y2, y3, y4⟩ := k3.cell
      have yf := k3.frozen
      clear hF hq hfin hcall k3
      go_wp2_with fail
      refine bodyPost_ret (v := .tuple #[.agg #[.int .i64 v0, .int .i64 v1, .string v2, .slice v3 v4 v5, .slice v6 v7 v8], .bool false]) (by simp [results, Tryz.results39, go_sem, y0, y1, y2, y3, y4]) rfl ⟨_, by rw [hT.out], by rw [hT.out]; exact (HF.out _ rfl).1, (HF.out _ rfl).2⟩
  · have hT := hide (rowTell_none (f := f) hrow)
    have hcall := hide (told_fault e .nilIface why w1 hg1)
    unfold faultV
    clear hrow H
    go_wp2_with fail
    refine Calls.mono hcall.out ?_
    intro en w2 hq
    obtain ⟨v0, v1, v2, v3, v4, v5, v6, v7, v8, rfl, k3, hF⟩ := (hfin w1 (Below.refl _ _) _ _).out en w2 hq
    have HF := hide hF
    obtain ⟨y0, y1, y2, y3, y4⟩ := k3.cell
    have yf := k3.frozen
    clear hF hq hfin hcall k3
    go_wp2_with fail
    refine bodyPost_ret (v := .tuple #[.agg #[.int .i64 v0, .int .i64 v1, .string v2, .slice v3 v4 v5, .slice v6 v7 v8], .bool false]) (by simp [results, Tryz.results39, go_sem, y0, y1, y2, y3, y4]) rfl ⟨_, by rw [hT.out], by rw [hT.out]; exact (HF.out _ rfl).1, (HF.out _ rfl).2⟩
end Go.Proofs.YtmkoeomkbbmoaaaGreatDoor

/- flatRow, RowFlat of the program. -/
namespace Go.Proofs.YtmkoeomkbbmoaaaGreatDoor
open Go.RowKit Go.Deep

theorem ownsRow_on {w w' : World} {N : Nat} {T : TypeId} {s : Nat} {v : Value} {n : Nat} {xs : List Value} (h : w.ownsRow N T s v n xs) (hb : Below w.heap.size w w') : w'.ownsRow N T s v n xs := by
  obtain ⟨h1, h2⟩ := h
  refine ⟨h1, ?_⟩
  rcases h2 with h2 | ⟨g, c, cur, e, h3, h4, h5⟩
  · exact Or.inl h2
  · exact Or.inr ⟨g, c, cur, e, h3, (hb.block g (Array.getElem?_eq_some_iff.1 h4).1).trans h4, h5⟩
theorem GF.later {d N : Nat} {S : Nat → Prop} {w w' : World} {sv : Value} {xs : List (Tr d)} {vs : List Value} (h : GF S N w sv xs vs) (hb : Below w.heap.size w w') (hS : Within S w) : GF S N w' sv xs vs :=
  ⟨ownsRow_on h.1 hb, fun j x u hx hu => (h.2 j x u hx hu).same (hS.same hb)⟩
theorem Row1At.one {α : Type} {S : Nat → Prop} {w : World} {At : α → Value → Prop} {a : Option Addr} {n cap k : Nat} {xs : List α} (h : Row1At S w At (.slice a n cap) xs) (hk : k < xs.length) : ∃ b o x u, a = some ⟨b, o, none⟩ ∧ S b ∧ xs[k]? = some x ∧ w.cell? ⟨b, o + k, none⟩ = some u ∧ At x u := by
  obtain ⟨_, a', cap', hv, h3⟩ := h
  cases hv
  rcases h3 with rfl | ⟨b, o, hB, ha, hc⟩
  · simp at hk
  · obtain ⟨u, e0, e1⟩ := hc k _ (List.getElem?_eq_getElem hk)
    exact ⟨b, o, xs[k], u, ha, hB, List.getElem?_eq_getElem hk, e0, e1⟩

set_option maxRecDepth 100000 in
set_option maxHeartbeats 8000000 in
theorem flatRow_any (d N : Nat) (xs : List (Tr (d + 1))) (a : Option Addr) (cap : Nat) (vs : List Value) (w : World) (hto0 : GTo N w (.slice a xs.length cap) xs vs) (hN : N ≤ w.heap.size) (hl : xs.length ≤ 60) (hf60 : (flatL d xs).length ≤ 60) :
    Calls Tryz.prog 40 #[.slice a xs.length cap] w (TellF (d + 1) N (flatF d xs) w) := by
  obtain ⟨S, hSd⟩ : ∃ S : Nat → Prop, S = fun b => N ≤ b ∧ b < w.heap.size := ⟨_, rfl⟩
  have hrow0 : Row1At S w (TreeG S w (d + 1)) (.slice a xs.length cap) xs := by rw [hSd]; exact hto0.row (by omega)
  have hSw : Within S w := by rw [hSd]; exact fun b hb => hb.2
  have hSN : ∀ b, S b → N ≤ b := by rw [hSd]; exact fun b hb => hb.1
  clear hSd hto0
  go_enter Tryz.func40, Tryz.ntmps40
  go_wp2_with fail
  go_loopw [4, 11] (fun fl i wr => ∃ (k n : Nat) (la : Option Addr) (lc : Nat) (vs' : List Value), k ≤ xs.length ∧ fl = .slice la n lc ∧ i = .int .i64 (k : Int) ∧ n ≤ 60 ∧ Hid (n = (flatL d (xs.take k)).length) ∧ Hid (GF S w.heap.size wr (.slice la n lc) (flatL d (xs.take k)) vs') ∧ Hid (Below w.heap.size w wr)) (fun _ i _ => xs.length - (intOf i).toNat)
  case atStart => exact ⟨0, 0, none, 0, [], Nat.zero_le _, rfl, rfl, Nat.zero_le _, rfl, GF.nil _ _ _, Below.refl _ _⟩
  case round =>
    obtain ⟨k, n, la, lc, vs', hk, rfl, rfl, hn60, hlen, hto, hbr⟩ := hrel
    have hsz := hbr.out.size
    by_cases hkl : k < xs.length
    · have hki : (k : Int) < (xs.length : Int) := by omega
      have hmv := hSw.same hbr.out
      have hrow := hrow0.moved (At' := TreeG S wr (d + 1)) hmv (fun _ h => h) (fun x u hx => TreeG.moved hmv (fun _ h => h) (d + 1) x u hx)
      obtain ⟨b, o, x, u, rfl, hb, hx, e0, hu⟩ := hrow.one hkl
      have hstp := hide (flatL_step (d := d) hx)
      have hle := hide (flat_take (d := d) xs (k + 1))
      have htr := hide hu
      clear hrow0 hx
      rcases hu with ⟨k', h1, hxe, rfl⟩ | ⟨n', h1, hxe, rfl⟩ | ⟨s', h1, hxe, rfl⟩ | ⟨ys, sv, h1, hxe, rfl, hr⟩ | ⟨keys, ys, ps, r, es, h1, h2, h3, h4, hxe, rfl, hr, hm, he⟩
      · clear hmv
        have a3 := Tryz.asR_B
        have hx5 : Nd.kind x ≠ 5 := by rw [hxe]; show k' ≠ 5; omega
        have hone := hide (flat1_one (d := d) hx5)
        have hsm2 : n + 1 ≤ 60 := by
          have h1 := hle.out
          rw [hstp.out, hone.out, List.length_append, List.length_singleton, ← hlen.out] at h1
          omega
        have hA1 := below_alloc1 wr (.cells #[.slice none 0 0] 83)
        have hown := hto.out.1
        rw [← hlen.out] at hown
        have HO := hide ((hown.alloc (.cells #[.slice none 0 0] 83)).alloc (.cells #[.iface 92 (.agg #[.int .i64 k'])] 54))
        have hcn : Hid (∀ j v, ([.iface 92 (.agg #[.int .i64 k'])] : List Value)[j]? = some v → ((wr.alloc (.cells #[.slice none 0 0] 83)).alloc (.cells #[.iface 92 (.agg #[.int .i64 k'])] 54)).cell? ((⟨wr.heap.size + 1, 0, none⟩ : Addr).add j) = some v) := by
          have h := cell_one_new (wr.alloc (.cells #[.slice none 0 0] 83)) (.iface 92 (.agg #[.int .i64 k'])) 54
          rw [World.size_alloc] at h
          exact h
        have hrow1 : ∀ g, (Value.slice la n lc).ownBlock = some g → w.heap.size ≤ g := fun g hg => (hown.lt g hg).1
        have hstep : Hid (∀ sv' w2, w2.ownsRow w.heap.size 54 1 sv' (n + 1) (vs' ++ [.iface 92 (.agg #[.int .i64 k'])]) → ((wr.alloc (.cells #[.slice none 0 0] 83)).alloc (.cells #[.iface 92 (.agg #[.int .i64 k'])] 54)).grownBy w2 (Value.slice la n lc).ownBlock →
            ∃ a c, sv' = .slice a (n + 1) c ∧ n + 1 = (flatL d (xs.take (k + 1))).length ∧ GF S w.heap.size w2 sv' (flatL d (xs.take (k + 1))) (vs' ++ [.iface 92 (.agg #[.int .i64 k'])]) ∧ Below w.heap.size w w2) := by
          intro sv' w2 o1 o2
          have hz2 : wr.heap.size + 2 ≤ w2.heap.size := Nat.le_trans (by simp) o2.size
          have hblk : ∀ b, b < w.heap.size → w2.heap[b]? = wr.heap[b]? := fun b hb => ((o2.block b (by simp; omega) (fun c => by have := hrow1 b c.symm; omega)).trans (Below.heap_alloc _ _ _ (by simp; omega))).trans (Below.heap_alloc _ _ _ (by omega))
          have heq : flatL d (xs.take k) ++ [x] = flatL d (xs.take (k + 1)) := by rw [hstp.out, hone.out]
          have hg := hto.out.grow (ys := [x]) (us := [.iface 92 (.agg #[.int .i64 k'])]) (fun b hb => hblk b (hSw b hb)) (fun j y v hy hv => by
            cases j with
            | zero => cases hy; cases hv; exact htr.out
            | succ j => simp at hy) (by rw [← hlen.out]; exact o1)
          rw [heq] at hg
          have hl1 : n + 1 = (flatL d (xs.take (k + 1))).length := by rw [← heq, List.length_append, List.length_singleton, ← hlen.out]
          obtain ⟨a, c, e⟩ := hg.slice
          rw [← hl1] at e
          exact ⟨a, c, e, hl1, hg, ⟨o2.os.trans hbr.out.os, o2.tape.trans hbr.out.tape, o2.output.trans hbr.out.output, by omega, fun b hb => (hblk b hb).trans (hbr.out.block b hb)⟩⟩
        obtain ⟨i0, hi, hz0, hz1, hz2⟩ := info_parts Tryz.infoTree
        clear hto hbr hown htr hx5 hxe hA1 hrow1 hle hstp hone hlen hrow
        go_wp2_with (at_builtin; refine wpList_append_own_at _ rfl _ _ 79 rfl w.heap.size 54 i0 .nilIface 1 16 Tryz.underlying79 hi hz0 hz1 hz2 rfl (by decide) _ _ _ rfl HO.out ⟨wr.heap.size + 1, 0, none⟩ 1 1 [.iface 92 (.agg #[.int .i64 k'])] rfl rfl hcn.out ?c2 ?c3 ?c4 ?c5 ?_)
        case c2 => intro y hy; simp at hy; subst hy; rfl
        case c3 => unfold maxLen; omega
        case c4 => omega
        case c5 => simp; omega
        · intro sv' w2 o1 o2 _ o3
          have HH := hide (hstep.out sv' w2 o1 o2)
          clear o1 o2 o3 hstep HO hcn hi hz0 hz1 hz2
          obtain ⟨a2, c2, rfl, hl1, hg2, hb2⟩ := HH.out
          have HL := hide hl1
          have HG := hide hg2
          have HB2 := hide hb2
          clear HH hl1 hg2 hb2
          go_wp2_with fail
          go_roundw
          case rel => exact ⟨k + 1, n + 1, a2, c2, _, by omega, rfl, by go_num, hsm2, HL, HG, HB2⟩
          case measure => simp [intOf]; omega
      · clear hmv
        have a3 := Tryz.asR_N
        have hx5 : Nd.kind x ≠ 5 := by rw [hxe]; show (3 : Int) ≠ 5; omega
        have hone := hide (flat1_one (d := d) hx5)
        have hsm2 : n + 1 ≤ 60 := by
          have h1 := hle.out
          rw [hstp.out, hone.out, List.length_append, List.length_singleton, ← hlen.out] at h1
          omega
        have hA1 := below_alloc1 wr (.cells #[.slice none 0 0] 83)
        have hown := hto.out.1
        rw [← hlen.out] at hown
        have HO := hide ((hown.alloc (.cells #[.slice none 0 0] 83)).alloc (.cells #[.iface 129 (.agg #[.int .i64 n'])] 54))
        have hcn : Hid (∀ j v, ([.iface 129 (.agg #[.int .i64 n'])] : List Value)[j]? = some v → ((wr.alloc (.cells #[.slice none 0 0] 83)).alloc (.cells #[.iface 129 (.agg #[.int .i64 n'])] 54)).cell? ((⟨wr.heap.size + 1, 0, none⟩ : Addr).add j) = some v) := by
          have h := cell_one_new (wr.alloc (.cells #[.slice none 0 0] 83)) (.iface 129 (.agg #[.int .i64 n'])) 54
          rw [World.size_alloc] at h
          exact h
        have hrow1 : ∀ g, (Value.slice la n lc).ownBlock = some g → w.heap.size ≤ g := fun g hg => (hown.lt g hg).1
        have hstep : Hid (∀ sv' w2, w2.ownsRow w.heap.size 54 1 sv' (n + 1) (vs' ++ [.iface 129 (.agg #[.int .i64 n'])]) → ((wr.alloc (.cells #[.slice none 0 0] 83)).alloc (.cells #[.iface 129 (.agg #[.int .i64 n'])] 54)).grownBy w2 (Value.slice la n lc).ownBlock →
            ∃ a c, sv' = .slice a (n + 1) c ∧ n + 1 = (flatL d (xs.take (k + 1))).length ∧ GF S w.heap.size w2 sv' (flatL d (xs.take (k + 1))) (vs' ++ [.iface 129 (.agg #[.int .i64 n'])]) ∧ Below w.heap.size w w2) := by
          intro sv' w2 o1 o2
          have hz2 : wr.heap.size + 2 ≤ w2.heap.size := Nat.le_trans (by simp) o2.size
          have hblk : ∀ b, b < w.heap.size → w2.heap[b]? = wr.heap[b]? := fun b hb => ((o2.block b (by simp; omega) (fun c => by have := hrow1 b c.symm; omega)).trans (Below.heap_alloc _ _ _ (by simp; omega))).trans (Below.heap_alloc _ _ _ (by omega))
          have heq : flatL d (xs.take k) ++ [x] = flatL d (xs.take (k + 1)) := by rw [hstp.out, hone.out]
          have hg := hto.out.grow (ys := [x]) (us := [.iface 129 (.agg #[.int .i64 n'])]) (fun b hb => hblk b (hSw b hb)) (fun j y v hy hv => by
            cases j with
            | zero => cases hy; cases hv; exact htr.out
            | succ j => simp at hy) (by rw [← hlen.out]; exact o1)
          rw [heq] at hg
          have hl1 : n + 1 = (flatL d (xs.take (k + 1))).length := by rw [← heq, List.length_append, List.length_singleton, ← hlen.out]
          obtain ⟨a, c, e⟩ := hg.slice
          rw [← hl1] at e
          exact ⟨a, c, e, hl1, hg, ⟨o2.os.trans hbr.out.os, o2.tape.trans hbr.out.tape, o2.output.trans hbr.out.output, by omega, fun b hb => (hblk b hb).trans (hbr.out.block b hb)⟩⟩
        obtain ⟨i0, hi, hz0, hz1, hz2⟩ := info_parts Tryz.infoTree
        clear hto hbr hown htr hx5 hxe hA1 hrow1 hle hstp hone hlen hrow
        go_wp2_with (at_builtin; refine wpList_append_own_at _ rfl _ _ 79 rfl w.heap.size 54 i0 .nilIface 1 16 Tryz.underlying79 hi hz0 hz1 hz2 rfl (by decide) _ _ _ rfl HO.out ⟨wr.heap.size + 1, 0, none⟩ 1 1 [.iface 129 (.agg #[.int .i64 n'])] rfl rfl hcn.out ?c2 ?c3 ?c4 ?c5 ?_)
        case c2 => intro y hy; simp at hy; subst hy; rfl
        case c3 => unfold maxLen; omega
        case c4 => omega
        case c5 => simp; omega
        · intro sv' w2 o1 o2 _ o3
          have HH := hide (hstep.out sv' w2 o1 o2)
          clear o1 o2 o3 hstep HO hcn hi hz0 hz1 hz2
          obtain ⟨a2, c2, rfl, hl1, hg2, hb2⟩ := HH.out
          have HL := hide hl1
          have HG := hide hg2
          have HB2 := hide hb2
          clear HH hl1 hg2 hb2
          go_wp2_with fail
          go_roundw
          case rel => exact ⟨k + 1, n + 1, a2, c2, _, by omega, rfl, by go_num, hsm2, HL, HG, HB2⟩
          case measure => simp [intOf]; omega
      · clear hmv
        have a3 := Tryz.asR_S
        have hx5 : Nd.kind x ≠ 5 := by rw [hxe]; show (4 : Int) ≠ 5; omega
        have hone := hide (flat1_one (d := d) hx5)
        have hsm2 : n + 1 ≤ 60 := by
          have h1 := hle.out
          rw [hstp.out, hone.out, List.length_append, List.length_singleton, ← hlen.out] at h1
          omega
        have hA1 := below_alloc1 wr (.cells #[.slice none 0 0] 83)
        have hown := hto.out.1
        rw [← hlen.out] at hown
        have HO := hide ((hown.alloc (.cells #[.slice none 0 0] 83)).alloc (.cells #[.iface 88 (.agg #[.string s'])] 54))
        have hcn : Hid (∀ j v, ([.iface 88 (.agg #[.string s'])] : List Value)[j]? = some v → ((wr.alloc (.cells #[.slice none 0 0] 83)).alloc (.cells #[.iface 88 (.agg #[.string s'])] 54)).cell? ((⟨wr.heap.size + 1, 0, none⟩ : Addr).add j) = some v) := by
          have h := cell_one_new (wr.alloc (.cells #[.slice none 0 0] 83)) (.iface 88 (.agg #[.string s'])) 54
          rw [World.size_alloc] at h
          exact h
        have hrow1 : ∀ g, (Value.slice la n lc).ownBlock = some g → w.heap.size ≤ g := fun g hg => (hown.lt g hg).1
        have hstep : Hid (∀ sv' w2, w2.ownsRow w.heap.size 54 1 sv' (n + 1) (vs' ++ [.iface 88 (.agg #[.string s'])]) → ((wr.alloc (.cells #[.slice none 0 0] 83)).alloc (.cells #[.iface 88 (.agg #[.string s'])] 54)).grownBy w2 (Value.slice la n lc).ownBlock →
            ∃ a c, sv' = .slice a (n + 1) c ∧ n + 1 = (flatL d (xs.take (k + 1))).length ∧ GF S w.heap.size w2 sv' (flatL d (xs.take (k + 1))) (vs' ++ [.iface 88 (.agg #[.string s'])]) ∧ Below w.heap.size w w2) := by
          intro sv' w2 o1 o2
          have hz2 : wr.heap.size + 2 ≤ w2.heap.size := Nat.le_trans (by simp) o2.size
          have hblk : ∀ b, b < w.heap.size → w2.heap[b]? = wr.heap[b]? := fun b hb => ((o2.block b (by simp; omega) (fun c => by have := hrow1 b c.symm; omega)).trans (Below.heap_alloc _ _ _ (by simp; omega))).trans (Below.heap_alloc _ _ _ (by omega))
          have heq : flatL d (xs.take k) ++ [x] = flatL d (xs.take (k + 1)) := by rw [hstp.out, hone.out]
          have hg := hto.out.grow (ys := [x]) (us := [.iface 88 (.agg #[.string s'])]) (fun b hb => hblk b (hSw b hb)) (fun j y v hy hv => by
            cases j with
            | zero => cases hy; cases hv; exact htr.out
            | succ j => simp at hy) (by rw [← hlen.out]; exact o1)
          rw [heq] at hg
          have hl1 : n + 1 = (flatL d (xs.take (k + 1))).length := by rw [← heq, List.length_append, List.length_singleton, ← hlen.out]
          obtain ⟨a, c, e⟩ := hg.slice
          rw [← hl1] at e
          exact ⟨a, c, e, hl1, hg, ⟨o2.os.trans hbr.out.os, o2.tape.trans hbr.out.tape, o2.output.trans hbr.out.output, by omega, fun b hb => (hblk b hb).trans (hbr.out.block b hb)⟩⟩
        obtain ⟨i0, hi, hz0, hz1, hz2⟩ := info_parts Tryz.infoTree
        clear hto hbr hown htr hx5 hxe hA1 hrow1 hle hstp hone hlen hrow
        go_wp2_with (at_builtin; refine wpList_append_own_at _ rfl _ _ 79 rfl w.heap.size 54 i0 .nilIface 1 16 Tryz.underlying79 hi hz0 hz1 hz2 rfl (by decide) _ _ _ rfl HO.out ⟨wr.heap.size + 1, 0, none⟩ 1 1 [.iface 88 (.agg #[.string s'])] rfl rfl hcn.out ?c2 ?c3 ?c4 ?c5 ?_)
        case c2 => intro y hy; simp at hy; subst hy; rfl
        case c3 => unfold maxLen; omega
        case c4 => omega
        case c5 => simp; omega
        · intro sv' w2 o1 o2 _ o3
          have HH := hide (hstep.out sv' w2 o1 o2)
          clear o1 o2 o3 hstep HO hcn hi hz0 hz1 hz2
          obtain ⟨a2, c2, rfl, hl1, hg2, hb2⟩ := HH.out
          have HL := hide hl1
          have HG := hide hg2
          have HB2 := hide hb2
          clear HH hl1 hg2 hb2
          go_wp2_with fail
          go_roundw
          case rel => exact ⟨k + 1, n + 1, a2, c2, _, by omega, rfl, by go_num, hsm2, HL, HG, HB2⟩
          case measure => simp [intOf]; omega
      · have a3 := Tryz.asR_R
        obtain ⟨sa, sc, rfl, _⟩ := hr.open'
        have hone : Hid (flat1 d x = ys.map (up d)) := by
          show flat1 d x = ys.map (up d)
          rw [flat1_row (by rw [hxe]), hxe]
        have hA1 := below_alloc1 wr (.cells #[.slice sa ys.length sc] 83)
        have hSr : Within S wr := hSw.later hsz
        have hrA := (hr.moved (At' := TreeG S (wr.alloc (.cells #[.slice sa ys.length sc] 83)) d) (hSr.same hA1) (fun _ h => h) (fun x u hx => TreeG.moved (hSr.same hA1) (fun _ h => h) d x u hx)).up (At' := TreeG S (wr.alloc (.cells #[.slice sa ys.length sc] 83)) (d + 1)) (up d) (fun y u hy => TreeG.up d y u hy)
        have htoA := hto.out.later hA1 hSr
        have hsm2 : (flatL d (xs.take k)).length + (ys.map (up d)).length ≤ 60 := by
          have h1 := hle.out
          rw [hstp.out, hone.out, List.length_append] at h1
          exact Nat.le_trans h1 hf60
        have hrun := hide (fun ty => run_append_onto_trees htoA hSw (Nat.le_trans hsz hA1.size) (ys.map (up d)) sa sc ys.length ty (by rw [List.length_map]) hrA (by omega))
        have hstep : Hid (∀ ty, ∃ v' w', (Builtin.append_ #[79, 79] ty #[.slice la n lc, .slice sa ys.length sc]).run Tryz.prog (wr.alloc (.cells #[.slice sa ys.length sc] 83)) = .ok v' w' ∧ Hid (∃ n' a c vs', v' = .slice a n' c ∧ n' ≤ 60 ∧ n' = (flatL d (xs.take (k + 1))).length ∧ GF S w.heap.size w' v' (flatL d (xs.take (k + 1))) vs' ∧ Below w.heap.size w w')) := by
          intro ty
          obtain ⟨lv', w2, hr2, ⟨vs2, hv2⟩, hgr, a2, c2, e⟩ := hrun.out ty
          have hrow1 : ∀ g, (Value.slice la n lc).ownBlock = some g → w.heap.size ≤ g := fun g hg => (hto.out.1.lt g hg).1
          have hb3 := below_trans hbr.out hA1
          refine ⟨lv', w2, hr2, _, a2, c2, vs2, e, by omega, ?_, ?_, ?_⟩
          · rw [hstp.out, hone.out, List.length_append]
          · rw [hstp.out, hone.out]; exact hv2
          · exact ⟨hgr.os.trans hb3.os, hgr.tape.trans hb3.tape, hgr.output.trans hb3.output, Nat.le_trans hb3.size hgr.size, fun b hb => (hgr.block b (Nat.lt_of_lt_of_le hb hb3.size) (fun e => by have := hrow1 b e.symm; omega)).trans (hb3.block b hb)⟩
        clear hto hbr hr hrA htoA hsm2 hrun hle hstp hone htr hmv hA1 hlen hrow hSr hxe
        go_wp2_with (at_builtin; refine wpList_append_run (fun v' w' => Hid (∃ n' a c vs', v' = .slice a n' c ∧ n' ≤ 60 ∧ n' = (flatL d (xs.take (k + 1))).length ∧ GF S w.heap.size w' v' (flatL d (xs.take (k + 1))) vs' ∧ Below w.heap.size w w')) rfl _ _ 79 rfl (.slice la n lc) (.slice sa ys.length sc) rfl rfl (hstep.out 79) ?_)
        rintro v' w2 hph
        obtain ⟨n', ⟨a2, c2, rfl⟩, hn', g2, ⟨vs2, g3⟩, g4⟩ := hph.out
        have hl' := hide g2
        have hV := hide g3
        have hB' := hide g4
        clear hph hstep g2 g3 g4
        go_wp2_with fail
        go_roundw
        case rel => exact ⟨k + 1, n', a2, c2, vs2, by omega, rfl, by go_num, hn', hl', hV, hB'⟩
        case measure => simp [intOf]; omega
      · clear hmv he hm hr h4 h3 h2
        have a3 := Tryz.asR_M
        have hx5 : Nd.kind x ≠ 5 := by rw [hxe]; show (6 : Int) ≠ 5; omega
        have hone := hide (flat1_one (d := d) hx5)
        have hsm2 : n + 1 ≤ 60 := by
          have h1 := hle.out
          rw [hstp.out, hone.out, List.length_append, List.length_singleton, ← hlen.out] at h1
          omega
        have hA1 := below_alloc1 wr (.cells #[.slice none 0 0] 83)
        have hown := hto.out.1
        rw [← hlen.out] at hown
        have HO := hide ((hown.alloc (.cells #[.slice none 0 0] 83)).alloc (.cells #[.iface 58 (.agg #[.map (some r)])] 54))
        have hcn : Hid (∀ j v, ([.iface 58 (.agg #[.map (some r)])] : List Value)[j]? = some v → ((wr.alloc (.cells #[.slice none 0 0] 83)).alloc (.cells #[.iface 58 (.agg #[.map (some r)])] 54)).cell? ((⟨wr.heap.size + 1, 0, none⟩ : Addr).add j) = some v) := by
          have h := cell_one_new (wr.alloc (.cells #[.slice none 0 0] 83)) (.iface 58 (.agg #[.map (some r)])) 54
          rw [World.size_alloc] at h
          exact h
        have hrow1 : ∀ g, (Value.slice la n lc).ownBlock = some g → w.heap.size ≤ g := fun g hg => (hown.lt g hg).1
        have hstep : Hid (∀ sv' w2, w2.ownsRow w.heap.size 54 1 sv' (n + 1) (vs' ++ [.iface 58 (.agg #[.map (some r)])]) → ((wr.alloc (.cells #[.slice none 0 0] 83)).alloc (.cells #[.iface 58 (.agg #[.map (some r)])] 54)).grownBy w2 (Value.slice la n lc).ownBlock →
            ∃ a c, sv' = .slice a (n + 1) c ∧ n + 1 = (flatL d (xs.take (k + 1))).length ∧ GF S w.heap.size w2 sv' (flatL d (xs.take (k + 1))) (vs' ++ [.iface 58 (.agg #[.map (some r)])]) ∧ Below w.heap.size w w2) := by
          intro sv' w2 o1 o2
          have hz2 : wr.heap.size + 2 ≤ w2.heap.size := Nat.le_trans (by simp) o2.size
          have hblk : ∀ b, b < w.heap.size → w2.heap[b]? = wr.heap[b]? := fun b hb => ((o2.block b (by simp; omega) (fun c => by have := hrow1 b c.symm; omega)).trans (Below.heap_alloc _ _ _ (by simp; omega))).trans (Below.heap_alloc _ _ _ (by omega))
          have heq : flatL d (xs.take k) ++ [x] = flatL d (xs.take (k + 1)) := by rw [hstp.out, hone.out]
          have hg := hto.out.grow (ys := [x]) (us := [.iface 58 (.agg #[.map (some r)])]) (fun b hb => hblk b (hSw b hb)) (fun j y v hy hv => by
            cases j with
            | zero => cases hy; cases hv; exact htr.out
            | succ j => simp at hy) (by rw [← hlen.out]; exact o1)
          rw [heq] at hg
          have hl1 : n + 1 = (flatL d (xs.take (k + 1))).length := by rw [← heq, List.length_append, List.length_singleton, ← hlen.out]
          obtain ⟨a, c, e⟩ := hg.slice
          rw [← hl1] at e
          exact ⟨a, c, e, hl1, hg, ⟨o2.os.trans hbr.out.os, o2.tape.trans hbr.out.tape, o2.output.trans hbr.out.output, by omega, fun b hb => (hblk b hb).trans (hbr.out.block b hb)⟩⟩
        obtain ⟨i0, hi, hz0, hz1, hz2⟩ := info_parts Tryz.infoTree
        clear hto hbr hown htr hx5 hxe hA1 hrow1 hle hstp hone hlen hrow
        go_wp2_with (at_builtin; refine wpList_append_own_at _ rfl _ _ 79 rfl w.heap.size 54 i0 .nilIface 1 16 Tryz.underlying79 hi hz0 hz1 hz2 rfl (by decide) _ _ _ rfl HO.out ⟨wr.heap.size + 1, 0, none⟩ 1 1 [.iface 58 (.agg #[.map (some r)])] rfl rfl hcn.out ?c2 ?c3 ?c4 ?c5 ?_)
        case c2 => intro y hy; simp at hy; subst hy; rfl
        case c3 => unfold maxLen; omega
        case c4 => omega
        case c5 => simp; omega
        · intro sv' w2 o1 o2 _ o3
          have HH := hide (hstep.out sv' w2 o1 o2)
          clear o1 o2 o3 hstep HO hcn hi hz0 hz1 hz2
          obtain ⟨a2, c2, rfl, hl1, hg2, hb2⟩ := HH.out
          have HL := hide hl1
          have HG := hide hg2
          have HB2 := hide hb2
          clear HH hl1 hg2 hb2
          go_wp2_with fail
          go_roundw
          case rel => exact ⟨k + 1, n + 1, a2, c2, _, by omega, rfl, by go_num, hsm2, HL, HG, HB2⟩
          case measure => simp [intOf]; omega
    · obtain rfl : k = xs.length := by omega
      have hall : xs.take xs.length = xs := List.take_of_length_le (Nat.le_refl _)
      have hto' := hto.out
      rw [hall] at hto'
      have HG : Hid (TreeG (fun b => N ≤ b ∧ b < wr.heap.size) wr (d + 2) (rowT (d + 1) (flatL d xs)) (.iface 83 (.agg #[.slice la n lc]))) := hto'.tree (by omega) hN (fun b hb => ⟨hSN b hb, Nat.lt_of_lt_of_le (hSw b hb) hsz⟩)
      have HB : Hid (Below N w wr) := hbr.out.mono hN
      clear hto hto' hall hlen hbr hrow0
      go_wp2_with fail
      go_ret2
      exact ⟨HB.out, Or.inl ⟨_, _, rfl, rfl, HG.out⟩⟩

set_option maxRecDepth 100000 in
set_option maxHeartbeats 2000000 in
theorem implRowFlat_any (d : Nat) (S : Nat → Prop) (t : Tr (d + 1 + 1)) (v : Value) (w : World) (hv : ValAt S w (d + 1 + 1) t v) (hS : Within S w) (hg : ErrType w) :
    Calls Tryz.prog 15 #[v] w (TellQ (d + 1) (rowTell (flatF d) t).1 (rowTell (flatF d) t).2 w) := by
  obtain ⟨k, n, s, ak, lk, ck, al, ll, cl, rfl⟩ := hv.shape
  obtain ⟨W0, hW⟩ : ∃ W0, W0 = (w.alloc (.cells #[.int .i64 k, .int .i64 n, .string s, .slice ak lk ck, .slice al ll cl] 29)).alloc (.cells #[.int .i64 0, .int .i64 0, .string { data := #[] }, .slice none 0 0, .slice none 0 0] 29) := ⟨_, rfl⟩
  have hW0 : Below w.heap.size w W0 := by rw [hW]; exact below_trans (below_alloc1 _ _) (below_alloc1 _ _)
  have k1 : Blk5 W0 (w.heap.size + 1) 29 (.int .i64 0) (.int .i64 0) (.string { data := #[] }) (.slice none 0 0) (.slice none 0 0) := by
    have := Blk5.new (w.alloc (.cells #[.int .i64 k, .int .i64 n, .string s, .slice ak lk ck, .slice al ll cl] 29)) 29 (.int .i64 0) (.int .i64 0) (.string { data := #[] }) (.slice none 0 0) (.slice none 0 0)
    rw [World.size_alloc] at this
    rw [hW]
    exact this
  have hcall := hide (ofRow_flatRow (d + 1) (d + 1) S t _ (flatF d) W0 (hv.same (hS.same hW0)) (hS.later hW0.size) (hg.below hW0) (fun N xs a cap vs w1 hrow hto _ hN _ => flatRow_any d N xs a cap vs w1 hto hN (by obtain ⟨hok, _, rfl⟩ := treesL_some hrow; exact (okT_kinds hok).2.1) (by obtain ⟨hok, _, rfl⟩ := treesL_some hrow; exact flat_len hok)))
  have HW := hide hW
  have hlt := k1.lt
  clear hW hv
  go_enter Tryz.func15, Tryz.ntmps15
  go_wp2_with fail
  rw [← HW.out]
  clear HW
  refine Calls.mono hcall.out ?_
  rintro e w1 ⟨r, rfl, hr, hb1⟩
  obtain ⟨v0, v1, v2, v3, v4, v5, v6, v7, v8, rfl⟩ := (ValOwn.at _ _ _ _ hr).shape
  have HF := hide (tell_end hr (below_trans hW0 hb1) (by omega) hlt)
  have k3 := k1.below hb1
  obtain ⟨y0, y1, y2, y3, y4⟩ := k3.cell
  have yf := k3.frozen
  clear hr hb1 k3 k1 hcall hW0
  go_wp2_with fail
  refine bodyPost_ret (v := .tuple #[.agg #[.int .i64 v0, .int .i64 v1, .string v2, .slice v3 v4 v5, .slice v6 v7 v8], .bool (rowTell (flatF d) t).2]) (by simp [results, Tryz.results15, go_sem, y0, y1, y2, y3, y4]) rfl ⟨_, rfl, (HF.out _ rfl).1, (HF.out _ rfl).2⟩
end Go.Proofs.YtmkoeomkbbmoaaaGreatDoor
