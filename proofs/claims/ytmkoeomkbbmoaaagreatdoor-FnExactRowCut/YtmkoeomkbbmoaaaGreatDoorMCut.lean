/- A row of the model's that is being made out of trees that lie elsewhere; what is told, in the result's own cells. -/
import Derived.Test.YtmkoeomkbbmoaaaGreatDoorWGTo
import Derived.Test.YtmkoeomkbbmoaaaGreatDoorWCopy
import Derived.Test.YtmkoeomkbbmoaaaGreatDoorWAssert
import Derived.Test.YtmkoeomkbbmoaaaGreatDoorWTo
import Derived.Test.YtmkoeomkbbmoaaaGreatDoorWTold
import Derived.Test.YtmkoeomkbbmoaaaGreatDoorWTop
namespace Go.Proofs.YtmkoeomkbbmoaaaGreatDoor
open Go.RowKit Go.Deep

theorem nodes_wt : ∀ (d : Nat) (t : Tr d), nodes d t ≤ wtT d t
  | 0, t => Empty.elim t
  | d + 1, t => by
    have h : ∀ xs : List (Tr d), (xs.map (nodes d)).sum ≤ (xs.map (wtT d)).sum := by
      intro xs
      induction xs with
      | nil => exact Nat.le_refl _
      | cons x r ih =>
        have := nodes_wt d x
        simp only [List.map_cons, List.sum_cons]
        omega
    have := h (Nd.list t)
    rw [nodes, wtT]
    omega
theorem nodes_ok {d : Nat} {t : Tr d} (h : okT d t = true) : nodes d t ≤ 300 := Nat.le_trans (nodes_wt d t) (wtT_ok h)
theorem sum_le_of {α : Type} {f : α → Nat} {c : Nat} : ∀ {xs : List α}, (∀ x ∈ xs, f x ≤ c) → (xs.map f).sum ≤ c * xs.length
  | [], _ => by simp
  | x :: r, h => by
    have h1 := h x (by simp)
    have h2 := sum_le_of (xs := r) (fun y hy => h y (by simp [hy]))
    simp only [List.map_cons, List.sum_cons, List.length_cons]
    rw [Nat.mul_succ]
    omega
/-- A row of the model's that owns its cells; its trees lie in blocks of S. -/
def VTo {d : Nat} (S : Nat → Prop) (N : Nat) (w : World) (lv : Value) (xs : List (Tr d)) (vs : List Value) : Prop :=
  w.ownsRow N 29 5 lv xs.length vs ∧ ∀ (j : Nat) (x : Tr d), xs[j]? = some x → ∃ c0 c1 c2 c3 c4, vs[j * 5]? = some c0 ∧ vs[j * 5 + 1]? = some c1 ∧ vs[j * 5 + 2]? = some c2 ∧ vs[j * 5 + 3]? = some c3 ∧ vs[j * 5 + 4]? = some c4 ∧ ValAt S w d x (.agg #[c0, c1, c2, c3, c4])

theorem VTo.grow {d N : Nat} {S : Nat → Prop} {wr w2 : World} {lv lv' : Value} {xs : List (Tr d)} {vs : List Value} {x : Tr d} {v0 v1 v2 v3 v4 : Value} (h : VTo S N wr lv xs vs) (hs : Same S wr w2) (hx : ValAt S wr d x (.agg #[v0, v1, v2, v3, v4])) (hown : w2.ownsRow N 29 5 lv' (xs.length + 1) (vs ++ [v0, v1, v2, v3, v4])) : VTo S N w2 lv' (xs ++ [x]) (vs ++ [v0, v1, v2, v3, v4]) := by
  obtain ⟨h1, h2⟩ := h
  have hlen : vs.length = xs.length * 5 := h1.1
  refine ⟨by rw [List.length_append]; exact hown, fun j y hy => ?_⟩
  by_cases e : j < xs.length
  · rw [List.getElem?_append_left e] at hy
    obtain ⟨c0, c1, c2, c3, c4, e0, e1, e2, e3, e4, hv⟩ := h2 j y hy
    refine ⟨c0, c1, c2, c3, c4, ?_, ?_, ?_, ?_, ?_, hv.same hs⟩
    · rw [List.getElem?_append_left (by omega)]; exact e0
    · rw [List.getElem?_append_left (by omega)]; exact e1
    · rw [List.getElem?_append_left (by omega)]; exact e2
    · rw [List.getElem?_append_left (by omega)]; exact e3
    · rw [List.getElem?_append_left (by omega)]; exact e4
  · have hj : j = xs.length := by
      have := (List.getElem?_eq_some_iff.1 hy).1
      rw [List.length_append, List.length_singleton] at this
      omega
    subst hj
    rw [List.getElem?_append_right (Nat.le_refl _), Nat.sub_self] at hy
    cases hy
    refine ⟨v0, v1, v2, v3, v4, ?_, ?_, ?_, ?_, ?_, hx.same hs⟩
    · rw [List.getElem?_append_right (by omega), hlen]; simp
    · rw [List.getElem?_append_right (by omega), hlen]; simp
    · rw [List.getElem?_append_right (by omega), hlen]; simp
    · rw [List.getElem?_append_right (by omega), hlen]; simp
    · rw [List.getElem?_append_right (by omega), hlen]; simp

theorem VTo.moved {d N : Nat} {S : Nat → Prop} {w w' : World} {lv : Value} {xs : List (Tr d)} {vs : List Value} (h : VTo S N w lv xs vs) (hs : Same S w w') (ho : ∀ g, lv.ownBlock = some g → w'.heap[g]? = w.heap[g]?) : VTo S N w' lv xs vs := by
  obtain ⟨h1, h2⟩ := h
  refine ⟨⟨h1.1, ?_⟩, fun j x hx => ?_⟩
  · rcases h1.2 with h | ⟨g, cap, cur, hv, hg, hh, hrest⟩
    · exact Or.inl h
    · exact Or.inr ⟨g, cap, cur, hv, hg, (ho g (by rw [hv]; rfl)).trans hh, hrest⟩
  · obtain ⟨c0, c1, c2, c3, c4, e0, e1, e2, e3, e4, hv⟩ := h2 j x hx
    exact ⟨c0, c1, c2, c3, c4, e0, e1, e2, e3, e4, hv.same hs⟩

/-- The row, where it lies. -/
theorem VTo.at {d N : Nat} {S : Nat → Prop} {w : World} {lv : Value} {xs : List (Tr d)} {vs : List Value} (h : VTo S N w lv xs vs) (hl : xs.length < 3518437208883) : RowAt (fun b => S b ∨ (N ≤ b ∧ b < w.heap.size)) w (ValAt (fun b => S b ∨ (N ≤ b ∧ b < w.heap.size)) w d) lv xs := by
  obtain ⟨h1, h2⟩ := h
  refine ⟨hl, ?_⟩
  rcases h1.2 with ⟨rfl, h0⟩ | ⟨g, cap, cur, rfl, hg, hh, hnc, _, hcs, htake⟩
  · exact ⟨none, 0, by rw [h0], Or.inl (List.eq_nil_of_length_eq_zero h0)⟩
  · refine ⟨some ⟨g, 0, none⟩, cap, rfl, Or.inr ⟨g, 0, Or.inr ⟨hg, (Array.getElem?_eq_some_iff.1 hh).1⟩, rfl, fun i x hx => ?_⟩⟩
    obtain ⟨c0, c1, c2, c3, c4, e0, e1, e2, e3, e4, hv⟩ := h2 i x hx
    have hi := (List.getElem?_eq_some_iff.1 hx).1
    have hc : ∀ j c, j < xs.length * 5 → vs[j]? = some c → w.cell? ⟨g, 0 + j, none⟩ = some c := fun j c hj hc => by
      rw [Nat.zero_add]
      exact (h1.cellAt j hj).trans hc
    refine ⟨c0, c1, c2, c3, c4, hc _ _ (by omega) e0, hc _ _ (by omega) e1, hc _ _ (by omega) e2, hc _ _ (by omega) e3, hc _ _ (by omega) e4, hv.mono (fun b hb => Or.inl hb)⟩

/-- Another tree at a place. -/
theorem VTo.put {d N g n cap k : Nat} {S : Nat → Prop} {w : World} {xs : List (Tr d)} {vs : List Value} {x : Tr d} {v0 v1 v2 v3 v4 : Value} (h : VTo S N w (.slice (some ⟨g, 0, none⟩) n cap) xs vs) (hn : n = xs.length) (hk : k < xs.length) (hx : ValAt S w d x (.agg #[v0, v1, v2, v3, v4])) (hS : ∀ b, S b → b < N) :
    (∃ vs', VTo S N (set5 w g (k * 5) v0 v1 v2 v3 v4) (.slice (some ⟨g, 0, none⟩) n cap) (xs.set k x) vs') ∧ Below N w (set5 w g (k * 5) v0 v1 v2 v3 v4) := by
  subst hn
  obtain ⟨h1, h2⟩ := h
  have hlen : vs.length = xs.length * 5 := h1.1
  have hgN := (h1.lt g rfl).1
  have hB : Below N w (set5 w g (k * 5) v0 v1 v2 v3 v4) := below_set5 (Below.refl _ _) hgN _ _ _ _ _ _
  have hsame : Same S w (set5 w g (k * 5) v0 v1 v2 v3 v4) := fun b hb => hB.block b (hS b hb)
  have ho := (((((h1.stored (k * 5) v0).1.stored (k * 5 + 1) v1).1.stored (k * 5 + 2) v2).1.stored (k * 5 + 3) v3).1.stored (k * 5 + 4) v4).1
  refine ⟨⟨_, by rw [List.length_set]; exact ho, fun j y hy => ?_⟩, hB⟩
  by_cases e : k = j
  · subst e
    rw [List.getElem?_set_self hk] at hy
    cases hy
    refine ⟨v0, v1, v2, v3, v4, ?_, ?_, ?_, ?_, ?_, hx.same hsame⟩
    all_goals simp [List.getElem?_set, hlen]
    all_goals omega
  · rw [List.getElem?_set_ne e] at hy
    obtain ⟨c0, c1, c2, c3, c4, e0, e1, e2, e3, e4, hv⟩ := h2 j y hy
    refine ⟨c0, c1, c2, c3, c4, ?_, ?_, ?_, ?_, ?_, hv.same hsame⟩
    · rw [List.getElem?_set_ne (by omega), List.getElem?_set_ne (by omega), List.getElem?_set_ne (by omega), List.getElem?_set_ne (by omega), List.getElem?_set_ne (by omega)]; exact e0
    · rw [List.getElem?_set_ne (by omega), List.getElem?_set_ne (by omega), List.getElem?_set_ne (by omega), List.getElem?_set_ne (by omega), List.getElem?_set_ne (by omega)]; exact e1
    · rw [List.getElem?_set_ne (by omega), List.getElem?_set_ne (by omega), List.getElem?_set_ne (by omega), List.getElem?_set_ne (by omega), List.getElem?_set_ne (by omega)]; exact e2
    · rw [List.getElem?_set_ne (by omega), List.getElem?_set_ne (by omega), List.getElem?_set_ne (by omega), List.getElem?_set_ne (by omega), List.getElem?_set_ne (by omega)]; exact e3
    · rw [List.getElem?_set_ne (by omega), List.getElem?_set_ne (by omega), List.getElem?_set_ne (by omega), List.getElem?_set_ne (by omega), List.getElem?_set_ne (by omega)]; exact e4
/-- What was told is put into the result's own cells. -/
theorem tell_endA {d : Nat} {t : Tr (d + 1)} {w w1 w2 : World} {v0 v1 : Int} {v2 : ByteArray} {v3 v6 : Option Addr} {v4 v5 v7 v8 rb : Nat} (hv : ValAt (Fresh w1 w2) w2 (d + 1) t (.agg #[.int .i64 v0, .int .i64 v1, .string v2, .slice v3 v4 v5, .slice v6 v7 v8])) (hb : Below w.heap.size w w2)
    (hr : w.heap.size ≤ rb) (hr1 : rb < w1.heap.size) :
    ∀ wF, wF = set5 w2 rb 0 (.int .i64 v0) (.int .i64 v1) (.string v2) (.slice v3 v4 v5) (.slice v6 v7 v8) → ValAt (Fresh w wF) wF (d + 1) t (.agg #[.int .i64 v0, .int .i64 v1, .string v2, .slice v3 v4 v5, .slice v6 v7 v8]) ∧ Below w.heap.size w wF := by
  intro wF hF
  have hzF : wF.heap.size = w2.heap.size := by rw [hF, set5_size]
  refine ⟨ValAt.moved (fun b hb => ?_) (fun b hb => ⟨by have := hb.1; omega, by have := hb.2; omega⟩) (d + 1) t _ hv, ?_⟩
  · rw [hF, set5_block _ _ _ _ _ _ _ _ _ (by have := hb.1; omega)]
  · rw [hF]
    exact below_set5 hb hr _ _ _ _ _ _

end Go.Proofs.YtmkoeomkbbmoaaaGreatDoor

/- treesInRow: the trees of a row, in memory of their own. -/
namespace Go.Proofs.YtmkoeomkbbmoaaaGreatDoor
open Go.RowKit Go.Deep

/-- The trees of a row that is ok. -/
def treesL (d : Nat) (t : Tr (d + 1)) : Option (List (Tr d)) := if okT (d + 1) t = true then (if Nd.kind t = 5 then some (Nd.list t) else none) else none
theorem treesL_ok {d : Nat} {t : Tr (d + 1)} (h : okT (d + 1) t = true) : treesL d t = (if Nd.kind t = 5 then some (Nd.list t) else none) := if_pos h
theorem treesL_some {d : Nat} {t : Tr (d + 1)} {xs : List (Tr d)} (h : treesL d t = some xs) : okT (d + 1) t = true ∧ Nd.kind t = 5 ∧ Nd.list t = xs := by
  unfold treesL at h
  split at h
  · split at h
    · exact ⟨‹_›, ‹_›, by cases h; rfl⟩
    · cases h
  · cases h

/-- What treesInRow is asked to give. -/
def TreesOQ (d : Nat) (t : Tr (d + 1)) (w : World) (e : Ending) (w' : World) : Prop :=
  Below w.heap.size w w' ∧ ((∃ xs a cap vs, treesL d t = some xs ∧ e = .returned (.tuple #[.slice a xs.length cap, .nilIface]) ∧ GTo w.heap.size w' (.slice a xs.length cap) xs vs) ∨ (treesL d t = none ∧ ∃ why, e = .returned (.tuple #[.slice none 0 0, faultV why])))

set_option maxRecDepth 100000 in
set_option maxHeartbeats 4000000 in
theorem treesInRow_own (d : Nat) (S : Nat → Prop) (t : Tr (d + 1)) (v : Value) (w : World) (hv : ValAt S w (d + 1) t v) (hS : Within S w) :
    Calls Tryz.prog 54 #[v] w (TreesOQ d t w) := by
  obtain ⟨k, n, s, ak, lk, ck, al, ll, cl, rfl⟩ := hv.shape
  have hA := below_alloc1 w (.cells #[.int .i64 k, .int .i64 n, .string s, .slice ak lk ck, .slice al ll cl] 29)
  have hAs := hA.size
  go_enter Tryz.func54, Tryz.ntmps54
  go_wp2_with fail
  refine (given_own d S t _ _ (hv.same (hS.same hA)) (hS.later hA.size)).mono ?_
  rintro e w1 ⟨hb1, hq⟩
  have hB := below_trans hA hb1
  clear hb1 hA hv
  rcases hq with ⟨hok, u, rfl, hu, htop⟩ | ⟨hok, why, rfl⟩
  · rcases hu with ⟨k', h1, rfl, rfl⟩ | ⟨n', h1, rfl, rfl⟩ | ⟨s', h1, rfl, rfl⟩ | ⟨xs, sv, h1, rfl, rfl, hr⟩ | ⟨keys, xs, ps, r, es, h1, h2, h3, h4, rfl, rfl, hr, hm, he⟩
    · have a3 := Tryz.asR_B
      have hq : Hid (treesL d (Nd.mk k' 0 ByteArray.empty [] [] : Nd (Tr d)) = none) := by
        refine (treesL_ok hok).trans ?_
        show (if k' = 5 then _ else _) = _
        rw [if_neg (by omega)]
      have HB := hide hB
      clear hB htop
      go_wp2_with fail
      go_ret2
      exact ⟨below_trans HB.out (below_alloc1 _ _), Or.inr ⟨hq.out, _, rfl⟩⟩
    · have a3 := Tryz.asR_N
      have hq : Hid (treesL d (Nd.mk 3 n' ByteArray.empty [] [] : Nd (Tr d)) = none) := by
        exact (treesL_ok hok).trans rfl
      have HB := hide hB
      clear hB htop
      go_wp2_with fail
      go_ret2
      exact ⟨below_trans HB.out (below_alloc1 _ _), Or.inr ⟨hq.out, _, rfl⟩⟩
    · have a3 := Tryz.asR_S
      have hq : Hid (treesL d (Nd.mk 4 0 s' [] [] : Nd (Tr d)) = none) := by
        exact (treesL_ok hok).trans rfl
      have HB := hide hB
      clear hB htop
      go_wp2_with fail
      go_ret2
      exact ⟨below_trans HB.out (below_alloc1 _ _), Or.inr ⟨hq.out, _, rfl⟩⟩
    · have a3 := Tryz.asR_R
      obtain ⟨sa, sc, rfl, _⟩ := hr.open'
      have hq : Hid (treesL d (Nd.mk 5 0 ByteArray.empty [] xs : Nd (Tr d)) = some xs) := by
        exact (treesL_ok hok).trans rfl
      have hA2 := below_alloc1 w1 (.cells #[.slice sa xs.length sc] 83)
      have HB2 := hide (below_trans hB hA2)
      have hsz := hA2.size
      have HR : Hid (∃ vs, GTo w.heap.size (w1.alloc (.cells #[.slice sa xs.length sc] 83)) (.slice sa xs.length sc) xs vs) := by
        obtain ⟨sv', vs, he, hto⟩ := htop.1 rfl
        cases he
        exact ⟨vs, (gto_of (hto.moved hA2 (by omega)) (okT_row hok))⟩
      clear hB hA2 hr htop
      go_wp2_with fail
      go_ret2
      obtain ⟨vs, hvs⟩ := HR.out
      exact ⟨HB2.out, Or.inl ⟨xs, sa, sc, vs, hq.out, rfl, hvs⟩⟩
    · have a3 := Tryz.asR_M
      have hq : Hid (treesL d (Nd.mk 6 0 ByteArray.empty keys xs : Nd (Tr d)) = none) := by
        exact (treesL_ok hok).trans rfl
      have HB := hide hB
      clear hB htop he hm hr h4 h3 h2
      go_wp2_with fail
      go_ret2
      exact ⟨below_trans HB.out (below_alloc1 _ _), Or.inr ⟨hq.out, _, rfl⟩⟩
  · unfold faultV
    go_wp2_with fail
    go_ret2
    refine ⟨hB, Or.inr ⟨?_, why, rfl⟩⟩
    rw [treesL, if_neg (by rw [hok]; simp)]

end Go.Proofs.YtmkoeomkbbmoaaaGreatDoor

/- Rows of trees: what is told of the trees of a row. -/
namespace Go.Proofs.YtmkoeomkbbmoaaaGreatDoor
open Go.RowKit Go.Deep

/-- What is told of a row, f being what is told of its trees. -/
def rowTell {d e : Nat} (f : List (Tr d) → Option (Tr (e + 1))) (t : Tr (d + 1)) : Tr (e + 1) × Bool :=
  match treesL d t with
  | none => (zeroT e, false)
  | some xs =>
    match f xs with
    | none => (zeroT e, false)
    | some x => (toldT e x, okT (e + 1) x)
theorem okT_rowTell {d e : Nat} (f : List (Tr d) → Option (Tr (e + 1))) (t : Tr (d + 1)) : okT (e + 1) (rowTell f t).1 = true := by
  unfold rowTell
  split
  · exact okT_zero _
  · split
    · exact okT_zero _
    · exact okT_told _ _
theorem rowTell_none {d e : Nat} {f : List (Tr d) → Option (Tr (e + 1))} {t : Tr (d + 1)} (h : treesL d t = none) : rowTell f t = (zeroT e, false) := by
  unfold rowTell
  rw [h]
theorem rowTell_fault {d e : Nat} {f : List (Tr d) → Option (Tr (e + 1))} {t : Tr (d + 1)} {xs : List (Tr d)} (h : treesL d t = some xs) (hf : f xs = none) : rowTell f t = (zeroT e, false) := by
  unfold rowTell
  rw [h]
  show (match f xs with | none => _ | some x => _) = _
  rw [hf]
theorem rowTell_some {d e : Nat} {f : List (Tr d) → Option (Tr (e + 1))} {t : Tr (d + 1)} {xs : List (Tr d)} {x : Tr (e + 1)} (h : treesL d t = some xs) (hf : f xs = some x) : rowTell f t = (toldT e x, okT (e + 1) x) := by
  unfold rowTell
  rw [h]
  show (match f xs with | none => _ | some x => _) = _
  rw [hf]
/-- Rows of trees that are ok are small. -/
theorem nodes_row {d : Nat} {xs : List (Tr d)} (hxs : ∀ x ∈ xs, okT d x = true) (hl : xs.length ≤ 10000) : (nodes (d + 1) (rowT d xs) : Int) ≤ 4194304 := by
  have h1 : (xs.map (nodes d)).sum ≤ 300 * xs.length := sum_le_of (fun x hx => nodes_ok (hxs x hx))
  have h2 : nodes (d + 1) (rowT d xs) = 1 + (xs.map (nodes d)).sum := rfl
  rw [h2]
  omega
/-- What a function that tells of the trees of a row is asked to give. -/
def TellF (e N : Nat) (r : Option (Tr (e + 1))) (w : World) (en : Ending) (w' : World) : Prop :=
  Below N w w' ∧ ((∃ x u, r = some x ∧ en = .returned (.tuple #[u, .nilIface]) ∧ TreeG (fun b => N ≤ b ∧ b < w'.heap.size) w' (e + 1) x u) ∨ (r = none ∧ ∃ why, en = .returned (.tuple #[.nilIface, faultV why])))

end Go.Proofs.YtmkoeomkbbmoaaaGreatDoor

/- l2Told of the model: a tree in new memory, if it is right. -/
namespace Go.Proofs.YtmkoeomkbbmoaaaGreatDoor
open Go.RowKit Go.Deep

set_option maxRecDepth 100000 in
set_option maxHeartbeats 4000000 in
theorem l2Told_any (d : Nat) (S : Nat → Prop) (t : Tr (d + 1)) (v : Value) (w : World) (hv : ValAt S w (d + 1) t v) (hS : Within S w) (hsm : (nodes (d + 1) t : Int) ≤ 4194304) :
    Calls Tryz.prog 24 #[v] w (SpecQ d (toldT d t) (okT (d + 1) t) w) := by
  have hv0 := hv
  obtain ⟨k, n, s, ak, lk, ck, al, ll, cl, rfl⟩ := hv.shape
  obtain ⟨W0, hW⟩ : ∃ W0, W0 = (w.alloc (.cells #[.int .i64 k, .int .i64 n, .string s, .slice ak lk ck, .slice al ll cl] 29)).alloc (.cells #[.int .i64 0, .int .i64 0, .string { data := #[] }, .slice none 0 0, .slice none 0 0] 29) := ⟨_, rfl⟩
  have hW0 : Below w.heap.size w W0 := by rw [hW]; exact below_trans (below_alloc1 _ _) (below_alloc1 _ _)
  have k0 : Blk5 W0 w.heap.size 29 (.int .i64 k) (.int .i64 n) (.string s) (.slice ak lk ck) (.slice al ll cl) := by
    rw [hW]; exact (Blk5.new w 29 _ _ _ _ _).alloc _
  have k1 : Blk5 W0 (w.heap.size + 1) 29 (.int .i64 0) (.int .i64 0) (.string { data := #[] }) (.slice none 0 0) (.slice none 0 0) := by
    have := Blk5.new (w.alloc (.cells #[.int .i64 k, .int .i64 n, .string s, .slice ak lk ck, .slice al ll cl] 29)) 29 (.int .i64 0) (.int .i64 0) (.string { data := #[] }) (.slice none 0 0) (.slice none 0 0)
    rw [World.size_alloc] at this
    rw [hW]
    exact this
  have HW := hide hW
  clear hW hv
  go_enter Tryz.func24, Tryz.ntmps24
  go_wp2_with fail
  rw [← HW.out]
  clear HW
  refine (specValOk_any (d + 1) S t _ W0 (hv0.same (hS.same hW0)) (hS.later hW0.size) hsm).mono ?_
  rintro e w1 ⟨rfl, hb1⟩
  replace k0 := k0.below hb1
  replace k1 := k1.below hb1
  have hB1 := below_trans hW0 hb1
  obtain ⟨x0, x1, x2, x3, x4⟩ := k0.cell
  have hlt := k1.lt
  clear hb1 hW0
  cases hf : okT (d + 1) t with
  | false =>
    have hz : Hid (toldT d t = zeroT d) := by
      show toldT d t = _
      rw [toldT, hf]
      rfl
    have hno : Hid (∀ wF, wF = set5 w1 (w.heap.size + 1) 0 (.int .i64 0) (.int .i64 0) (.string { data := #[] }) (.slice none 0 0) (.slice none 0 0) → Below w.heap.size w wF) := by
      intro wF hF
      rw [hF]
      exact below_set5 hB1 (by omega) _ _ _ _ _ _
    obtain ⟨y0, y1, y2, y3, y4⟩ := k1.cell
    have yf := k1.frozen
    clear k0 k1 hB1 hv0
    go_wp2_with fail
    rw [hz.out, hf]
    refine bodyPost_ret (v := .tuple #[zeroVal, .bool false]) (by simp [results, Tryz.results24, go_sem, zeroVal, y0, y1, y2, y3, y4]; rfl) rfl ⟨_, rfl, zeroAt d _ _, hno.out _ rfl⟩
  | true =>
    have hz : Hid (toldT d t = t) := by
      show toldT d t = _
      rw [toldT, hf]
      rfl
    have hwt := wtT_ok hf
    go_wp2_with fail
    refine (l1Copy_any (d + 1) S t _ w1 (hv0.same (hS.same hB1)) (hS.later hB1.size) (by omega)).mono ?_
    rintro e w3 ⟨u, rfl, hu3, hb3⟩
    obtain ⟨u0, u1, u2, u3, u4, u5, u6, u7, u8, rfl⟩ := (ValOwn.at _ _ _ _ hu3).shape
    have HF := hide (tell_end hu3 (below_trans hB1 hb3) (by omega) hlt)
    have k3 := k1.below hb3
    clear hu3 hb3 k1 k0 hv0 x0 x1 x2 x3 x4
    obtain ⟨y0, y1, y2, y3, y4⟩ := k3.cell
    have yf := k3.frozen
    clear k3
    go_wp2_with fail
    rw [hz.out, hf]
    refine bodyPost_ret (v := .tuple #[.agg #[.int .i64 u0, .int .i64 u1, .string u2, .slice u3 u4 u5, .slice u6 u7 u8], .bool true]) (by simp [results, Tryz.results24, go_sem, y0, y1, y2, y3, y4]) rfl ⟨_, rfl, ValOwn.at _ _ _ _ (HF.out _ rfl).1, (HF.out _ rfl).2⟩
end Go.Proofs.YtmkoeomkbbmoaaaGreatDoor

/- append of trees onto a row of nothing. -/
namespace Go.Proofs.YtmkoeomkbbmoaaaGreatDoor
open Go.RowKit Go.Deep

/-- An append, as one step of a region in its order. -/
theorem wpList_append_run {P : Program} {ops : Array Oper} {rest : List Oper} {o : Oper} {a : Act} {w : World} {Q : Exit → Act → World → Prop} (Φ : Value → World → Prop) (hgd : o.guard = none) (s x : Operand) (t : TypeId)
    (ho : o.op = .call { callee := .builtin .append, args := #[s, x], argTypes := #[t, t] }) (vs vx : Value) (hs : a.eval s = vs) (hx : a.eval x = vx)
    (hrun : ∃ v' w', (Builtin.append_ #[t, t] o.type #[vs, vx]).run P w = .ok v' w' ∧ Φ v' w') (h : ∀ v' w', Φ v' w' → wpList P ops Q rest (a.put o.dst v') w') :
    wpList P ops Q (o :: rest) a w := by
  refine wpList_plain hgd fun K hK => ?_
  obtain ⟨v', w', hr, h2⟩ := hrun
  unfold Oper.wp execOp
  simp only [ho, resolve, invoke, builtin, Sem.run_bind, Sem.run_pure, Result.andThen_ok, List.map_toArray, List.map_cons, List.map_nil, hs, hx, hr]
  exact hK _ _ (h v' w' h2)

theorem Tryz.infoV2 : (Tryz.prog.info? 29).map (fun i => (i.zero, i.size, i.bytes)) = some (some zeroVal, 5, 80) := by kernel_rfl

/-- Trees, copied behind nothing: the cells alone. -/
theorem run_append_vals {d : Nat} (S : Nat → Prop) (xs : List (Tr d)) (al : Option Addr) (cl g : Nat) (ty : TypeId) (w : World) (hg : w.heap[g]? = some (.cells #[] 29 (0, 0))) (hv : RowAt S w (ValAt S w d) (.slice al xs.length cl) xs) (hSg : ¬ S g) (hS : Within S w) (hsm : xs.length ≤ 4194304) :
    ∃ v' w', (Builtin.append_ #[27, 27] ty #[.slice (some ⟨g, 0, none⟩) 0 0, .slice al xs.length cl]).run Tryz.prog w = .ok v' w' ∧
      ((∃ vs, VTo S g w' v' xs vs) ∧ w.grownBy w' (some g) ∧ ∃ a c, v' = .slice a xs.length c) := by
  obtain ⟨i0, hi, hz0, hz1, hz2⟩ := info_parts Tryz.infoV2
  have hgl := (Array.getElem?_eq_some_iff.1 hg).1
  have hu : Tryz.prog.underlying 27 = some (.slice 29) := Tryz.underlying27
  have hown : w.ownsRow g 29 5 (.slice (some ⟨g, 0, none⟩) 0 0) 0 [] := ⟨by simp, .inr ⟨g, 0, #[], rfl, Nat.le_refl _, hg, Nat.le_refl _, Nat.zero_le _, by simp, by simp⟩⟩
  by_cases h0 : xs = []
  · subst h0
    refine ⟨.slice (some ⟨g, 0, none⟩) 0 0, w, ?_, ⟨[], hown, fun j x h => by simp at h⟩, ⟨rfl, rfl, rfl, Nat.le_refl _, fun _ _ _ => rfl⟩, _, _, rfl⟩
    cases al with
    | none => simp [Builtin.append_, run_underlying hu, sizeOf, typeInfo, hi, Builtin.lenOf, Builtin.firstCells, loadCells, loadCellsFrom, storeCells, Result.andThen, hz1]
    | some a => simp [Builtin.append_, run_underlying hu, sizeOf, typeInfo, hi, Builtin.lenOf, Builtin.firstCells, loadCells, loadCellsFrom, storeCells, Result.andThen, hz1]
  · have hpos : 0 < xs.length := List.length_pos_iff.2 h0
    obtain ⟨b, o, _, _, _, _, _, _, rfl, hbS, _⟩ := hv.cell hpos
    have hcell : ∀ i x, xs[i]? = some x → ∃ c0 c1 c2 c3 c4, w.cell? ⟨b, o + i * 5, none⟩ = some c0 ∧ w.cell? ⟨b, o + i * 5 + 1, none⟩ = some c1 ∧ w.cell? ⟨b, o + i * 5 + 2, none⟩ = some c2 ∧ w.cell? ⟨b, o + i * 5 + 3, none⟩ = some c3 ∧ w.cell? ⟨b, o + i * 5 + 4, none⟩ = some c4 ∧ ValAt S w d x (.agg #[c0, c1, c2, c3, c4]) := by
      intro i x hx
      obtain ⟨b', o', x', c0, c1, c2, c3, c4, e', _, hx', e0, e1, e2, e3, e4, hval⟩ := hv.cell (List.getElem?_eq_some_iff.1 hx).1
      cases e'
      rw [hx] at hx'
      cases hx'
      exact ⟨c0, c1, c2, c3, c4, e0, e1, e2, e3, e4, hval⟩
    obtain ⟨news, hnl, hnews⟩ : ∃ news : List Value, news.length = xs.length * 5 ∧ ∀ j, j < xs.length * 5 → ∃ u, news[j]? = some u ∧ w.cell? ⟨b, o + j, none⟩ = some u := by
      refine ⟨(List.range (xs.length * 5)).map (fun j => (w.cell? ⟨b, o + j, none⟩).getD undef), by simp, fun j hj => ?_⟩
      have hq : j / 5 < xs.length := by omega
      obtain ⟨c0, c1, c2, c3, c4, e0, e1, e2, e3, e4, _⟩ := hcell (j / 5) _ (List.getElem?_eq_getElem hq)
      have hex : ∃ u, w.cell? ⟨b, o + j, none⟩ = some u := by
        rcases (by omega : j = j / 5 * 5 ∨ j = j / 5 * 5 + 1 ∨ j = j / 5 * 5 + 2 ∨ j = j / 5 * 5 + 3 ∨ j = j / 5 * 5 + 4) with e | e | e | e | e
        · exact ⟨c0, by rw [e]; exact e0⟩
        · exact ⟨c1, by rw [e, ← Nat.add_assoc]; exact e1⟩
        · exact ⟨c2, by rw [e, ← Nat.add_assoc]; exact e2⟩
        · exact ⟨c3, by rw [e, ← Nat.add_assoc]; exact e3⟩
        · exact ⟨c4, by rw [e, ← Nat.add_assoc]; exact e4⟩
      obtain ⟨u, hu⟩ := hex
      exact ⟨u, by simp [hj, hu], hu⟩
    have hone : ∀ u ∈ news, u.oneCell' = true := by
      intro u hu
      obtain ⟨j, hj⟩ := List.getElem?_of_mem hu
      have hjl := (List.getElem?_eq_some_iff.1 hj).1
      obtain ⟨u', hu', hc⟩ := hnews j (by omega)
      rw [hj] at hu'
      cases hu'
      have hq : j / 5 < xs.length := by omega
      obtain ⟨c0, c1, c2, c3, c4, e0, e1, e2, e3, e4, hval⟩ := hcell (j / 5) _ (List.getElem?_eq_getElem hq)
      obtain ⟨q0, q1, q2, q3, q4, q5, q6, q7, q8, hq⟩ := hval.shape
      cases hq
      rcases (by omega : j = j / 5 * 5 ∨ j = j / 5 * 5 + 1 ∨ j = j / 5 * 5 + 2 ∨ j = j / 5 * 5 + 3 ∨ j = j / 5 * 5 + 4) with e | e | e | e | e
      · rw [e, e0] at hc; cases hc; rfl
      · rw [e, ← Nat.add_assoc, e1] at hc; cases hc; rfl
      · rw [e, ← Nat.add_assoc, e2] at hc; cases hc; rfl
      · rw [e, ← Nat.add_assoc, e3] at hc; cases hc; rfl
      · rw [e, ← Nat.add_assoc, e4] at hc; cases hc; rfl
    have hadd : ∀ j, (⟨b, o, none⟩ : Addr).add j = ⟨b, o + j, none⟩ := fun j => by unfold Addr.add; split <;> simp_all
    obtain ⟨v', w', hr, ho, hgr, _, hat⟩ := run_append_own_at (P := Tryz.prog) w g 27 ty 29 i0 zeroVal 5 80 hu hi hz0 hz1 hz2 rfl (by decide) _ 0 [] hown ⟨b, o, none⟩ xs.length cl news hnl
      (fun j u hj => by rw [hadd]; obtain ⟨u', h1, h2⟩ := hnews j (by have := (List.getElem?_eq_some_iff.1 hj).1; omega); rw [hj] at h1; cases h1; exact h2) hone (by unfold maxLen; omega) (by omega) (by omega)
    rw [Nat.zero_add, List.nil_append] at ho
    have hsh : ∃ a c, v' = .slice a xs.length c := by
      rcases ho.2 with ⟨_, h⟩ | ⟨g', c', cur, e, _⟩
      · omega
      · exact ⟨_, _, e⟩
    have hsame : Same S w w' := fun c hc => hgr.block c (hS c hc) (fun e => by cases e; exact hSg hc)
    refine ⟨v', w', hr, ⟨news, ho, fun j x hx => ?_⟩, hgr, hsh⟩
    obtain ⟨c0, c1, c2, c3, c4, e0, e1, e2, e3, e4, hval⟩ := hcell j x hx
    have hjl := (List.getElem?_eq_some_iff.1 hx).1
    have hn : ∀ m c, m < xs.length * 5 → w.cell? ⟨b, o + m, none⟩ = some c → news[m]? = some c := fun m c hm hc => by
      obtain ⟨u, h1, h2⟩ := hnews m hm
      rw [hc] at h2
      cases h2
      exact h1
    exact ⟨c0, c1, c2, c3, c4, hn _ _ (by omega) e0, hn _ _ (by omega) (by rw [← Nat.add_assoc]; exact e1), hn _ _ (by omega) (by rw [← Nat.add_assoc]; exact e2), hn _ _ (by omega) (by rw [← Nat.add_assoc]; exact e3), hn _ _ (by omega) (by rw [← Nat.add_assoc]; exact e4), hval.same hsame⟩
end Go.Proofs.YtmkoeomkbbmoaaaGreatDoor

/- Rows of the model: l4Row, l4Of. -/
namespace Go.Proofs.YtmkoeomkbbmoaaaGreatDoor
open Go.RowKit Go.Deep

theorem treesL_isSome {d : Nat} (t : Tr (d + 1)) : (treesL d t).isSome = (okT (d + 1) t && (Nd.kind t == 5)) := by
  unfold treesL
  cases okT (d + 1) t with
  | false => rfl
  | true =>
    rw [if_pos rfl]
    by_cases h : Nd.kind t = 5
    · rw [if_pos h]; simp [h]
    · rw [if_neg h]; simp [h]

set_option maxRecDepth 100000 in
set_option maxHeartbeats 1000000 in
theorem l4Row_any (d : Nat) (S : Nat → Prop) (t : Tr (d + 1)) (v : Value) (w : World) (hv : ValAt S w (d + 1) t v) (hS : Within S w) (hsm : (nodes (d + 1) t : Int) ≤ 4194304) :
    Calls Tryz.prog 37 #[v] w fun e w' => e = .returned (.bool (treesL d t).isSome) ∧ Below w.heap.size w w' := by
  rw [treesL_isSome]
  have hv0 := hv
  obtain ⟨vk, vl, rfl, i1, i2, i3, hk, hl⟩ := hv
  obtain ⟨ak, ck, rfl, hkl⟩ := hk.open'
  obtain ⟨al, cl, rfl, hll⟩ := hl.open'
  have hA := below_alloc1 w (.cells #[.int .i64 t.kind, .int .i64 t.num, .string t.str, .slice ak t.keys.length ck, .slice al t.list.length cl] 29)
  have k0 := Blk5.new w 29 (.int .i64 t.kind) (.int .i64 t.num) (.string t.str) (.slice ak t.keys.length ck) (.slice al t.list.length cl)
  go_enter Tryz.func37, Tryz.ntmps37
  go_wp2_with fail
  refine (specValOk_any (d + 1) S t _ _ (hv0.same (hS.same hA)) (hS.later hA.size) hsm).mono ?_
  rintro e w1 ⟨rfl, hb1⟩
  replace k0 := k0.below hb1
  have HB := hide (below_trans hA hb1)
  obtain ⟨x0, x1, x2, x3, x4⟩ := k0.cell
  clear hb1 hA hv0 hk hl k0
  cases hf : okT (d + 1) t with
  | false =>
    go_wp2_with fail
    go_ret
    exact ⟨by rw [hf]; rfl, HB.out⟩
  | true =>
    go_wp2_with fail
    go_ret
    exact ⟨by rw [hf]; rfl, HB.out⟩

theorem l4Of_any (a : Option Addr) (n c : Nat) (w : World) : Calls Tryz.prog 38 #[.slice a n c] w fun e w' => e = .returned (.agg #[.int .i64 5, .int .i64 0, .string ByteArray.empty, .slice none 0 0, .slice a n c]) ∧ Below w.heap.size w w' := by
  go_enter Tryz.func38, Tryz.ntmps38
  go_wp2_with fail
  exact bodyPost_ret (v := .agg #[.int .i64 5, .int .i64 0, .string ByteArray.empty, .slice none 0 0, .slice a n c]) (by simp [results, Tryz.results38, go_sem]; rfl) rfl ⟨rfl, below_alloc1 _ _⟩

/-- A row of the model's, made out of trees that lie elsewhere, as a tree. -/
theorem rowV_at {d N : Nat} {S : Nat → Prop} {w w' : World} {lv : Value} {xs : List (Tr d)} {vs : List Value} (h : VTo S N w lv xs vs) (hl : xs.length ≤ 100000) (hb : Below w.heap.size w w') (hS : Within S w) :
    ValAt (fun b => S b ∨ (N ≤ b ∧ b < w'.heap.size)) w' (d + 1) (rowT d xs) (.agg #[.int .i64 5, .int .i64 0, .string ByteArray.empty, .slice none 0 0, lv]) := by
  have hz := hb.size
  have hrow := h.at (by omega)
  have hmv : Same (fun b => S b ∨ (N ≤ b ∧ b < w.heap.size)) w w' := fun b hb' => hb.block b (by rcases hb' with h | h; exact hS b h; exact h.2)
  have hin : ∀ b, (S b ∨ (N ≤ b ∧ b < w.heap.size)) → (S b ∨ (N ≤ b ∧ b < w'.heap.size)) := fun b hb' => by
    rcases hb' with h | h
    · exact Or.inl h
    · exact Or.inr ⟨h.1, by omega⟩
  exact ⟨_, _, rfl, ⟨by show _ ≤ (5 : Int); omega, by show (5 : Int) ≤ _; omega⟩, ⟨by show _ ≤ (0 : Int); omega, by show (0 : Int) ≤ _; omega⟩, by show (0 : Nat) < _; omega, ⟨by show (0 : Nat) < _; omega, (fun s hs => by cases hs), none, 0, rfl, Or.inl rfl⟩, hrow.moved hmv hin (fun y u hy => ValAt.moved hmv hin _ y u hy)⟩
/-- A row's value is a slice of just so many. -/
theorem VTo.slice {d N : Nat} {S : Nat → Prop} {w : World} {lv : Value} {xs : List (Tr d)} {vs : List Value} (h : VTo S N w lv xs vs) : ∃ a c, lv = .slice a xs.length c := by
  rcases h.1.2 with ⟨rfl, h0⟩ | ⟨g, cap, cur, rfl, _⟩
  · exact ⟨none, 0, by rw [h0]⟩
  · exact ⟨_, _, rfl⟩
/-- A row of nothing, as it is made. -/
theorem VTo.start {d : Nat} (S : Nat → Prop) (w : World) : VTo (d := d) S w.heap.size (w.alloc (.cells #[] 29)) (.slice (some ⟨w.heap.size, 0, none⟩) 0 0) [] [] :=
  ⟨⟨rfl, Or.inr ⟨w.heap.size, 0, #[], rfl, Nat.le_refl _, heap_alloc_new w _, Nat.le_refl _, Nat.zero_le _, rfl, rfl⟩⟩, fun j x h => by simp at h⟩
/-- One tree more, from elsewhere. -/
theorem VTo.push {d N : Nat} {S : Nat → Prop} {w1 wr w2 : World} {lv lv' : Value} {xs : List (Tr d)} {vs : List Value} {x : Tr d} {v0 v1 v2 v3 v4 : Value} {o : Obj} (h : VTo S N wr lv xs vs) (hS : ∀ b, S b → b < N) (hN : N ≤ wr.heap.size) (hb : Below N w1 wr) (hx : ValAt S wr d x (.agg #[v0, v1, v2, v3, v4]))
    (hown : w2.ownsRow N 29 5 lv' (xs.length + 1) (vs ++ [v0, v1, v2, v3, v4])) (hg : (wr.alloc o).grownBy w2 lv.ownBlock) : VTo S N w2 lv' (xs ++ [x]) (vs ++ [v0, v1, v2, v3, v4]) ∧ Below N w1 w2 ∧ N ≤ w2.heap.size := by
  have hz : (wr.alloc o).heap.size = wr.heap.size + 1 := by simp
  have hs2 := hg.size
  have hrow : ∀ g, lv.ownBlock = some g → N ≤ g := fun g hg' => (h.1.lt g hg').1
  have hblk : ∀ b, b < N → w2.heap[b]? = wr.heap[b]? := fun b hb' => (hg.block b (by omega) (fun e => by have := hrow b e.symm; omega)).trans (Below.heap_alloc _ _ _ (by omega))
  refine ⟨h.grow (fun b hb' => hblk b (hS b hb')) hx hown, ⟨hg.os.trans hb.os, hg.tape.trans hb.tape, hg.output.trans hb.output, ?_, fun b hb' => (hblk b hb').trans (hb.block b hb')⟩, by omega⟩
  have := hb.size
  omega
end Go.Proofs.YtmkoeomkbbmoaaaGreatDoor

/- Places of a piece: l1Max, l1Min, l4Edge of the model; fromStart, within, piece of the program. -/
namespace Go.Proofs.YtmkoeomkbbmoaaaGreatDoor
open Go.RowKit Go.Deep

/-- A place of so many, moved to the nearest end, if it is beyond. -/
def edge (i : Int) (n : Nat) : Nat := if i < 0 then (i + (n : Int)).toNat else min i.toNat n
theorem edge_le (i : Int) (n : Nat) : edge i n ≤ n := by
  unfold edge
  split <;> omega
theorem edge_neg {i : Int} {n : Nat} (h : i < 0) : edge i n = (i + (n : Int)).toNat := if_pos h
theorem edge_pos {i : Int} {n : Nat} (h : ¬ i < 0) : edge i n = min i.toNat n := if_neg h

set_option maxRecDepth 100000 in
theorem l1Max_any (a b : Int) (w : World) : Calls Tryz.prog 41 #[.int .i64 a, .int .i64 b] w fun e w' => e = .returned (.int .i64 (max a b)) ∧ w' = w := by
  by_cases h : b < a
  · have hm : Hid (max a b = a) := by show max a b = a; omega
    go_enter Tryz.func41, Tryz.ntmps41
    go_wp2_with fail
    go_ret
    rw [hm.out]
    exact ⟨rfl, rfl⟩
  · have hm : Hid (max a b = b) := by show max a b = b; omega
    go_enter Tryz.func41, Tryz.ntmps41
    go_wp2_with fail
    go_ret
    rw [hm.out]
    exact ⟨rfl, rfl⟩
set_option maxRecDepth 100000 in
theorem l1Min_any (a b : Int) (w : World) : Calls Tryz.prog 55 #[.int .i64 a, .int .i64 b] w fun e w' => e = .returned (.int .i64 (min a b)) ∧ w' = w := by
  by_cases h : a < b
  · have hm : Hid (min a b = a) := by show min a b = a; omega
    go_enter Tryz.func55, Tryz.ntmps55
    go_wp2_with fail
    go_ret
    rw [hm.out]
    exact ⟨rfl, rfl⟩
  · have hm : Hid (min a b = b) := by show min a b = b; omega
    go_enter Tryz.func55, Tryz.ntmps55
    go_wp2_with fail
    go_ret
    rw [hm.out]
    exact ⟨rfl, rfl⟩

set_option maxRecDepth 100000 in
theorem l4Edge_any (i : Int) (n : Nat) (w : World) (hi : I64 i) (hn : n ≤ 1000) : Calls Tryz.prog 42 #[.int .i64 i, .int .i64 (n : Int)] w fun e w' => e = .returned (.int .i64 (edge i n : Int)) ∧ w' = w := by
  obtain ⟨h1, h2⟩ := hi
  by_cases h : i < 0
  · have he := hide (edge_neg (n := n) h)
    go_enter Tryz.func42, Tryz.ntmps42
    go_wp2_with fail
    refine (l1Max_any (-(n : Int)) i w).mono ?_
    rintro e w1 ⟨rfl, rfl⟩
    have hb : -1000 ≤ max (-(n : Int)) i ∧ max (-(n : Int)) i ≤ 0 := by omega
    have hv : Hid (max 0 (max (-(n : Int)) i + (n : Int)) = (edge i n : Int)) := by
      show _ = (edge i n : Int)
      rw [he.out]
      omega
    generalize max (-(n : Int)) i = m at *
    go_wp2_with fail
    refine (l1Max_any 0 (m + (n : Int)) _).mono ?_
    rintro e w2 ⟨rfl, rfl⟩
    rw [hv.out]
    go_wp2_with fail
    go_ret
    exact ⟨rfl, rfl⟩
  · have he := hide (edge_pos (n := n) h)
    have hv : Hid (min i (n : Int) = (edge i n : Int)) := by
      show _ = (edge i n : Int)
      rw [he.out]
      omega
    go_enter Tryz.func42, Tryz.ntmps42
    go_wp2_with fail
    refine (l1Min_any i (n : Int) w).mono ?_
    rintro e w1 ⟨rfl, rfl⟩
    rw [hv.out]
    go_wp2_with fail
    go_ret
    exact ⟨rfl, rfl⟩

set_option maxRecDepth 100000 in
theorem fromStart_cut (i : Int) (n : Nat) (w : World) (hi : I64 i) (hn : n ≤ 1000) : Calls Tryz.prog 75 #[.int .i64 i, .int .i64 (n : Int)] w fun e w' => e = .returned (.int .i64 (if i < 0 then i + (n : Int) else i)) ∧ w' = w := by
  obtain ⟨h1, h2⟩ := hi
  by_cases h : i < 0
  · rw [if_pos h]
    go_enter Tryz.func75, Tryz.ntmps75
    go_wp2_with fail
    go_ret
    exact ⟨rfl, rfl⟩
  · rw [if_neg h]
    go_enter Tryz.func75, Tryz.ntmps75
    go_wp2_with fail
    go_ret
    exact ⟨rfl, rfl⟩

set_option maxRecDepth 100000 in
theorem within_any (i : Int) (n : Nat) (w : World) (hi : I64 i) (hn : n ≤ 1000) : Calls Tryz.prog 64 #[.int .i64 i, .int .i64 (n : Int)] w fun e w' => e = .returned (.int .i64 (edge i n : Int)) ∧ w' = w := by
  by_cases h : i < 0
  · have hv : Hid (min (max (i + (n : Int)) 0) (n : Int) = (edge i n : Int)) := by
      show _ = (edge i n : Int)
      rw [edge_neg h]
      omega
    have hc := fromStart_cut i n w hi hn
    rw [if_pos h] at hc
    have HC := hide hc
    clear hc
    go_enter Tryz.func64, Tryz.ntmps64
    go_wp2_with fail
    refine Calls.mono HC.out ?_
    rintro e w1 ⟨rfl, rfl⟩
    go_wp2_with fail
    rw [hv.out]
    go_ret
    exact ⟨rfl, rfl⟩
  · have hv : Hid (min (max i 0) (n : Int) = (edge i n : Int)) := by
      show _ = (edge i n : Int)
      rw [edge_pos h]
      omega
    have hc := fromStart_cut i n w hi hn
    rw [if_neg h] at hc
    have HC := hide hc
    clear hc
    go_enter Tryz.func64, Tryz.ntmps64
    go_wp2_with fail
    refine Calls.mono HC.out ?_
    rintro e w1 ⟨rfl, rfl⟩
    go_wp2_with fail
    rw [hv.out]
    go_ret
    exact ⟨rfl, rfl⟩

/-- The two ends of a piece. -/
def cutA (i : Int) (n : Nat) : Nat := edge i n
def cutB (i j : Int) (n : Nat) : Nat := max (edge i n) (edge j n)
theorem cut_le (i j : Int) (n : Nat) : cutA i n ≤ cutB i j n ∧ cutB i j n ≤ n := by
  have h1 := edge_le i n
  have h2 := edge_le j n
  unfold cutA cutB
  omega
set_option maxRecDepth 100000 in
theorem piece_any (i j : Int) (n : Nat) (w : World) (hi : I64 i) (hj : I64 j) (hn : n ≤ 1000) : Calls Tryz.prog 56 #[.int .i64 i, .int .i64 j, .int .i64 (n : Int)] w fun e w' => e = .returned (.tuple #[.int .i64 (cutA i n : Int), .int .i64 (cutB i j n : Int)]) ∧ w' = w := by
  have hv : Hid (max (edge i n : Int) (edge j n : Int) = (cutB i j n : Int)) := by
    show _ = (cutB i j n : Int)
    unfold cutB
    omega
  go_enter Tryz.func56, Tryz.ntmps56
  go_wp2_with fail
  refine (within_any i n w hi hn).mono ?_
  rintro e w1 ⟨rfl, rfl⟩
  go_wp2_with fail
  refine (within_any j n _ hj hn).mono ?_
  rintro e w2 ⟨rfl, rfl⟩
  go_wp2_with fail
  go_ret2
  exact ⟨by rw [← hv.out]; rfl, rfl⟩
end Go.Proofs.YtmkoeomkbbmoaaaGreatDoor

/- toVal: the list of what it makes has room for its trees. -/
namespace Go.Proofs.YtmkoeomkbbmoaaaGreatDoor
open Go.RowKit

/-- A tree's list has room for its trees. -/
def CapU (u : Value) : Prop := ∀ c0 c1 c2 c3 a n c, u = .agg #[c0, c1, c2, c3, .slice a n c] → n ≤ c
theorem capU_mk {c0 c1 c2 c3 : Value} {a : Option Addr} {n c : Nat} (h : n ≤ c) : CapU (.agg #[c0, c1, c2, c3, .slice a n c]) := by
  intro d0 d1 d2 d3 a' n' c' e
  simp at e
  omega

set_option maxHeartbeats 1000000 in
theorem toValS_cap (d : Nat) (H : ToVal d) (S : Nat → Prop) (xs : List (Tr d)) (v : Value) (w : World) (hv : RowAt S w (ValAt S w d) v xs) (hS : Within S w) :
    Calls Tryz.prog 27 #[v] w fun e w' => ∃ u, e = .returned u ∧ RowAt (Fresh w w') w' (ValAt (Fresh w w') w' d) u xs ∧ Below w.heap.size w w' ∧ ∃ a c, u = .slice a xs.length c ∧ xs.length ≤ c := by
  obtain ⟨a, cap, rfl, hlen⟩ := hv.open'
  have hmk := run_make5 xs.length hlen
  have hb0 : Below w.heap.size w (w.alloc (.cells (madeCells zero5 (xs.length * 5)) 29)) := below_alloc1 _ _
  have hr0 : Filled (d := d) w.heap.size 29 (xs.length * 5) xs (w.alloc (.cells (madeCells zero5 (xs.length * 5)) 29)) 0 (fun j => (madeCells zero5 (xs.length * 5)).getD j undef) := by
    refine ⟨?_, fun j x hj => by omega⟩
    have := World.rowIs_alloc w (madeCells zero5 (xs.length * 5)) 29 (fun j => (madeCells zero5 (xs.length * 5)).getD j undef) (fun i hi => by simp [hi])
    rwa [size_madeCells] at this
  have HB : Hid _ := And.intro hb0 hr0
  clear hb0 hr0
  go_enter Tryz.func27, Tryz.ntmps27
  go_wp2_with fail
  go_loopw [4] (fun i wr => ∃ (k : Nat) (f : Nat → Value), k ≤ xs.length ∧ i = .int .i64 k ∧ Filled w.heap.size 29 (xs.length * 5) xs wr k f ∧ Below w.heap.size w wr) (fun i _ => xs.length - (intOf i).toNat)
  case atStart => exact ⟨0, _, Nat.zero_le _, rfl, HB.out.2, HB.out.1⟩
  case round =>
    clear HB hmk
    obtain ⟨k, f, hk, rfl, hrow, hbel⟩ := hrel
    by_cases hkl : k < xs.length
    · obtain ⟨b, o, x, c0, c1, c2, c3, c4, rfl, hb, hx, e0, e1, e2, e3, e4, hval⟩ := (hv.same (hS.same hbel)).cell hkl
      go_wp2_with fail
      refine (H S x _ wr hval (hS.later hbel.size)).mono ?_
      rintro e w1 ⟨u, rfl, hu, hb1⟩
      obtain ⟨v0, v1, v2, v3, v4, v5, v6, v7, v8, rfl⟩ := hu.shape
      have hrow' := hrow.step hb1 hx hu
      have hbel' := below_set5 (hbel.trans (hb1.mono hbel.size)) (Nat.le_refl w.heap.size) (k * 5) (.int .i64 v0) (.int .i64 v1) (.string v2) (.slice v3 v4 v5) (.slice v6 v7 v8)
      have HR : Hid _ := And.intro hrow' hbel'
      have hr1 := hrow.1.of_block (hb1.block w.heap.size hrow.1.lt)
      have g0 := hr1.cell (i := k * 5) (by omega)
      have g1 := hr1.cell (i := k * 5 + 1) (by omega)
      have g2 := hr1.cell (i := k * 5 + 2) (by omega)
      have g3 := hr1.cell (i := k * 5 + 3) (by omega)
      have g4 := hr1.cell (i := k * 5 + 4) (by omega)
      have z0 := hr1.frozen (k * 5)
      have z1 := hr1.frozen (k * 5 + 1)
      have z2 := hr1.frozen (k * 5 + 2)
      have z3 := hr1.frozen (k * 5 + 3)
      have z4 := hr1.frozen (k * 5 + 4)
      clear hrow' hbel' hr1 hrow hbel hb1 hu hval e0 e1 e2 e3 e4 hv hx
      go_wp2_with fail
      go_roundw
      case rel => exact ⟨k + 1, _, by omega, by go_num, HR.out.1, HR.out.2⟩
      case measure => simp [intOf]; omega
    · go_wp2_with fail
      go_ret
      obtain rfl : k = xs.length := by omega
      refine ⟨_, rfl, ⟨hlen, _, _, rfl, ?_⟩, hbel, _, _, rfl, Nat.le_refl _⟩
      refine Or.inr ⟨w.heap.size, 0, ⟨Nat.le_refl _, hrow.1.lt⟩, rfl, fun i x hi => ?_⟩
      obtain ⟨hi', e⟩ := List.getElem?_eq_some_iff.1 hi
      rw [Nat.zero_add]
      exact ⟨_, _, _, _, _, hrow.1.cell (by omega), hrow.1.cell (by omega), hrow.1.cell (by omega), hrow.1.cell (by omega), hrow.1.cell (by omega),
        (hrow.2 i x hi' hi).mono (fun b hb => ⟨Nat.le_of_lt hb.1, hb.2⟩)⟩

set_option maxHeartbeats 1000000 in
theorem toVal_cap (d : Nat) (S : Nat → Prop) (t : Tr (d + 1)) (v : Value) (w : World) (hv : ValAt S w (d + 1) t v) (hS : Within S w) :
    Calls Tryz.prog 9 #[v] w fun e w' => ∃ u, e = .returned u ∧ ValAt (Fresh w w') w' (d + 1) t u ∧ Below w.heap.size w w' ∧ CapU u := by
    have ih := toVal_any d
    obtain ⟨vk, vl, rfl, i1, i2, i3, hk, hl⟩ := hv
    obtain ⟨ak, ck, rfl, hkl⟩ := hk.open'
    obtain ⟨al, cl, rfl, hll⟩ := hl.open'
    go_enter Tryz.func9, Tryz.ntmps9
    go_wp2_with fail
    obtain ⟨k0, k1, k2, hb0, hsz⟩ := laid3 w 25 29 29 (.int .i64 t.kind) (.int .i64 t.num) (.string t.str) (.slice ak t.keys.length ck) (.slice al t.list.length cl)
      (.int .i64 0) (.int .i64 0) (.string { data := #[] }) (.slice none 0 0) (.slice none 0 0) (.int .i64 t.kind) (.int .i64 t.num) (.string t.str) (.slice none 0 0) (.slice none 0 0)
    refine (toStringS_any S t.keys _ _ (hk.same (hS.same hb0)) (hS.later hb0.size)).mono ?_
    rintro e w1 ⟨u1, rfl, hu1, hb1⟩
    obtain ⟨a1, c1, rfl, _⟩ := hu1.open'
    replace k0 := k0.below hb1
    replace k1 := k1.below hb1
    replace k2 := k2.below hb1
    have hu1' := hu1.mono (S' := After (w.heap.size + 2) w1) (fun b hb => ⟨by have := hb.1; omega, hb.2⟩)
    replace hb1 := below_trans hb0 hb1
    clear hb0 hsz hu1
    obtain ⟨_, _, _, _, z0⟩ := k0.cell
    obtain ⟨x0, x1, x2, x3, x4⟩ := k2.cell
    have x5 := k2.frozen 3
    have k0' := k0.other (a := ⟨w.heap.size + 1 + 1, 3, none⟩) (.slice a1 t.keys.length c1) (by simp; omega)
    have k1' := k1.other (a := ⟨w.heap.size + 1 + 1, 3, none⟩) (.slice a1 t.keys.length c1) (by simp)
    have k2' := k2.set3 (.slice a1 t.keys.length c1)
    go_wp2_with fail
    clear z0 x0 x1 x2 x3 x4 x5 k0 k1 k2 k0'
    have hs1 : Same (After (w.heap.size + 2) w1) w1 (w1.setCell ⟨w.heap.size + 1 + 1, 3, none⟩ (.slice a1 t.keys.length c1)) := fun b hb => Below.heap_setCell _ _ _ _ (by have := hb.1; show b ≠ w.heap.size + 1 + 1; omega)
    have hb2 := hb1.setCell (p := ⟨w.heap.size + 1 + 1, 3, none⟩) (by show w.heap.size ≤ w.heap.size + 1 + 1; omega) (.slice a1 t.keys.length c1)
    have hu2 := hu1'.same hs1
    have hz2 := size_setCell1 w1 ⟨w.heap.size + 1 + 1, 3, none⟩ (.slice a1 t.keys.length c1)
    refine (toValS_cap d ih S t.list _ _ (hl.same (hS.same hb2)) (hS.later hb2.size)).mono ?_
    clear hb1 hu1' hs1
    rintro e w3 ⟨u3, rfl, hu3, hb3, a3, c3, rfl, hc3⟩
    have hk2 := k2'.lt
    replace k1 := k1'.below hb3
    replace k2 := k2'.below hb3
    clear k1' k2'
    rw [hz2] at hk2
    have hu2' : StrsAt (After (w.heap.size + 2) w3) w3 (.slice a1 t.keys.length c1) t.keys := hu2.moved (fun b hb => hb3.block b (by rw [hz2]; exact hb.2)) (fun b hb => ⟨hb.1, Nat.lt_of_lt_of_le (by rw [hz2]; exact hb.2) hb3.size⟩)
    have hu3' := hu3.mono (S' := After (w.heap.size + 2) w3) (fun b hb => ⟨by have h1 := hb.1; rw [hz2] at h1; omega, hb.2⟩)
    have hb4 := below_trans hb2 hb3
    have hw3 := hb4.size
    clear hu2 hu3 hb2 hb3 hz2
    obtain ⟨y0, y1, y2, y3, y4⟩ := k1.cell
    have yf := k1.frozen
    obtain ⟨x0, x1, x2, x3, x4⟩ := k2.cell
    have xf := k2.frozen 4
    have hend : ∀ wF, wF = set5 (w3.setCell ⟨w.heap.size + 1 + 1, 4, none⟩ (.slice a3 t.list.length c3)) (w.heap.size + 1) 0 (.int .i64 t.kind) (.int .i64 t.num) (.string t.str) (.slice a1 t.keys.length c1) (.slice a3 t.list.length c3) →
        ValAt (Fresh w wF) wF (d + 1) t (.agg #[.int .i64 t.kind, .int .i64 t.num, .string t.str, .slice a1 t.keys.length c1, .slice a3 t.list.length c3]) ∧ Below w.heap.size w wF := by
      intro wF hF
      have hs : Same (After (w.heap.size + 2) w3) w3 wF := fun b hb => by
        have := hb.1
        rw [hF, set5_block _ _ _ _ _ _ _ _ _ (by omega), Below.heap_setCell _ _ _ _ (by show b ≠ w.heap.size + 1 + 1; omega)]
      have hA : ∀ b, After (w.heap.size + 2) w3 b → Fresh w wF b := fun b hb => ⟨by have := hb.1; omega, by rw [hF, set5_size, size_setCell1]; exact hb.2⟩
      refine ⟨⟨_, _, rfl, i1, i2, i3, hu2'.moved hs hA, hu3'.moved hs hA (fun x u hx => ValAt.moved hs hA d x u hx)⟩, ?_⟩
      rw [hF]
      exact below_set5 (hb4.setCell (by show w.heap.size ≤ w.heap.size + 1 + 1; omega) _) (by omega) _ _ _ _ _ _
    have HE : Hid _ := hend
    clear hend k1 k2 hu2' hu3' hb4 hk hl
    go_wp2_with fail
    refine bodyPost_ret (v := .agg #[.int .i64 t.kind, .int .i64 t.num, .string t.str, .slice a1 t.keys.length c1, .slice a3 t.list.length c3]) (by simp [results, Tryz.results9, go_sem, y0, y1, y2, y3, y4]) rfl ⟨_, rfl, (HE.out _ rfl).1, (HE.out _ rfl).2, capU_mk hc3⟩
end Go.Proofs.YtmkoeomkbbmoaaaGreatDoor

/- RowCut: pieces of rows and texts. -/
namespace Go.Proofs.YtmkoeomkbbmoaaaGreatDoor
open Go.RowKit Go.Deep

/-- A text as a tree. -/
def wordT (d : Nat) (s : ByteArray) : Tr (d + 1) := (Nd.mk 4 0 s [] [] : Nd (Tr d))
/-- A piece of a row, or of a text. -/
def cutF (d : Nat) (t : Tr (d + 1)) (i j : Int) : Option (Tr (d + 1)) :=
  if Nd.kind t = 5 then some (rowT d (((Nd.list t).drop (cutA i (Nd.list t).length)).take (cutB i j (Nd.list t).length - cutA i (Nd.list t).length)))
  else if Nd.kind t = 4 then some (wordT d ((Nd.str t).extract (cutA i (Nd.str t).size) (cutB i j (Nd.str t).size))) else none
/-- What RowCut tells. -/
def cutR (d : Nat) (t : Tr (d + 1)) (i j : Int) : Tr (d + 1) × Bool :=
  if okT (d + 1) t = true then (match cutF d t i j with | none => (zeroT d, false) | some x => (toldT d x, okT (d + 1) x)) else (zeroT d, false)
theorem okT_cut (d : Nat) (t : Tr (d + 1)) (i j : Int) : okT (d + 1) (cutR d t i j).1 = true := by
  unfold cutR
  split
  · split
    · exact okT_zero _
    · exact okT_told _ _
  · exact okT_zero _
theorem cutR_bad {d : Nat} {t : Tr (d + 1)} {i j : Int} (h : okT (d + 1) t = false) : cutR d t i j = (zeroT d, false) := if_neg (by rw [h]; simp)
theorem cutR_none {d : Nat} {t : Tr (d + 1)} {i j : Int} (h : cutF d t i j = none) : cutR d t i j = (zeroT d, false) := by
  unfold cutR
  split
  · rw [h]
  · rfl
theorem cutR_some {d : Nat} {t x : Tr (d + 1)} {i j : Int} (h : okT (d + 1) t = true) (hx : cutF d t i j = some x) : cutR d t i j = (toldT d x, okT (d + 1) x) := by
  unfold cutR
  rw [if_pos h, hx]
theorem cutF_row {d : Nat} {t : Tr (d + 1)} {i j : Int} (h : Nd.kind t = 5) : cutF d t i j = some (rowT d (((Nd.list t).drop (cutA i (Nd.list t).length)).take (cutB i j (Nd.list t).length - cutA i (Nd.list t).length))) := if_pos h
theorem cutF_word {d : Nat} {t : Tr (d + 1)} {i j : Int} (h : Nd.kind t = 4) : cutF d t i j = some (wordT d ((Nd.str t).extract (cutA i (Nd.str t).size) (cutB i j (Nd.str t).size))) := by
  unfold cutF
  rw [if_neg (by rw [h]; decide), if_pos h]
theorem cutF_other {d : Nat} {t : Tr (d + 1)} {i j : Int} (h5 : Nd.kind t ≠ 5) (h4 : Nd.kind t ≠ 4) : cutF d t i j = none := by
  unfold cutF
  rw [if_neg h5, if_neg h4]

theorem strOk_cut {s : ByteArray} (h : strOk s = true) (a b : Nat) : strOk (s.extract a b) = true := by
  unfold strOk at h ⊢
  rw [Bool.and_eq_true] at h ⊢
  obtain ⟨h1, h2⟩ := h
  have h2 := of_decide_eq_true h2
  refine ⟨?_, decide_eq_true ?_⟩
  · rw [List.all_eq_true] at h1 ⊢
    intro c hc
    refine h1 c ?_
    have e : (s.extract a b).data.toList = (s.data.toList.drop a).take (b - a) := by
      simp [ByteArray.data_extract, Array.toList_extract]
    rw [e] at hc
    exact List.mem_of_mem_drop (List.mem_of_mem_take hc)
  · have : (s.extract a b).size ≤ s.size := by
      rw [ByteArray.size_extract]
      omega
    omega
theorem okT_word {d : Nat} {s : ByteArray} (h : strOk s = true) : okT (d + 1) (wordT d s) = true := by
  have hb : headBad 4 0 s ([] : List ByteArray).length ([] : List (Tr d)).length 6 = false := headBad_iff.2 ⟨by omega, fun _ => rfl, fun h => absurd rfl h, fun _ => rfl, fun _ => rfl⟩
  unfold okT
  have hf : formT (d + 1) (wordT d s) 6 = strOk s := (formT_good hb).trans rfl
  have hm : manyT (d + 1) (wordT d s) 6 = 1 := rfl
  rw [hf, hm, h]
  rfl
/-- What an ok row or text has not. -/
theorem okT_parts4 {d : Nat} {t : Tr (d + 1)} (h : okT (d + 1) t = true) : (Nd.kind t = 5 → (Nd.str t).size = 0) ∧ (Nd.kind t = 4 → (Nd.list t).length = 0 ∧ strOk (Nd.str t) = true) := by
  obtain ⟨hf, _⟩ := okT_form h
  obtain ⟨kind, num, str, keys, list⟩ := t
  cases hb : headBad kind num str keys.length list.length 6 with
  | true => rw [formT_bad hb] at hf; cases hf
  | false =>
    obtain ⟨_, _, g2, g3, g4⟩ := headBad_iff.1 hb
    refine ⟨fun h5 => ?_, fun h4 => ?_⟩
    · have h5 : kind = 5 := h5
      have := bytes_nil (g2 (by omega))
      show str.size = 0
      rw [this]
      rfl
    · have h4 : kind = 4 := h4
      subst h4
      rw [formT_good hb] at hf
      exact ⟨g4 (by omega), hf⟩

theorem RowAt.cut {α : Type} {S : Nat → Prop} {w : World} {At : α → Value → Prop} {b o n cap : Nat} {xs : List α} (h : RowAt S w At (.slice (some ⟨b, o, none⟩) n cap) xs) {p q : Nat} (c' : Nat) (hpq : p ≤ q) (hq : q ≤ xs.length) : RowAt S w At (.slice (some ⟨b, o + p * 5, none⟩) (q - p) c') ((xs.drop p).take (q - p)) := by
  obtain ⟨h1, a', cap', hv, h3⟩ := h
  have hl : ((xs.drop p).take (q - p)).length = q - p := by rw [List.length_take, List.length_drop]; omega
  refine ⟨by omega, some ⟨b, o + p * 5, none⟩, c', by rw [hl], ?_⟩
  rcases h3 with rfl | ⟨b', o', hB, ha, hc⟩
  · exact Or.inl (by simp)
  · simp at hv
    obtain ⟨e1, _, _⟩ := hv
    rw [← e1] at ha
    simp at ha
    obtain ⟨rfl, rfl⟩ := ha
    refine Or.inr ⟨b, o + p * 5, hB, rfl, fun i x hx => ?_⟩
    have hi := (List.getElem?_eq_some_iff.1 hx).1
    rw [hl] at hi
    rw [List.getElem?_take_of_lt hi, List.getElem?_drop] at hx
    have hh := hc (p + i) x hx
    rw [show o + (p + i) * 5 = o + p * 5 + i * 5 by omega] at hh
    exact hh
theorem Row1At.cut {α : Type} {S : Nat → Prop} {w : World} {At : α → Value → Prop} {b o n cap : Nat} {xs : List α} (h : Row1At S w At (.slice (some ⟨b, o, none⟩) n cap) xs) {p q : Nat} (c' : Nat) (hpq : p ≤ q) (hq : q ≤ xs.length) : Row1At S w At (.slice (some ⟨b, o + p, none⟩) (q - p) c') ((xs.drop p).take (q - p)) := by
  obtain ⟨h1, a', cap', hv, h3⟩ := h
  have hl : ((xs.drop p).take (q - p)).length = q - p := by rw [List.length_take, List.length_drop]; omega
  refine ⟨by omega, some ⟨b, o + p, none⟩, c', by rw [hl], ?_⟩
  rcases h3 with rfl | ⟨b', o', hB, ha, hc⟩
  · exact Or.inl (by simp)
  · simp at hv
    obtain ⟨e1, _, _⟩ := hv
    rw [← e1] at ha
    simp at ha
    obtain ⟨rfl, rfl⟩ := ha
    refine Or.inr ⟨b, o + p, hB, rfl, fun i x hx => ?_⟩
    have hi := (List.getElem?_eq_some_iff.1 hx).1
    rw [hl] at hi
    rw [List.getElem?_take_of_lt hi, List.getElem?_drop] at hx
    have hh := hc (p + i) x hx
    rw [show o + (p + i) = o + p + i by omega] at hh
    exact hh
/-- A row of nothing, wherever. -/
theorem RowAt.none {α : Type} {S : Nat → Prop} {w : World} {At : α → Value → Prop} (a : Option Addr) (c : Nat) : RowAt S w At (.slice a 0 c) ([] : List α) := ⟨by simp, a, c, rfl, Or.inl rfl⟩
theorem Row1At.none {α : Type} {S : Nat → Prop} {w : World} {At : α → Value → Prop} (a : Option Addr) (c : Nat) : Row1At S w At (.slice a 0 c) ([] : List α) := ⟨by simp, a, c, rfl, Or.inl rfl⟩
theorem add_at (b o m : Nat) : (⟨b, o, Option.none⟩ : Addr).add m = ⟨b, o + m, Option.none⟩ := by unfold Addr.add; split <;> simp_all
theorem RowAt.piece {α : Type} {S : Nat → Prop} {w : World} {At : α → Value → Prop} {al : Option Addr} {cap : Nat} {xs : List α} (h : RowAt S w At (.slice al xs.length cap) xs) {p q : Nat} (c' : Nat) (hpq : p ≤ q) (hq : q ≤ xs.length) : RowAt S w At (.slice (al.map (fun x => x.add (p * 5))) (q - p) c') ((xs.drop p).take (q - p)) := by
  by_cases h0 : xs = []
  · subst h0
    have : q - p = 0 := by simp at hq; omega
    rw [this]
    simp
    exact RowAt.none _ _
  · obtain ⟨b, o, _, _, _, _, _, _, rfl, _⟩ := h.cell (List.length_pos_iff.2 h0)
    have := h.cut c' hpq hq
    rw [Option.map_some, add_at]
    exact this
theorem Row1At.piece {α : Type} {S : Nat → Prop} {w : World} {At : α → Value → Prop} {al : Option Addr} {cap : Nat} {xs : List α} (h : Row1At S w At (.slice al xs.length cap) xs) {p q : Nat} (c' : Nat) (hpq : p ≤ q) (hq : q ≤ xs.length) : Row1At S w At (.slice (al.map (fun x => x.add p)) (q - p) c') ((xs.drop p).take (q - p)) := by
  by_cases h0 : xs = []
  · subst h0
    have : q - p = 0 := by simp at hq; omega
    rw [this]
    simp
    exact Row1At.none _ _
  · have h' := h
    obtain ⟨_, a', cap', hv, h3⟩ := h'
    rcases h3 with h3 | ⟨b, o, _, ha, _⟩
    · exact absurd h3 h0
    · simp at hv
      obtain ⟨e1, _⟩ := hv
      rw [← e1] at ha
      subst ha
      have := h.cut c' hpq hq
      rw [Option.map_some, add_at]
      exact this
/-- A row that lies in memory, as a tree. -/
theorem row_tree {d : Nat} {S : Nat → Prop} {w : World} {lv : Value} {xs : List (Tr d)} (h : RowAt S w (ValAt S w d) lv xs) : ValAt S w (d + 1) (rowT d xs) (.agg #[.int .i64 5, .int .i64 0, .string ByteArray.empty, .slice Option.none 0 0, lv]) :=
  ⟨_, _, rfl, ⟨by show _ ≤ (5 : Int); omega, by show (5 : Int) ≤ _; omega⟩, ⟨by show _ ≤ (0 : Int); omega, by show (0 : Int) ≤ _; omega⟩, by show (0 : Nat) < _; omega, ⟨by show (0 : Nat) < _; omega, (fun s hs => by cases hs), Option.none, 0, rfl, Or.inl rfl⟩, h⟩
theorem word_tree {d : Nat} {S : Nat → Prop} {w : World} {s : ByteArray} (h : s.size < 281474976710656) : ValAt S w (d + 1) (wordT d s) (.agg #[.int .i64 4, .int .i64 0, .string s, .slice Option.none 0 0, .slice Option.none 0 0]) :=
  ⟨_, _, rfl, ⟨by show _ ≤ (4 : Int); omega, by show (4 : Int) ≤ _; omega⟩, ⟨by show _ ≤ (0 : Int); omega, by show (0 : Int) ≤ _; omega⟩, h, ⟨by show (0 : Nat) < _; omega, (fun s hs => by cases hs), Option.none, 0, rfl, Or.inl rfl⟩, RowAt.none _ _⟩
end Go.Proofs.YtmkoeomkbbmoaaaGreatDoor

/- RowCut of the model. -/
namespace Go.Proofs.YtmkoeomkbbmoaaaGreatDoor
open Go.RowKit Go.Deep

set_option maxRecDepth 100000 in
set_option maxHeartbeats 4000000 in
theorem specRowCut_any (d : Nat) (S : Nat → Prop) (t : Tr (d + 1)) (v : Value) (i j : Int) (hi : I64 i) (hj : I64 j) (w : World) (hv : ValAt S w (d + 1) t v) (hS : Within S w) (hsm : (nodes (d + 1) t : Int) ≤ 4194304) (hcap : CapU v) :
    Calls Tryz.prog 16 #[v, .int .i64 i, .int .i64 j] w (SpecQ d (cutR d t i j).1 (cutR d t i j).2 w) := by
  have hv0 := hv
  obtain ⟨vk, vl, rfl, i1, i2, i3, hk, hl⟩ := hv
  obtain ⟨ak, ck, rfl, hkl⟩ := hk.open'
  obtain ⟨al, cl, rfl, hll⟩ := hl.open'
  have hcl : t.list.length ≤ cl := hcap _ _ _ _ _ _ _ rfl
  obtain ⟨W0, hW⟩ : ∃ W0, W0 = (w.alloc (.cells #[.int .i64 t.kind, .int .i64 t.num, .string t.str, .slice ak t.keys.length ck, .slice al t.list.length cl] 29)).alloc (.cells #[.int .i64 0, .int .i64 0, .string { data := #[] }, .slice none 0 0, .slice none 0 0] 29) := ⟨_, rfl⟩
  have hW0 : Below w.heap.size w W0 := by rw [hW]; exact below_trans (below_alloc1 _ _) (below_alloc1 _ _)
  have k0 : Blk5 W0 w.heap.size 29 (.int .i64 t.kind) (.int .i64 t.num) (.string t.str) (.slice ak t.keys.length ck) (.slice al t.list.length cl) := by
    rw [hW]; exact (Blk5.new w 29 _ _ _ _ _).alloc _
  have k1 : Blk5 W0 (w.heap.size + 1) 29 (.int .i64 0) (.int .i64 0) (.string { data := #[] }) (.slice none 0 0) (.slice none 0 0) := by
    have := Blk5.new (w.alloc (.cells #[.int .i64 t.kind, .int .i64 t.num, .string t.str, .slice ak t.keys.length ck, .slice al t.list.length cl] 29)) 29 (.int .i64 0) (.int .i64 0) (.string { data := #[] }) (.slice none 0 0) (.slice none 0 0)
    rw [World.size_alloc] at this
    rw [hW]
    exact this
  have HW := hide hW
  clear hW hk hcap
  go_enter Tryz.func16, Tryz.ntmps16
  go_wp2_with fail
  rw [← HW.out]
  clear HW
  refine (specValOk_any (d + 1) S t _ W0 (hv0.same (hS.same hW0)) (hS.later hW0.size) hsm).mono ?_
  rintro e w1 ⟨rfl, hb1⟩
  replace k0 := k0.below hb1
  replace k1 := k1.below hb1
  have hB1 := below_trans hW0 hb1
  have hlt := k1.lt
  have hno : ∀ wn, Below w.heap.size w wn → Hid (∀ wF, wF = set5 wn (w.heap.size + 1) 0 (.int .i64 0) (.int .i64 0) (.string { data := #[] }) (.slice none 0 0) (.slice none 0 0) → Below w.heap.size w wF) := by
    intro wn hn wF hF
    rw [hF]
    exact below_set5 hn (by omega) _ _ _ _ _ _
  clear hb1 hW0 hv0
  obtain ⟨y0, y1, y2, y3, y4⟩ := k1.cell
  have yf := k1.frozen
  cases hok : okT (d + 1) t with
  | false =>
    have hz := hide (cutR_bad (i := i) (j := j) hok)
    have HN := hno w1 hB1
    clear k0 k1 hB1 hno
    go_wp2_with fail
    rw [hz.out]
    refine bodyPost_ret (v := .tuple #[zeroVal, .bool false]) (by simp [results, Tryz.results16, go_sem, zeroVal, y0, y1, y2, y3, y4]; rfl) rfl ⟨_, rfl, zeroAt d _ _, HN.out _ rfl⟩
  | true =>
  obtain ⟨x0, x1, x2, x3, x4⟩ := k0.cell
  obtain ⟨hp5, hp4⟩ := okT_parts4 hok
  have hl60 : t.list.length ≤ 60 := (okT_kinds hok).2.1
  by_cases h5 : t.kind = 5
  · have q5 : (t.kind != 5) = false := by simp [h5]
    have q4 : (t.kind == 4) = false := by simp [h5]
    have hs0 : t.str.size = 0 := hp5 h5
    obtain ⟨hab, hbn⟩ := cut_le i j t.list.length
    have hR := hide (cutR_some hok (cutF_row (i := i) (j := j) h5))
    have hm1 : Hid (max (t.list.length : Int) (t.str.size : Int) = (t.list.length : Int)) := by show max _ _ = _; omega
    have hm2 : Hid (max (edge i t.list.length : Int) (edge j t.list.length : Int) = (cutB i j t.list.length : Int)) := by show _ = (cutB i j t.list.length : Int); unfold cutB; omega
    clear hp5 hp4 h5 hno hs0
    go_wp2_with fail
    refine (l1Max_any _ _ w1).mono ?_
    rintro e w1' ⟨rfl, rfl⟩
    rw [hm1.out]
    go_wp2_with fail
    refine (l4Edge_any i t.list.length _ hi (by omega)).mono ?_
    rintro e w1' ⟨rfl, rfl⟩
    go_wp2_with fail
    refine (l4Edge_any j t.list.length _ hj (by omega)).mono ?_
    rintro e w1' ⟨rfl, rfl⟩
    go_wp2_with fail
    refine (l1Max_any _ _ _).mono ?_
    rintro e w1' ⟨rfl, rfl⟩
    rw [hm2.out]
    have hA : Hid (edge i t.list.length = cutA i t.list.length) := rfl
    rw [hA.out]
    have hrow1 := hl.same (hS.same hB1)
    have hnod : (nodes (d + 1) (rowT d ((t.list.drop (cutA i t.list.length)).take (cutB i j t.list.length - cutA i t.list.length))) : Int) ≤ 4194304 := nodes_row (fun x hx => okT_part hok (List.mem_of_mem_drop (List.mem_of_mem_take hx))) (by rw [List.length_take, List.length_drop]; omega)
    by_cases hca : cl = cutA i t.list.length
    · have hpr : Hid (RowAt S w1' (ValAt S w1' d) (.slice al (cutB i j t.list.length - cutA i t.list.length) 0) ((t.list.drop (cutA i t.list.length)).take (cutB i j t.list.length - cutA i t.list.length))) := by
        show RowAt S w1' (ValAt S w1' d) _ _
        have e0 : cutB i j t.list.length - cutA i t.list.length = 0 := by omega
        rw [e0, List.take_zero]
        exact RowAt.none _ _
      clear hrow1 hl
      go_wp2_with fail
      refine (l4Of_any _ _ _ w1').mono ?_
      rintro e w3 ⟨rfl, hb3⟩
      have hB3 := below_trans hB1 hb3
      have hSw : Within S w1' := hS.later hB1.size
      have hmv := hSw.same hb3
      have hrow := row_tree (hpr.out.moved (At' := ValAt S w3 d) hmv (fun _ h => h) (fun x u hx => ValAt.moved hmv (fun _ h => h) d x u hx))
      have k3 := k1.below hb3
      have hcall2 := hide (l2Told_any d _ _ _ w3 hrow (hS.later hB3.size) hnod)
      have hlt3 : w.heap.size + 1 < w3.heap.size := k3.lt
      clear hrow hb3 hpr hmv hSw k0 k1 hB1 x0 x1 x2 x3 x4 y0 y1 y2 y3 y4 yf
      go_wp2_with fail
      refine Calls.mono hcall2.out ?_
      rintro e w4 ⟨r, rfl, hr, hb4⟩
      obtain ⟨r0, r1, r2, r3, r4, r5, r6, r7, r8, rfl⟩ := hr.shape
      have HF := hide (tell_endA hr (below_trans hB3 hb4) (by omega) hlt3)
      have k4 := k3.below hb4
      obtain ⟨y0, y1, y2, y3, y4⟩ := k4.cell
      have yf := k4.frozen
      clear hr hb4 k3 k4 hcall2 hB3
      go_wp2_with fail
      rw [hR.out]
      exact bodyPost_ret (v := .tuple #[.agg #[.int .i64 r0, .int .i64 r1, .string r2, .slice r3 r4 r5, .slice r6 r7 r8], .bool (okT (d + 1) (rowT d ((t.list.drop (cutA i t.list.length)).take (cutB i j t.list.length - cutA i t.list.length))))]) (by simp [results, Tryz.results16, go_sem, y0, y1, y2, y3, y4]) rfl ⟨_, rfl, (HF.out _ rfl).1, (HF.out _ rfl).2⟩
    · have hpr : Hid (RowAt S w1' (ValAt S w1' d) (.slice (al.map (fun x => x.add (cutA i t.list.length * 5))) (cutB i j t.list.length - cutA i t.list.length) (cl - cutA i t.list.length)) ((t.list.drop (cutA i t.list.length)).take (cutB i j t.list.length - cutA i t.list.length))) := hrow1.piece _ hab hbn
      clear hrow1 hl
      go_wp2_with fail
      refine (l4Of_any _ _ _ w1').mono ?_
      rintro e w3 ⟨rfl, hb3⟩
      have hB3 := below_trans hB1 hb3
      have hSw : Within S w1' := hS.later hB1.size
      have hmv := hSw.same hb3
      have hrow := row_tree (hpr.out.moved (At' := ValAt S w3 d) hmv (fun _ h => h) (fun x u hx => ValAt.moved hmv (fun _ h => h) d x u hx))
      have k3 := k1.below hb3
      have hcall2 := hide (l2Told_any d _ _ _ w3 hrow (hS.later hB3.size) hnod)
      have hlt3 : w.heap.size + 1 < w3.heap.size := k3.lt
      clear hrow hb3 hpr hmv hSw k0 k1 hB1 x0 x1 x2 x3 x4 y0 y1 y2 y3 y4 yf
      go_wp2_with fail
      refine Calls.mono hcall2.out ?_
      rintro e w4 ⟨r, rfl, hr, hb4⟩
      obtain ⟨r0, r1, r2, r3, r4, r5, r6, r7, r8, rfl⟩ := hr.shape
      have HF := hide (tell_endA hr (below_trans hB3 hb4) (by omega) hlt3)
      have k4 := k3.below hb4
      obtain ⟨y0, y1, y2, y3, y4⟩ := k4.cell
      have yf := k4.frozen
      clear hr hb4 k3 k4 hcall2 hB3
      go_wp2_with fail
      rw [hR.out]
      exact bodyPost_ret (v := .tuple #[.agg #[.int .i64 r0, .int .i64 r1, .string r2, .slice r3 r4 r5, .slice r6 r7 r8], .bool (okT (d + 1) (rowT d ((t.list.drop (cutA i t.list.length)).take (cutB i j t.list.length - cutA i t.list.length))))]) (by simp [results, Tryz.results16, go_sem, y0, y1, y2, y3, y4]) rfl ⟨_, rfl, (HF.out _ rfl).1, (HF.out _ rfl).2⟩
  · by_cases h4 : t.kind = 4
    · have q5 : (t.kind != 5) = true := by simp [h4]
      have q4 : (t.kind != 4) = false := by simp [h4]
      have q4' : (t.kind == 4) = true := by simp [h4]
      obtain ⟨hl0, hstr⟩ := hp4 h4
      have hssz : t.str.size ≤ 12 := strOk_size hstr
      obtain ⟨hab, hbn⟩ := cut_le i j t.str.size
      have hR0 := cutR_some hok (cutF_word (i := i) (j := j) h4)
      have hoke : okT (d + 1) (wordT d (t.str.extract (cutA i t.str.size) (cutB i j t.str.size))) = true := okT_word (strOk_cut hstr _ _)
      have hR : Hid (cutR d t i j = (wordT d (t.str.extract (cutA i t.str.size) (cutB i j t.str.size)), true)) := by
        show cutR d t i j = _
        rw [hR0, toldT, if_pos hoke, hoke]
      have hm1 : Hid (max (t.list.length : Int) (t.str.size : Int) = (t.str.size : Int)) := by
        have h0 : t.list.length = 0 := hl0
        show max _ _ = _
        omega
      have hm2 : Hid (max (edge i t.str.size : Int) (edge j t.str.size : Int) = (cutB i j t.str.size : Int)) := by show _ = (cutB i j t.str.size : Int); unfold cutB; omega
      have hesz : (t.str.extract (cutA i t.str.size) (cutB i j t.str.size)).size < 281474976710656 := by
        rw [ByteArray.size_extract]
        omega
      have hend : Hid (∀ wF, wF = set5 w1 (w.heap.size + 1) 0 (.int .i64 4) (.int .i64 0) (.string (t.str.extract (cutA i t.str.size) (cutB i j t.str.size))) (.slice none 0 0) (.slice none 0 0) → ValAt (Fresh w wF) wF (d + 1) (wordT d (t.str.extract (cutA i t.str.size) (cutB i j t.str.size))) (.agg #[.int .i64 4, .int .i64 0, .string (t.str.extract (cutA i t.str.size) (cutB i j t.str.size)), .slice none 0 0, .slice none 0 0]) ∧ Below w.heap.size w wF) := by
        intro wF hF
        refine ⟨word_tree hesz, ?_⟩
        rw [hF]
        exact below_set5 hB1 (by omega) _ _ _ _ _ _
      clear hp5 hp4 h4 h5 hno hl0 hstr hR0 hoke hl k0 k1 hok hB1
      go_wp2_with fail
      refine (l1Max_any _ _ w1).mono ?_
      rintro e w1' ⟨rfl, rfl⟩
      rw [hm1.out]
      go_wp2_with fail
      refine (l4Edge_any i t.str.size _ hi (by omega)).mono ?_
      rintro e w1' ⟨rfl, rfl⟩
      go_wp2_with fail
      refine (l4Edge_any j t.str.size _ hj (by omega)).mono ?_
      rintro e w1' ⟨rfl, rfl⟩
      go_wp2_with fail
      refine (l1Max_any _ _ _).mono ?_
      rintro e w1' ⟨rfl, rfl⟩
      rw [hm2.out]
      have hA : Hid (edge i t.str.size = cutA i t.str.size) := rfl
      rw [hA.out]
      go_wp2_with fail
      rw [hR.out]
      refine bodyPost_ret (v := .tuple #[.agg #[.int .i64 4, .int .i64 0, .string (t.str.extract (cutA i t.str.size) (cutB i j t.str.size)), .slice none 0 0, .slice none 0 0], .bool true]) (by simp [results, Tryz.results16, go_sem, y0, y1, y2, y3, y4]) rfl ⟨_, rfl, (hend.out _ rfl).1, (hend.out _ rfl).2⟩
    · have q5 : (t.kind != 5) = true := by simp [h5]
      have q4 : (t.kind != 4) = true := by simp [h4]
      have hz := hide (cutR_none (cutF_other (i := i) (j := j) h5 h4))
      have HN := hno w1 hB1
      clear k0 k1 hB1 hno h4 h5 hp4 hp5
      go_wp2_with fail
      rw [hz.out]
      refine bodyPost_ret (v := .tuple #[zeroVal, .bool false]) (by simp [results, Tryz.results16, go_sem, zeroVal, y0, y1, y2, y3, y4]; rfl) rfl ⟨_, rfl, zeroAt d _ _, HN.out _ rfl⟩
end Go.Proofs.YtmkoeomkbbmoaaaGreatDoor

/- pieceOf, RowCut of the program. -/
namespace Go.Proofs.YtmkoeomkbbmoaaaGreatDoor
open Go.RowKit Go.Deep

/-- What pieceOf is asked to give. -/
def PieceQ (d : Nat) (S : Nat → Prop) (t : Tr (d + 1)) (i j : Int) (w : World) (e : Ending) (w' : World) : Prop :=
  Below w.heap.size w w' ∧ ((∃ x u, cutF d t i j = some x ∧ e = .returned (.tuple #[u, .nilIface]) ∧ TreeG S w' (d + 1) x u) ∨ (cutF d t i j = none ∧ ∃ why, e = .returned (.tuple #[.nilIface, faultV why])))

set_option maxRecDepth 100000 in
set_option maxHeartbeats 4000000 in
theorem pieceOf_any (d : Nat) (S : Nat → Prop) (t : Tr (d + 1)) (u : Value) (i j : Int) (hi : I64 i) (hj : I64 j) (w : World) (hu : TreeG S w (d + 1) t u) (hS : Within S w) (hcap : ∀ sa n sc, u = .iface 83 (.agg #[.slice sa n sc]) → n ≤ sc) :
    Calls Tryz.prog 43 #[u, .int .i64 i, .int .i64 j] w (PieceQ d S t i j w) := by
  go_enter Tryz.func43, Tryz.ntmps43
  rcases hu with ⟨k', h1, hxe, rfl⟩ | ⟨n', h1, hxe, rfl⟩ | ⟨s', h1, hxe, rfl⟩ | ⟨ys, sv, h1, hxe, rfl, hr⟩ | ⟨keys, ys, ps, r, es, h1, h2, h3, h4, hxe, rfl, hr, hm, he⟩
  · have a5 := Tryz.asR_B
    have a4 := Tryz.asS_B
    have hq : Hid (cutF d t i j = none) := cutF_other (by rw [hxe]; show k' ≠ 5; omega) (by rw [hxe]; show k' ≠ 4; omega)
    clear hxe hcap
    go_wp2_with fail
    go_ret2
    exact ⟨by first | exact Below.refl _ _ | exact below_alloc1 _ _ | exact below_trans (below_alloc1 _ _) (below_alloc1 _ _), Or.inr ⟨hq.out, _, rfl⟩⟩
  · have a5 := Tryz.asR_N
    have a4 := Tryz.asS_N
    have hq : Hid (cutF d t i j = none) := cutF_other (by rw [hxe]; show (3 : Int) ≠ 5; omega) (by rw [hxe]; show (3 : Int) ≠ 4; omega)
    clear hxe hcap
    go_wp2_with fail
    go_ret2
    exact ⟨by first | exact Below.refl _ _ | exact below_alloc1 _ _ | exact below_trans (below_alloc1 _ _) (below_alloc1 _ _), Or.inr ⟨hq.out, _, rfl⟩⟩
  · have a5 := Tryz.asR_S
    have a4 := Tryz.asS_S
    have hF : Hid (cutF d t i j = some (wordT d (s'.extract (cutA i s'.size) (cutB i j s'.size)))) := by
      show cutF d t i j = _
      rw [cutF_word (by rw [hxe]), hxe]
    obtain ⟨hab, hbn⟩ := cut_le i j s'.size
    have hesz : Hid ((s'.extract (cutA i s'.size) (cutB i j s'.size)).size ≤ 1000) := by
      show (s'.extract (cutA i s'.size) (cutB i j s'.size)).size ≤ 1000
      rw [ByteArray.size_extract]
      omega
    have hpc := hide (fun w' => piece_any i j s'.size w' hi hj h1)
    clear hxe hcap
    go_wp2_with fail
    refine Calls.mono (hpc.out _) ?_
    rintro e w1 ⟨rfl, rfl⟩
    go_wp2_with fail
    go_ret2
    exact ⟨below_alloc1 _ _, Or.inl ⟨_, _, hF.out, rfl, Or.inr (Or.inr (Or.inl ⟨_, hesz.out, rfl, rfl⟩))⟩⟩
  · have a5 := Tryz.asR_R
    obtain ⟨sa, sc, rfl, _⟩ := hr.open'
    have hcs : ys.length ≤ sc := hcap _ _ _ rfl
    have hF : Hid (cutF d t i j = some (rowT d ((ys.drop (cutA i ys.length)).take (cutB i j ys.length - cutA i ys.length)))) := by
      show cutF d t i j = _
      rw [cutF_row (by rw [hxe]), hxe]
    obtain ⟨hab, hbn⟩ := cut_le i j ys.length
    have hpc := hide (fun w' => piece_any i j ys.length w' hi hj h1)
    have hlen : Hid (((ys.drop (cutA i ys.length)).take (cutB i j ys.length - cutA i ys.length)).length ≤ 1000) := by
      show ((ys.drop (cutA i ys.length)).take (cutB i j ys.length - cutA i ys.length)).length ≤ 1000
      rw [List.length_take, List.length_drop]
      omega
    have hA := below_alloc1 w (.cells #[.slice sa ys.length sc] 83)
    have hrA := hr.moved (At' := TreeG S (w.alloc (.cells #[.slice sa ys.length sc] 83)) d) (hS.same hA) (fun _ h => h) (fun x u hx => TreeG.moved (hS.same hA) (fun _ h => h) d x u hx)
    by_cases hca : sc = cutA i ys.length
    · subst hca
      have hpr : Hid (Row1At S (w.alloc (.cells #[.slice sa ys.length (cutA i ys.length)] 83)) (TreeG S (w.alloc (.cells #[.slice sa ys.length (cutA i ys.length)] 83)) d) (.slice sa (cutB i j ys.length - cutA i ys.length) 0) ((ys.drop (cutA i ys.length)).take (cutB i j ys.length - cutA i ys.length))) := by
        have e0 : cutB i j ys.length - cutA i ys.length = 0 := by omega
        rw [e0, List.take_zero]
        exact Row1At.none _ _
      have HA := hide hA
      clear hxe hcap hr hrA hA
      go_wp2_with fail
      refine Calls.mono (hpc.out _) ?_
      rintro e w1 ⟨rfl, rfl⟩
      go_wp2_with fail
      go_ret2
      exact ⟨HA.out, Or.inl ⟨_, _, hF.out, rfl, Or.inr (Or.inr (Or.inr (Or.inl ⟨_, _, hlen.out, rfl, rfl, hpr.out⟩)))⟩⟩
    · have hpr : Hid (Row1At S (w.alloc (.cells #[.slice sa ys.length sc] 83)) (TreeG S (w.alloc (.cells #[.slice sa ys.length sc] 83)) d) (.slice (sa.map (fun x => x.add (cutA i ys.length))) (cutB i j ys.length - cutA i ys.length) (sc - cutA i ys.length)) ((ys.drop (cutA i ys.length)).take (cutB i j ys.length - cutA i ys.length))) := hrA.piece _ hab hbn
      have HA := hide hA
      clear hxe hcap hr hrA hA
      go_wp2_with fail
      refine Calls.mono (hpc.out _) ?_
      rintro e w1 ⟨rfl, rfl⟩
      go_wp2_with fail
      go_ret2
      exact ⟨HA.out, Or.inl ⟨_, _, hF.out, rfl, Or.inr (Or.inr (Or.inr (Or.inl ⟨_, _, hlen.out, rfl, rfl, hpr.out⟩)))⟩⟩
  · have a5 := Tryz.asR_M
    have a4 := Tryz.asS_M
    have hq : Hid (cutF d t i j = none) := cutF_other (by rw [hxe]; show (6 : Int) ≠ 5; omega) (by rw [hxe]; show (6 : Int) ≠ 4; omega)
    clear hxe hcap he hm hr h4 h3 h2
    go_wp2_with fail
    go_ret2
    exact ⟨by first | exact Below.refl _ _ | exact below_alloc1 _ _ | exact below_trans (below_alloc1 _ _) (below_alloc1 _ _), Or.inr ⟨hq.out, _, rfl⟩⟩

set_option maxRecDepth 100000 in
set_option maxHeartbeats 2000000 in
theorem implRowCut_any (d : Nat) (S : Nat → Prop) (t : Tr (d + 1)) (v : Value) (i j : Int) (hi : I64 i) (hj : I64 j) (w : World) (hv : ValAt S w (d + 1) t v) (hS : Within S w) (hg : ErrType w) :
    Calls Tryz.prog 17 #[v, .int .i64 i, .int .i64 j] w (TellQ d (cutR d t i j).1 (cutR d t i j).2 w) := by
  obtain ⟨k, n, s, ak, lk, ck, al, ll, cl, rfl⟩ := hv.shape
  obtain ⟨W0, hW⟩ : ∃ W0, W0 = (w.alloc (.cells #[.int .i64 k, .int .i64 n, .string s, .slice ak lk ck, .slice al ll cl] 29)).alloc (.cells #[.int .i64 0, .int .i64 0, .string { data := #[] }, .slice none 0 0, .slice none 0 0] 29) := ⟨_, rfl⟩
  have hW0 : Below w.heap.size w W0 := by rw [hW]; exact below_trans (below_alloc1 _ _) (below_alloc1 _ _)
  have k1 : Blk5 W0 (w.heap.size + 1) 29 (.int .i64 0) (.int .i64 0) (.string { data := #[] }) (.slice none 0 0) (.slice none 0 0) := by
    have := Blk5.new (w.alloc (.cells #[.int .i64 k, .int .i64 n, .string s, .slice ak lk ck, .slice al ll cl] 29)) 29 (.int .i64 0) (.int .i64 0) (.string { data := #[] }) (.slice none 0 0) (.slice none 0 0)
    rw [World.size_alloc] at this
    rw [hW]
    exact this
  have HW := hide hW
  clear hW
  go_enter Tryz.func17, Tryz.ntmps17
  go_wp2_with fail
  rw [← HW.out]
  clear HW
  refine (given_own d S t _ W0 (hv.same (hS.same hW0)) (hS.later hW0.size)).mono ?_
  rintro en w1 ⟨hb1, hq⟩
  have hB1 := below_trans hW0 hb1
  have k2 := k1.below hb1
  have hg1 := hg.below hB1
  have hl1 := k1.lt
  have hs0 := hW0.size
  have hs1 := hb1.size
  clear hv
  -- what is told, however it is
  have hfin : ∀ (w1' : World), Below W0.heap.size w1 w1' → ∀ (x : Tr (d + 1)) (ok : Bool), Hid (∀ en w2, TellQ d x ok w1' en w2 → ∃ v0 v1 v2 v3 v4 v5 v6 v7 v8, en = .returned (.tuple #[.agg #[.int .i64 v0, .int .i64 v1, .string v2, .slice v3 v4 v5, .slice v6 v7 v8], .bool ok]) ∧
      Blk5 w2 (w.heap.size + 1) 29 (.int .i64 0) (.int .i64 0) (.string { data := #[] }) (.slice none 0 0) (.slice none 0 0) ∧
      ∀ wF, wF = set5 w2 (w.heap.size + 1) 0 (.int .i64 v0) (.int .i64 v1) (.string v2) (.slice v3 v4 v5) (.slice v6 v7 v8) → ValOwn wF (d + 1) (Fresh w wF) x (.agg #[.int .i64 v0, .int .i64 v1, .string v2, .slice v3 v4 v5, .slice v6 v7 v8]) ∧ Below w.heap.size w wF) := fun w1' hb' x ok => by
    intro en w2 ⟨v, he, hv, hb2⟩
    obtain ⟨v0, v1, v2, v3, v4, v5, v6, v7, v8, rfl⟩ := (ValOwn.at _ _ _ _ hv).shape
    have hs' := hb'.size
    exact ⟨v0, v1, v2, v3, v4, v5, v6, v7, v8, he, (k2.of_block (hb'.block _ hl1)).below hb2, tell_end hv (below_trans (hB1.trans (hb'.mono hs0)) hb2) (by omega) (by omega)⟩
  clear hW0 k1 hb1
  rcases hq with ⟨hok, u0, rfl, hu0, htop⟩ | ⟨hok, why, rfl⟩
  · have hcapU : ∀ sa n sc, u0 = .iface 83 (.agg #[.slice sa n sc]) → n ≤ sc := by
      intro sa n' sc he
      subst he
      rcases hu0 with ⟨k', h1, _, h3⟩ | ⟨k', h1, _, h3⟩ | ⟨k', h1, _, h3⟩ | ⟨ys, sv, h1, hxe, h3, hr⟩ | ⟨keys, ys, ps, r, es, h1, h2, h3, h4, _, h6, hr, hm, he⟩
      · simp at h3
      · simp at h3
      · simp at h3
      · obtain ⟨sv', vs, he, hto⟩ := htop.1 (by rw [hxe])
        simp at he
        subst he
        rcases hto.1.2 with ⟨h, _⟩ | ⟨g, cap, cur, h, _, _, hle, _⟩
        · simp at h; omega
        · simp at h; omega
      · simp at h6
    have hcall := hide (pieceOf_any d (Fresh W0 w1) t u0 i j hi hj w1 hu0 (Fresh.within _ _) hcapU)
    obtain ⟨T0, u1, rfl⟩ := hu0.iface
    have HR := hide hok
    clear hu0 htop hcapU hok
    go_wp2_with fail
    refine Calls.mono hcall.out ?_
    rintro en w2 ⟨hb2, hq⟩
    clear hcall
    have hz2 := hb2.size
    have h00 : 0 < W0.heap.size := Nat.lt_of_lt_of_le hg.lt hs0
    have hg2 : ErrType w2 := hg1.below hb2
    rcases hq with ⟨x, u, hx, rfl, hu⟩ | ⟨hx, why, rfl⟩
    · obtain ⟨T, u', rfl⟩ := hu.iface
      have hT := hide (cutR_some HR.out hx)
      have hcall := hide (told_tree d _ x _ w2 hu (fun b hb => Nat.lt_of_lt_of_le hb.2 hz2))
      clear hx hu
      go_wp2_with fail
      refine Calls.mono hcall.out ?_
      intro en w3 hq
      obtain ⟨v0, v1, v2, v3, v4, v5, v6, v7, v8, rfl, k3, hF⟩ := (hfin w2 (hb2.mono hs1) _ _).out en w3 hq
      have HF := hide hF
      obtain ⟨y0, y1, y2, y3, y4⟩ := k3.cell
      have yf := k3.frozen
      clear hF hq hfin hcall k3
      go_wp2_with fail
      refine bodyPost_ret (v := .tuple #[.agg #[.int .i64 v0, .int .i64 v1, .string v2, .slice v3 v4 v5, .slice v6 v7 v8], .bool (okT (d + 1) x)]) (by simp [results, Tryz.results17, go_sem, y0, y1, y2, y3, y4]) rfl ⟨_, by rw [hT.out], by rw [hT.out]; exact (HF.out _ rfl).1, (HF.out _ rfl).2⟩
    · have hT := hide (cutR_none hx)
      have hcall := hide (told_fault d .nilIface why w2 hg2)
      unfold faultV
      clear hx
      go_wp2_with fail
      refine Calls.mono hcall.out ?_
      intro en w3 hq
      obtain ⟨v0, v1, v2, v3, v4, v5, v6, v7, v8, rfl, k3, hF⟩ := (hfin w2 (hb2.mono hs1) _ _).out en w3 hq
      have HF := hide hF
      obtain ⟨y0, y1, y2, y3, y4⟩ := k3.cell
      have yf := k3.frozen
      clear hF hq hfin hcall k3
      go_wp2_with fail
      refine bodyPost_ret (v := .tuple #[.agg #[.int .i64 v0, .int .i64 v1, .string v2, .slice v3 v4 v5, .slice v6 v7 v8], .bool false]) (by simp [results, Tryz.results17, go_sem, y0, y1, y2, y3, y4]) rfl ⟨_, by rw [hT.out], by rw [hT.out]; exact (HF.out _ rfl).1, (HF.out _ rfl).2⟩
  · have hT := hide (cutR_bad (i := i) (j := j) hok)
    have hcall := hide (told_fault d .nilIface why w1 hg1)
    unfold faultV
    go_wp2_with fail
    refine Calls.mono hcall.out ?_
    intro en w2 hq
    obtain ⟨v0, v1, v2, v3, v4, v5, v6, v7, v8, rfl, k3, hF⟩ := (hfin w1 (Below.refl _ _) _ _).out en w2 hq
    have HF := hide hF
    obtain ⟨y0, y1, y2, y3, y4⟩ := k3.cell
    have yf := k3.frozen
    clear hF hq hfin hcall k3
    go_wp2_with fail
    refine bodyPost_ret (v := .tuple #[.agg #[.int .i64 v0, .int .i64 v1, .string v2, .slice v3 v4 v5, .slice v6 v7 v8], .bool false]) (by simp [results, Tryz.results17, go_sem, y0, y1, y2, y3, y4]) rfl ⟨_, by rw [hT.out], by rw [hT.out]; exact (HF.out _ rfl).1, (HF.out _ rfl).2⟩
end Go.Proofs.YtmkoeomkbbmoaaaGreatDoor
