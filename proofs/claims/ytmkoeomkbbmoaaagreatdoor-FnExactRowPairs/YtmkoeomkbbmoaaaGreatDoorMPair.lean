/- A row of the model's that is being made out of trees that lie elsewhere; what is told, in the result's own cells. -/
import Derived.Test.YtmkoeomkbbmoaaaGreatDoorWGTo
import Derived.Test.YtmkoeomkbbmoaaaGreatDoorWCopy
import Derived.Test.YtmkoeomkbbmoaaaGreatDoorWAssert
import Derived.Test.YtmkoeomkbbmoaaaGreatDoorWKeys
import Derived.Test.YtmkoeomkbbmoaaaGreatDoorWLook
import Derived.Test.YtmkoeomkbbmoaaaGreatDoorWTold
namespace Go.Proofs.YtmkoeomkbbmoaaaGreatDoor
open Go.RowKit Go.Deep

theorem nodes_wt : ∀ (d : Nat) (t : Tr d), nodes d t ≤ wtT d t
  | 0, t => Empty.elim t
  | d + 1, t => by
    have h : ∀ xs : List (Tr d), (xs.map (nodes d)).sum ≤ (xs.map (wtT d)).sum := by
      intro xs
      induction xs with
      | nil => exact Nat.le_refl _
      | cons x r ih =>
        have := nodes_wt d x
        simp only [List.map_cons, List.sum_cons]
        omega
    have := h (Nd.list t)
    rw [nodes, wtT]
    omega
theorem nodes_ok {d : Nat} {t : Tr d} (h : okT d t = true) : nodes d t ≤ 300 := Nat.le_trans (nodes_wt d t) (wtT_ok h)
theorem sum_le_of {α : Type} {f : α → Nat} {c : Nat} : ∀ {xs : List α}, (∀ x ∈ xs, f x ≤ c) → (xs.map f).sum ≤ c * xs.length
  | [], _ => by simp
  | x :: r, h => by
    have h1 := h x (by simp)
    have h2 := sum_le_of (xs := r) (fun y hy => h y (by simp [hy]))
    simp only [List.map_cons, List.sum_cons, List.length_cons]
    rw [Nat.mul_succ]
    omega
/-- A row of the model's that owns its cells; its trees lie in blocks of S. -/
def VTo {d : Nat} (S : Nat → Prop) (N : Nat) (w : World) (lv : Value) (xs : List (Tr d)) (vs : List Value) : Prop :=
  w.ownsRow N 29 5 lv xs.length vs ∧ ∀ (j : Nat) (x : Tr d), xs[j]? = some x → ∃ c0 c1 c2 c3 c4, vs[j * 5]? = some c0 ∧ vs[j * 5 + 1]? = some c1 ∧ vs[j * 5 + 2]? = some c2 ∧ vs[j * 5 + 3]? = some c3 ∧ vs[j * 5 + 4]? = some c4 ∧ ValAt S w d x (.agg #[c0, c1, c2, c3, c4])

theorem VTo.grow {d N : Nat} {S : Nat → Prop} {wr w2 : World} {lv lv' : Value} {xs : List (Tr d)} {vs : List Value} {x : Tr d} {v0 v1 v2 v3 v4 : Value} (h : VTo S N wr lv xs vs) (hs : Same S wr w2) (hx : ValAt S wr d x (.agg #[v0, v1, v2, v3, v4])) (hown : w2.ownsRow N 29 5 lv' (xs.length + 1) (vs ++ [v0, v1, v2, v3, v4])) : VTo S N w2 lv' (xs ++ [x]) (vs ++ [v0, v1, v2, v3, v4]) := by
  obtain ⟨h1, h2⟩ := h
  have hlen : vs.length = xs.length * 5 := h1.1
  refine ⟨by rw [List.length_append]; exact hown, fun j y hy => ?_⟩
  by_cases e : j < xs.length
  · rw [List.getElem?_append_left e] at hy
    obtain ⟨c0, c1, c2, c3, c4, e0, e1, e2, e3, e4, hv⟩ := h2 j y hy
    refine ⟨c0, c1, c2, c3, c4, ?_, ?_, ?_, ?_, ?_, hv.same hs⟩
    · rw [List.getElem?_append_left (by omega)]; exact e0
    · rw [List.getElem?_append_left (by omega)]; exact e1
    · rw [List.getElem?_append_left (by omega)]; exact e2
    · rw [List.getElem?_append_left (by omega)]; exact e3
    · rw [List.getElem?_append_left (by omega)]; exact e4
  · have hj : j = xs.length := by
      have := (List.getElem?_eq_some_iff.1 hy).1
      rw [List.length_append, List.length_singleton] at this
      omega
    subst hj
    rw [List.getElem?_append_right (Nat.le_refl _), Nat.sub_self] at hy
    cases hy
    refine ⟨v0, v1, v2, v3, v4, ?_, ?_, ?_, ?_, ?_, hx.same hs⟩
    · rw [List.getElem?_append_right (by omega), hlen]; simp
    · rw [List.getElem?_append_right (by omega), hlen]; simp
    · rw [List.getElem?_append_right (by omega), hlen]; simp
    · rw [List.getElem?_append_right (by omega), hlen]; simp
    · rw [List.getElem?_append_right (by omega), hlen]; simp

theorem VTo.moved {d N : Nat} {S : Nat → Prop} {w w' : World} {lv : Value} {xs : List (Tr d)} {vs : List Value} (h : VTo S N w lv xs vs) (hs : Same S w w') (ho : ∀ g, lv.ownBlock = some g → w'.heap[g]? = w.heap[g]?) : VTo S N w' lv xs vs := by
  obtain ⟨h1, h2⟩ := h
  refine ⟨⟨h1.1, ?_⟩, fun j x hx => ?_⟩
  · rcases h1.2 with h | ⟨g, cap, cur, hv, hg, hh, hrest⟩
    · exact Or.inl h
    · exact Or.inr ⟨g, cap, cur, hv, hg, (ho g (by rw [hv]; rfl)).trans hh, hrest⟩
  · obtain ⟨c0, c1, c2, c3, c4, e0, e1, e2, e3, e4, hv⟩ := h2 j x hx
    exact ⟨c0, c1, c2, c3, c4, e0, e1, e2, e3, e4, hv.same hs⟩

/-- The row, where it lies. -/
theorem VTo.at {d N : Nat} {S : Nat → Prop} {w : World} {lv : Value} {xs : List (Tr d)} {vs : List Value} (h : VTo S N w lv xs vs) (hl : xs.length < 3518437208883) : RowAt (fun b => S b ∨ (N ≤ b ∧ b < w.heap.size)) w (ValAt (fun b => S b ∨ (N ≤ b ∧ b < w.heap.size)) w d) lv xs := by
  obtain ⟨h1, h2⟩ := h
  refine ⟨hl, ?_⟩
  rcases h1.2 with ⟨rfl, h0⟩ | ⟨g, cap, cur, rfl, hg, hh, hnc, _, hcs, htake⟩
  · exact ⟨none, 0, by rw [h0], Or.inl (List.eq_nil_of_length_eq_zero h0)⟩
  · refine ⟨some ⟨g, 0, none⟩, cap, rfl, Or.inr ⟨g, 0, Or.inr ⟨hg, (Array.getElem?_eq_some_iff.1 hh).1⟩, rfl, fun i x hx => ?_⟩⟩
    obtain ⟨c0, c1, c2, c3, c4, e0, e1, e2, e3, e4, hv⟩ := h2 i x hx
    have hi := (List.getElem?_eq_some_iff.1 hx).1
    have hc : ∀ j c, j < xs.length * 5 → vs[j]? = some c → w.cell? ⟨g, 0 + j, none⟩ = some c := fun j c hj hc => by
      rw [Nat.zero_add]
      exact (h1.cellAt j hj).trans hc
    refine ⟨c0, c1, c2, c3, c4, hc _ _ (by omega) e0, hc _ _ (by omega) e1, hc _ _ (by omega) e2, hc _ _ (by omega) e3, hc _ _ (by omega) e4, hv.mono (fun b hb => Or.inl hb)⟩

/-- Another tree at a place. -/
theorem VTo.put {d N g n cap k : Nat} {S : Nat → Prop} {w : World} {xs : List (Tr d)} {vs : List Value} {x : Tr d} {v0 v1 v2 v3 v4 : Value} (h : VTo S N w (.slice (some ⟨g, 0, none⟩) n cap) xs vs) (hn : n = xs.length) (hk : k < xs.length) (hx : ValAt S w d x (.agg #[v0, v1, v2, v3, v4])) (hS : ∀ b, S b → b < N) :
    (∃ vs', VTo S N (set5 w g (k * 5) v0 v1 v2 v3 v4) (.slice (some ⟨g, 0, none⟩) n cap) (xs.set k x) vs') ∧ Below N w (set5 w g (k * 5) v0 v1 v2 v3 v4) := by
  subst hn
  obtain ⟨h1, h2⟩ := h
  have hlen : vs.length = xs.length * 5 := h1.1
  have hgN := (h1.lt g rfl).1
  have hB : Below N w (set5 w g (k * 5) v0 v1 v2 v3 v4) := below_set5 (Below.refl _ _) hgN _ _ _ _ _ _
  have hsame : Same S w (set5 w g (k * 5) v0 v1 v2 v3 v4) := fun b hb => hB.block b (hS b hb)
  have ho := (((((h1.stored (k * 5) v0).1.stored (k * 5 + 1) v1).1.stored (k * 5 + 2) v2).1.stored (k * 5 + 3) v3).1.stored (k * 5 + 4) v4).1
  refine ⟨⟨_, by rw [List.length_set]; exact ho, fun j y hy => ?_⟩, hB⟩
  by_cases e : k = j
  · subst e
    rw [List.getElem?_set_self hk] at hy
    cases hy
    refine ⟨v0, v1, v2, v3, v4, ?_, ?_, ?_, ?_, ?_, hx.same hsame⟩
    all_goals simp [List.getElem?_set, hlen]
    all_goals omega
  · rw [List.getElem?_set_ne e] at hy
    obtain ⟨c0, c1, c2, c3, c4, e0, e1, e2, e3, e4, hv⟩ := h2 j y hy
    refine ⟨c0, c1, c2, c3, c4, ?_, ?_, ?_, ?_, ?_, hv.same hsame⟩
    · rw [List.getElem?_set_ne (by omega), List.getElem?_set_ne (by omega), List.getElem?_set_ne (by omega), List.getElem?_set_ne (by omega), List.getElem?_set_ne (by omega)]; exact e0
    · rw [List.getElem?_set_ne (by omega), List.getElem?_set_ne (by omega), List.getElem?_set_ne (by omega), List.getElem?_set_ne (by omega), List.getElem?_set_ne (by omega)]; exact e1
    · rw [List.getElem?_set_ne (by omega), List.getElem?_set_ne (by omega), List.getElem?_set_ne (by omega), List.getElem?_set_ne (by omega), List.getElem?_set_ne (by omega)]; exact e2
    · rw [List.getElem?_set_ne (by omega), List.getElem?_set_ne (by omega), List.getElem?_set_ne (by omega), List.getElem?_set_ne (by omega), List.getElem?_set_ne (by omega)]; exact e3
    · rw [List.getElem?_set_ne (by omega), List.getElem?_set_ne (by omega), List.getElem?_set_ne (by omega), List.getElem?_set_ne (by omega), List.getElem?_set_ne (by omega)]; exact e4
/-- What was told is put into the result's own cells. -/
theorem tell_endA {d : Nat} {t : Tr (d + 1)} {w w1 w2 : World} {v0 v1 : Int} {v2 : ByteArray} {v3 v6 : Option Addr} {v4 v5 v7 v8 rb : Nat} (hv : ValAt (Fresh w1 w2) w2 (d + 1) t (.agg #[.int .i64 v0, .int .i64 v1, .string v2, .slice v3 v4 v5, .slice v6 v7 v8])) (hb : Below w.heap.size w w2)
    (hr : w.heap.size ≤ rb) (hr1 : rb < w1.heap.size) :
    ∀ wF, wF = set5 w2 rb 0 (.int .i64 v0) (.int .i64 v1) (.string v2) (.slice v3 v4 v5) (.slice v6 v7 v8) → ValAt (Fresh w wF) wF (d + 1) t (.agg #[.int .i64 v0, .int .i64 v1, .string v2, .slice v3 v4 v5, .slice v6 v7 v8]) ∧ Below w.heap.size w wF := by
  intro wF hF
  have hzF : wF.heap.size = w2.heap.size := by rw [hF, set5_size]
  refine ⟨ValAt.moved (fun b hb => ?_) (fun b hb => ⟨by have := hb.1; omega, by have := hb.2; omega⟩) (d + 1) t _ hv, ?_⟩
  · rw [hF, set5_block _ _ _ _ _ _ _ _ _ (by have := hb.1; omega)]
  · rw [hF]
    exact below_set5 hb hr _ _ _ _ _ _

end Go.Proofs.YtmkoeomkbbmoaaaGreatDoor

/- treesInRow: the trees of a row, in memory of their own. -/
namespace Go.Proofs.YtmkoeomkbbmoaaaGreatDoor
open Go.RowKit Go.Deep

/-- The trees of a row that is ok. -/
def treesL (d : Nat) (t : Tr (d + 1)) : Option (List (Tr d)) := if okT (d + 1) t = true then (if Nd.kind t = 5 then some (Nd.list t) else none) else none
theorem treesL_ok {d : Nat} {t : Tr (d + 1)} (h : okT (d + 1) t = true) : treesL d t = (if Nd.kind t = 5 then some (Nd.list t) else none) := if_pos h
theorem treesL_some {d : Nat} {t : Tr (d + 1)} {xs : List (Tr d)} (h : treesL d t = some xs) : okT (d + 1) t = true ∧ Nd.kind t = 5 ∧ Nd.list t = xs := by
  unfold treesL at h
  split at h
  · split at h
    · exact ⟨‹_›, ‹_›, by cases h; rfl⟩
    · cases h
  · cases h

/-- What treesInRow is asked to give. -/
def TreesOQ (d : Nat) (t : Tr (d + 1)) (w : World) (e : Ending) (w' : World) : Prop :=
  Below w.heap.size w w' ∧ ((∃ xs a cap vs, treesL d t = some xs ∧ e = .returned (.tuple #[.slice a xs.length cap, .nilIface]) ∧ GTo w.heap.size w' (.slice a xs.length cap) xs vs) ∨ (treesL d t = none ∧ ∃ why, e = .returned (.tuple #[.slice none 0 0, faultV why])))

set_option maxRecDepth 100000 in
set_option maxHeartbeats 4000000 in
theorem treesInRow_own (d : Nat) (S : Nat → Prop) (t : Tr (d + 1)) (v : Value) (w : World) (hv : ValAt S w (d + 1) t v) (hS : Within S w) :
    Calls Tryz.prog 54 #[v] w (TreesOQ d t w) := by
  obtain ⟨k, n, s, ak, lk, ck, al, ll, cl, rfl⟩ := hv.shape
  have hA := below_alloc1 w (.cells #[.int .i64 k, .int .i64 n, .string s, .slice ak lk ck, .slice al ll cl] 29)
  have hAs := hA.size
  go_enter Tryz.func54, Tryz.ntmps54
  go_wp2_with fail
  refine (given_own d S t _ _ (hv.same (hS.same hA)) (hS.later hA.size)).mono ?_
  rintro e w1 ⟨hb1, hq⟩
  have hB := below_trans hA hb1
  clear hb1 hA hv
  rcases hq with ⟨hok, u, rfl, hu, htop⟩ | ⟨hok, why, rfl⟩
  · rcases hu with ⟨k', h1, rfl, rfl⟩ | ⟨n', h1, rfl, rfl⟩ | ⟨s', h1, rfl, rfl⟩ | ⟨xs, sv, h1, rfl, rfl, hr⟩ | ⟨keys, xs, ps, r, es, h1, h2, h3, h4, rfl, rfl, hr, hm, he⟩
    · have a3 := Tryz.asR_B
      have hq : Hid (treesL d (Nd.mk k' 0 ByteArray.empty [] [] : Nd (Tr d)) = none) := by
        refine (treesL_ok hok).trans ?_
        show (if k' = 5 then _ else _) = _
        rw [if_neg (by omega)]
      have HB := hide hB
      clear hB htop
      go_wp2_with fail
      go_ret2
      exact ⟨below_trans HB.out (below_alloc1 _ _), Or.inr ⟨hq.out, _, rfl⟩⟩
    · have a3 := Tryz.asR_N
      have hq : Hid (treesL d (Nd.mk 3 n' ByteArray.empty [] [] : Nd (Tr d)) = none) := by
        exact (treesL_ok hok).trans rfl
      have HB := hide hB
      clear hB htop
      go_wp2_with fail
      go_ret2
      exact ⟨below_trans HB.out (below_alloc1 _ _), Or.inr ⟨hq.out, _, rfl⟩⟩
    · have a3 := Tryz.asR_S
      have hq : Hid (treesL d (Nd.mk 4 0 s' [] [] : Nd (Tr d)) = none) := by
        exact (treesL_ok hok).trans rfl
      have HB := hide hB
      clear hB htop
      go_wp2_with fail
      go_ret2
      exact ⟨below_trans HB.out (below_alloc1 _ _), Or.inr ⟨hq.out, _, rfl⟩⟩
    · have a3 := Tryz.asR_R
      obtain ⟨sa, sc, rfl, _⟩ := hr.open'
      have hq : Hid (treesL d (Nd.mk 5 0 ByteArray.empty [] xs : Nd (Tr d)) = some xs) := by
        exact (treesL_ok hok).trans rfl
      have hA2 := below_alloc1 w1 (.cells #[.slice sa xs.length sc] 83)
      have HB2 := hide (below_trans hB hA2)
      have hsz := hA2.size
      have HR : Hid (∃ vs, GTo w.heap.size (w1.alloc (.cells #[.slice sa xs.length sc] 83)) (.slice sa xs.length sc) xs vs) := by
        obtain ⟨sv', vs, he, hto⟩ := htop.1 rfl
        cases he
        exact ⟨vs, (gto_of (hto.moved hA2 (by omega)) (okT_row hok))⟩
      clear hB hA2 hr htop
      go_wp2_with fail
      go_ret2
      obtain ⟨vs, hvs⟩ := HR.out
      exact ⟨HB2.out, Or.inl ⟨xs, sa, sc, vs, hq.out, rfl, hvs⟩⟩
    · have a3 := Tryz.asR_M
      have hq : Hid (treesL d (Nd.mk 6 0 ByteArray.empty keys xs : Nd (Tr d)) = none) := by
        exact (treesL_ok hok).trans rfl
      have HB := hide hB
      clear hB htop he hm hr h4 h3 h2
      go_wp2_with fail
      go_ret2
      exact ⟨below_trans HB.out (below_alloc1 _ _), Or.inr ⟨hq.out, _, rfl⟩⟩
  · unfold faultV
    go_wp2_with fail
    go_ret2
    refine ⟨hB, Or.inr ⟨?_, why, rfl⟩⟩
    rw [treesL, if_neg (by rw [hok]; simp)]

end Go.Proofs.YtmkoeomkbbmoaaaGreatDoor

/- Rows of trees: what is told of the trees of a row. -/
namespace Go.Proofs.YtmkoeomkbbmoaaaGreatDoor
open Go.RowKit Go.Deep

/-- What is told of a row, f being what is told of its trees. -/
def rowTell {d e : Nat} (f : List (Tr d) → Option (Tr (e + 1))) (t : Tr (d + 1)) : Tr (e + 1) × Bool :=
  match treesL d t with
  | none => (zeroT e, false)
  | some xs =>
    match f xs with
    | none => (zeroT e, false)
    | some x => (toldT e x, okT (e + 1) x)
theorem okT_rowTell {d e : Nat} (f : List (Tr d) → Option (Tr (e + 1))) (t : Tr (d + 1)) : okT (e + 1) (rowTell f t).1 = true := by
  unfold rowTell
  split
  · exact okT_zero _
  · split
    · exact okT_zero _
    · exact okT_told _ _
theorem rowTell_none {d e : Nat} {f : List (Tr d) → Option (Tr (e + 1))} {t : Tr (d + 1)} (h : treesL d t = none) : rowTell f t = (zeroT e, false) := by
  unfold rowTell
  rw [h]
theorem rowTell_fault {d e : Nat} {f : List (Tr d) → Option (Tr (e + 1))} {t : Tr (d + 1)} {xs : List (Tr d)} (h : treesL d t = some xs) (hf : f xs = none) : rowTell f t = (zeroT e, false) := by
  unfold rowTell
  rw [h]
  show (match f xs with | none => _ | some x => _) = _
  rw [hf]
theorem rowTell_some {d e : Nat} {f : List (Tr d) → Option (Tr (e + 1))} {t : Tr (d + 1)} {xs : List (Tr d)} {x : Tr (e + 1)} (h : treesL d t = some xs) (hf : f xs = some x) : rowTell f t = (toldT e x, okT (e + 1) x) := by
  unfold rowTell
  rw [h]
  show (match f xs with | none => _ | some x => _) = _
  rw [hf]
/-- Rows of trees that are ok are small. -/
theorem nodes_row {d : Nat} {xs : List (Tr d)} (hxs : ∀ x ∈ xs, okT d x = true) (hl : xs.length ≤ 10000) : (nodes (d + 1) (rowT d xs) : Int) ≤ 4194304 := by
  have h1 : (xs.map (nodes d)).sum ≤ 300 * xs.length := sum_le_of (fun x hx => nodes_ok (hxs x hx))
  have h2 : nodes (d + 1) (rowT d xs) = 1 + (xs.map (nodes d)).sum := rfl
  rw [h2]
  omega
/-- What a function that tells of the trees of a row is asked to give. -/
def TellF (e N : Nat) (r : Option (Tr (e + 1))) (w : World) (en : Ending) (w' : World) : Prop :=
  Below N w w' ∧ ((∃ x u, r = some x ∧ en = .returned (.tuple #[u, .nilIface]) ∧ TreeG (fun b => N ≤ b ∧ b < w'.heap.size) w' (e + 1) x u) ∨ (r = none ∧ ∃ why, en = .returned (.tuple #[.nilIface, faultV why])))

end Go.Proofs.YtmkoeomkbbmoaaaGreatDoor

/- l2Told of the model: a tree in new memory, if it is right. -/
namespace Go.Proofs.YtmkoeomkbbmoaaaGreatDoor
open Go.RowKit Go.Deep

set_option maxRecDepth 100000 in
set_option maxHeartbeats 4000000 in
theorem l2Told_any (d : Nat) (S : Nat → Prop) (t : Tr (d + 1)) (v : Value) (w : World) (hv : ValAt S w (d + 1) t v) (hS : Within S w) (hsm : (nodes (d + 1) t : Int) ≤ 4194304) :
    Calls Tryz.prog 24 #[v] w (SpecQ d (toldT d t) (okT (d + 1) t) w) := by
  have hv0 := hv
  obtain ⟨k, n, s, ak, lk, ck, al, ll, cl, rfl⟩ := hv.shape
  obtain ⟨W0, hW⟩ : ∃ W0, W0 = (w.alloc (.cells #[.int .i64 k, .int .i64 n, .string s, .slice ak lk ck, .slice al ll cl] 29)).alloc (.cells #[.int .i64 0, .int .i64 0, .string { data := #[] }, .slice none 0 0, .slice none 0 0] 29) := ⟨_, rfl⟩
  have hW0 : Below w.heap.size w W0 := by rw [hW]; exact below_trans (below_alloc1 _ _) (below_alloc1 _ _)
  have k0 : Blk5 W0 w.heap.size 29 (.int .i64 k) (.int .i64 n) (.string s) (.slice ak lk ck) (.slice al ll cl) := by
    rw [hW]; exact (Blk5.new w 29 _ _ _ _ _).alloc _
  have k1 : Blk5 W0 (w.heap.size + 1) 29 (.int .i64 0) (.int .i64 0) (.string { data := #[] }) (.slice none 0 0) (.slice none 0 0) := by
    have := Blk5.new (w.alloc (.cells #[.int .i64 k, .int .i64 n, .string s, .slice ak lk ck, .slice al ll cl] 29)) 29 (.int .i64 0) (.int .i64 0) (.string { data := #[] }) (.slice none 0 0) (.slice none 0 0)
    rw [World.size_alloc] at this
    rw [hW]
    exact this
  have HW := hide hW
  clear hW hv
  go_enter Tryz.func24, Tryz.ntmps24
  go_wp2_with fail
  rw [← HW.out]
  clear HW
  refine (specValOk_any (d + 1) S t _ W0 (hv0.same (hS.same hW0)) (hS.later hW0.size) hsm).mono ?_
  rintro e w1 ⟨rfl, hb1⟩
  replace k0 := k0.below hb1
  replace k1 := k1.below hb1
  have hB1 := below_trans hW0 hb1
  obtain ⟨x0, x1, x2, x3, x4⟩ := k0.cell
  have hlt := k1.lt
  clear hb1 hW0
  cases hf : okT (d + 1) t with
  | false =>
    have hz : Hid (toldT d t = zeroT d) := by
      show toldT d t = _
      rw [toldT, hf]
      rfl
    have hno : Hid (∀ wF, wF = set5 w1 (w.heap.size + 1) 0 (.int .i64 0) (.int .i64 0) (.string { data := #[] }) (.slice none 0 0) (.slice none 0 0) → Below w.heap.size w wF) := by
      intro wF hF
      rw [hF]
      exact below_set5 hB1 (by omega) _ _ _ _ _ _
    obtain ⟨y0, y1, y2, y3, y4⟩ := k1.cell
    have yf := k1.frozen
    clear k0 k1 hB1 hv0
    go_wp2_with fail
    rw [hz.out, hf]
    refine bodyPost_ret (v := .tuple #[zeroVal, .bool false]) (by simp [results, Tryz.results24, go_sem, zeroVal, y0, y1, y2, y3, y4]; rfl) rfl ⟨_, rfl, zeroAt d _ _, hno.out _ rfl⟩
  | true =>
    have hz : Hid (toldT d t = t) := by
      show toldT d t = _
      rw [toldT, hf]
      rfl
    have hwt := wtT_ok hf
    go_wp2_with fail
    refine (l1Copy_any (d + 1) S t _ w1 (hv0.same (hS.same hB1)) (hS.later hB1.size) (by omega)).mono ?_
    rintro e w3 ⟨u, rfl, hu3, hb3⟩
    obtain ⟨u0, u1, u2, u3, u4, u5, u6, u7, u8, rfl⟩ := (ValOwn.at _ _ _ _ hu3).shape
    have HF := hide (tell_end hu3 (below_trans hB1 hb3) (by omega) hlt)
    have k3 := k1.below hb3
    clear hu3 hb3 k1 k0 hv0 x0 x1 x2 x3 x4
    obtain ⟨y0, y1, y2, y3, y4⟩ := k3.cell
    have yf := k3.frozen
    clear k3
    go_wp2_with fail
    rw [hz.out, hf]
    refine bodyPost_ret (v := .tuple #[.agg #[.int .i64 u0, .int .i64 u1, .string u2, .slice u3 u4 u5, .slice u6 u7 u8], .bool true]) (by simp [results, Tryz.results24, go_sem, y0, y1, y2, y3, y4]) rfl ⟨_, rfl, ValOwn.at _ _ _ _ (HF.out _ rfl).1, (HF.out _ rfl).2⟩
end Go.Proofs.YtmkoeomkbbmoaaaGreatDoor

/- append of trees onto a row of nothing. -/
namespace Go.Proofs.YtmkoeomkbbmoaaaGreatDoor
open Go.RowKit Go.Deep

/-- An append, as one step of a region in its order. -/
theorem wpList_append_run {P : Program} {ops : Array Oper} {rest : List Oper} {o : Oper} {a : Act} {w : World} {Q : Exit → Act → World → Prop} (Φ : Value → World → Prop) (hgd : o.guard = none) (s x : Operand) (t : TypeId)
    (ho : o.op = .call { callee := .builtin .append, args := #[s, x], argTypes := #[t, t] }) (vs vx : Value) (hs : a.eval s = vs) (hx : a.eval x = vx)
    (hrun : ∃ v' w', (Builtin.append_ #[t, t] o.type #[vs, vx]).run P w = .ok v' w' ∧ Φ v' w') (h : ∀ v' w', Φ v' w' → wpList P ops Q rest (a.put o.dst v') w') :
    wpList P ops Q (o :: rest) a w := by
  refine wpList_plain hgd fun K hK => ?_
  obtain ⟨v', w', hr, h2⟩ := hrun
  unfold Oper.wp execOp
  simp only [ho, resolve, invoke, builtin, Sem.run_bind, Sem.run_pure, Result.andThen_ok, List.map_toArray, List.map_cons, List.map_nil, hs, hx, hr]
  exact hK _ _ (h v' w' h2)

theorem Tryz.infoV2 : (Tryz.prog.info? 29).map (fun i => (i.zero, i.size, i.bytes)) = some (some zeroVal, 5, 80) := by kernel_rfl

/-- Trees, copied behind nothing: the cells alone. -/
theorem run_append_vals {d : Nat} (S : Nat → Prop) (xs : List (Tr d)) (al : Option Addr) (cl g : Nat) (ty : TypeId) (w : World) (hg : w.heap[g]? = some (.cells #[] 29 (0, 0))) (hv : RowAt S w (ValAt S w d) (.slice al xs.length cl) xs) (hSg : ¬ S g) (hS : Within S w) (hsm : xs.length ≤ 4194304) :
    ∃ v' w', (Builtin.append_ #[27, 27] ty #[.slice (some ⟨g, 0, none⟩) 0 0, .slice al xs.length cl]).run Tryz.prog w = .ok v' w' ∧
      ((∃ vs, VTo S g w' v' xs vs) ∧ w.grownBy w' (some g) ∧ ∃ a c, v' = .slice a xs.length c) := by
  obtain ⟨i0, hi, hz0, hz1, hz2⟩ := info_parts Tryz.infoV2
  have hgl := (Array.getElem?_eq_some_iff.1 hg).1
  have hu : Tryz.prog.underlying 27 = some (.slice 29) := Tryz.underlying27
  have hown : w.ownsRow g 29 5 (.slice (some ⟨g, 0, none⟩) 0 0) 0 [] := ⟨by simp, .inr ⟨g, 0, #[], rfl, Nat.le_refl _, hg, Nat.le_refl _, Nat.zero_le _, by simp, by simp⟩⟩
  by_cases h0 : xs = []
  · subst h0
    refine ⟨.slice (some ⟨g, 0, none⟩) 0 0, w, ?_, ⟨[], hown, fun j x h => by simp at h⟩, ⟨rfl, rfl, rfl, Nat.le_refl _, fun _ _ _ => rfl⟩, _, _, rfl⟩
    cases al with
    | none => simp [Builtin.append_, run_underlying hu, sizeOf, typeInfo, hi, Builtin.lenOf, Builtin.firstCells, loadCells, loadCellsFrom, storeCells, Result.andThen, hz1]
    | some a => simp [Builtin.append_, run_underlying hu, sizeOf, typeInfo, hi, Builtin.lenOf, Builtin.firstCells, loadCells, loadCellsFrom, storeCells, Result.andThen, hz1]
  · have hpos : 0 < xs.length := List.length_pos_iff.2 h0
    obtain ⟨b, o, _, _, _, _, _, _, rfl, hbS, _⟩ := hv.cell hpos
    have hcell : ∀ i x, xs[i]? = some x → ∃ c0 c1 c2 c3 c4, w.cell? ⟨b, o + i * 5, none⟩ = some c0 ∧ w.cell? ⟨b, o + i * 5 + 1, none⟩ = some c1 ∧ w.cell? ⟨b, o + i * 5 + 2, none⟩ = some c2 ∧ w.cell? ⟨b, o + i * 5 + 3, none⟩ = some c3 ∧ w.cell? ⟨b, o + i * 5 + 4, none⟩ = some c4 ∧ ValAt S w d x (.agg #[c0, c1, c2, c3, c4]) := by
      intro i x hx
      obtain ⟨b', o', x', c0, c1, c2, c3, c4, e', _, hx', e0, e1, e2, e3, e4, hval⟩ := hv.cell (List.getElem?_eq_some_iff.1 hx).1
      cases e'
      rw [hx] at hx'
      cases hx'
      exact ⟨c0, c1, c2, c3, c4, e0, e1, e2, e3, e4, hval⟩
    obtain ⟨news, hnl, hnews⟩ : ∃ news : List Value, news.length = xs.length * 5 ∧ ∀ j, j < xs.length * 5 → ∃ u, news[j]? = some u ∧ w.cell? ⟨b, o + j, none⟩ = some u := by
      refine ⟨(List.range (xs.length * 5)).map (fun j => (w.cell? ⟨b, o + j, none⟩).getD undef), by simp, fun j hj => ?_⟩
      have hq : j / 5 < xs.length := by omega
      obtain ⟨c0, c1, c2, c3, c4, e0, e1, e2, e3, e4, _⟩ := hcell (j / 5) _ (List.getElem?_eq_getElem hq)
      have hex : ∃ u, w.cell? ⟨b, o + j, none⟩ = some u := by
        rcases (by omega : j = j / 5 * 5 ∨ j = j / 5 * 5 + 1 ∨ j = j / 5 * 5 + 2 ∨ j = j / 5 * 5 + 3 ∨ j = j / 5 * 5 + 4) with e | e | e | e | e
        · exact ⟨c0, by rw [e]; exact e0⟩
        · exact ⟨c1, by rw [e, ← Nat.add_assoc]; exact e1⟩
        · exact ⟨c2, by rw [e, ← Nat.add_assoc]; exact e2⟩
        · exact ⟨c3, by rw [e, ← Nat.add_assoc]; exact e3⟩
        · exact ⟨c4, by rw [e, ← Nat.add_assoc]; exact e4⟩
      obtain ⟨u, hu⟩ := hex
      exact ⟨u, by simp [hj, hu], hu⟩
    have hone : ∀ u ∈ news, u.oneCell' = true := by
      intro u hu
      obtain ⟨j, hj⟩ := List.getElem?_of_mem hu
      have hjl := (List.getElem?_eq_some_iff.1 hj).1
      obtain ⟨u', hu', hc⟩ := hnews j (by omega)
      rw [hj] at hu'
      cases hu'
      have hq : j / 5 < xs.length := by omega
      obtain ⟨c0, c1, c2, c3, c4, e0, e1, e2, e3, e4, hval⟩ := hcell (j / 5) _ (List.getElem?_eq_getElem hq)
      obtain ⟨q0, q1, q2, q3, q4, q5, q6, q7, q8, hq⟩ := hval.shape
      cases hq
      rcases (by omega : j = j / 5 * 5 ∨ j = j / 5 * 5 + 1 ∨ j = j / 5 * 5 + 2 ∨ j = j / 5 * 5 + 3 ∨ j = j / 5 * 5 + 4) with e | e | e | e | e
      · rw [e, e0] at hc; cases hc; rfl
      · rw [e, ← Nat.add_assoc, e1] at hc; cases hc; rfl
      · rw [e, ← Nat.add_assoc, e2] at hc; cases hc; rfl
      · rw [e, ← Nat.add_assoc, e3] at hc; cases hc; rfl
      · rw [e, ← Nat.add_assoc, e4] at hc; cases hc; rfl
    have hadd : ∀ j, (⟨b, o, none⟩ : Addr).add j = ⟨b, o + j, none⟩ := fun j => by unfold Addr.add; split <;> simp_all
    obtain ⟨v', w', hr, ho, hgr, _, hat⟩ := run_append_own_at (P := Tryz.prog) w g 27 ty 29 i0 zeroVal 5 80 hu hi hz0 hz1 hz2 rfl (by decide) _ 0 [] hown ⟨b, o, none⟩ xs.length cl news hnl
      (fun j u hj => by rw [hadd]; obtain ⟨u', h1, h2⟩ := hnews j (by have := (List.getElem?_eq_some_iff.1 hj).1; omega); rw [hj] at h1; cases h1; exact h2) hone (by unfold maxLen; omega) (by omega) (by omega)
    rw [Nat.zero_add, List.nil_append] at ho
    have hsh : ∃ a c, v' = .slice a xs.length c := by
      rcases ho.2 with ⟨_, h⟩ | ⟨g', c', cur, e, _⟩
      · omega
      · exact ⟨_, _, e⟩
    have hsame : Same S w w' := fun c hc => hgr.block c (hS c hc) (fun e => by cases e; exact hSg hc)
    refine ⟨v', w', hr, ⟨news, ho, fun j x hx => ?_⟩, hgr, hsh⟩
    obtain ⟨c0, c1, c2, c3, c4, e0, e1, e2, e3, e4, hval⟩ := hcell j x hx
    have hjl := (List.getElem?_eq_some_iff.1 hx).1
    have hn : ∀ m c, m < xs.length * 5 → w.cell? ⟨b, o + m, none⟩ = some c → news[m]? = some c := fun m c hm hc => by
      obtain ⟨u, h1, h2⟩ := hnews m hm
      rw [hc] at h2
      cases h2
      exact h1
    exact ⟨c0, c1, c2, c3, c4, hn _ _ (by omega) e0, hn _ _ (by omega) (by rw [← Nat.add_assoc]; exact e1), hn _ _ (by omega) (by rw [← Nat.add_assoc]; exact e2), hn _ _ (by omega) (by rw [← Nat.add_assoc]; exact e3), hn _ _ (by omega) (by rw [← Nat.add_assoc]; exact e4), hval.same hsame⟩
end Go.Proofs.YtmkoeomkbbmoaaaGreatDoor

/- Rows of the model: l4Row, l4Of. -/
namespace Go.Proofs.YtmkoeomkbbmoaaaGreatDoor
open Go.RowKit Go.Deep

theorem treesL_isSome {d : Nat} (t : Tr (d + 1)) : (treesL d t).isSome = (okT (d + 1) t && (Nd.kind t == 5)) := by
  unfold treesL
  cases okT (d + 1) t with
  | false => rfl
  | true =>
    rw [if_pos rfl]
    by_cases h : Nd.kind t = 5
    · rw [if_pos h]; simp [h]
    · rw [if_neg h]; simp [h]

set_option maxRecDepth 100000 in
set_option maxHeartbeats 1000000 in
theorem l4Row_any (d : Nat) (S : Nat → Prop) (t : Tr (d + 1)) (v : Value) (w : World) (hv : ValAt S w (d + 1) t v) (hS : Within S w) (hsm : (nodes (d + 1) t : Int) ≤ 4194304) :
    Calls Tryz.prog 37 #[v] w fun e w' => e = .returned (.bool (treesL d t).isSome) ∧ Below w.heap.size w w' := by
  rw [treesL_isSome]
  have hv0 := hv
  obtain ⟨vk, vl, rfl, i1, i2, i3, hk, hl⟩ := hv
  obtain ⟨ak, ck, rfl, hkl⟩ := hk.open'
  obtain ⟨al, cl, rfl, hll⟩ := hl.open'
  have hA := below_alloc1 w (.cells #[.int .i64 t.kind, .int .i64 t.num, .string t.str, .slice ak t.keys.length ck, .slice al t.list.length cl] 29)
  have k0 := Blk5.new w 29 (.int .i64 t.kind) (.int .i64 t.num) (.string t.str) (.slice ak t.keys.length ck) (.slice al t.list.length cl)
  go_enter Tryz.func37, Tryz.ntmps37
  go_wp2_with fail
  refine (specValOk_any (d + 1) S t _ _ (hv0.same (hS.same hA)) (hS.later hA.size) hsm).mono ?_
  rintro e w1 ⟨rfl, hb1⟩
  replace k0 := k0.below hb1
  have HB := hide (below_trans hA hb1)
  obtain ⟨x0, x1, x2, x3, x4⟩ := k0.cell
  clear hb1 hA hv0 hk hl k0
  cases hf : okT (d + 1) t with
  | false =>
    go_wp2_with fail
    go_ret
    exact ⟨by rw [hf]; rfl, HB.out⟩
  | true =>
    go_wp2_with fail
    go_ret
    exact ⟨by rw [hf]; rfl, HB.out⟩

theorem l4Of_any (a : Option Addr) (n c : Nat) (w : World) : Calls Tryz.prog 38 #[.slice a n c] w fun e w' => e = .returned (.agg #[.int .i64 5, .int .i64 0, .string ByteArray.empty, .slice none 0 0, .slice a n c]) ∧ Below w.heap.size w w' := by
  go_enter Tryz.func38, Tryz.ntmps38
  go_wp2_with fail
  exact bodyPost_ret (v := .agg #[.int .i64 5, .int .i64 0, .string ByteArray.empty, .slice none 0 0, .slice a n c]) (by simp [results, Tryz.results38, go_sem]; rfl) rfl ⟨rfl, below_alloc1 _ _⟩

/-- A row of the model's, made out of trees that lie elsewhere, as a tree. -/
theorem rowV_at {d N : Nat} {S : Nat → Prop} {w w' : World} {lv : Value} {xs : List (Tr d)} {vs : List Value} (h : VTo S N w lv xs vs) (hl : xs.length ≤ 100000) (hb : Below w.heap.size w w') (hS : Within S w) :
    ValAt (fun b => S b ∨ (N ≤ b ∧ b < w'.heap.size)) w' (d + 1) (rowT d xs) (.agg #[.int .i64 5, .int .i64 0, .string ByteArray.empty, .slice none 0 0, lv]) := by
  have hz := hb.size
  have hrow := h.at (by omega)
  have hmv : Same (fun b => S b ∨ (N ≤ b ∧ b < w.heap.size)) w w' := fun b hb' => hb.block b (by rcases hb' with h | h; exact hS b h; exact h.2)
  have hin : ∀ b, (S b ∨ (N ≤ b ∧ b < w.heap.size)) → (S b ∨ (N ≤ b ∧ b < w'.heap.size)) := fun b hb' => by
    rcases hb' with h | h
    · exact Or.inl h
    · exact Or.inr ⟨h.1, by omega⟩
  exact ⟨_, _, rfl, ⟨by show _ ≤ (5 : Int); omega, by show (5 : Int) ≤ _; omega⟩, ⟨by show _ ≤ (0 : Int); omega, by show (0 : Int) ≤ _; omega⟩, by show (0 : Nat) < _; omega, ⟨by show (0 : Nat) < _; omega, (fun s hs => by cases hs), none, 0, rfl, Or.inl rfl⟩, hrow.moved hmv hin (fun y u hy => ValAt.moved hmv hin _ y u hy)⟩
/-- A row's value is a slice of just so many. -/
theorem VTo.slice {d N : Nat} {S : Nat → Prop} {w : World} {lv : Value} {xs : List (Tr d)} {vs : List Value} (h : VTo S N w lv xs vs) : ∃ a c, lv = .slice a xs.length c := by
  rcases h.1.2 with ⟨rfl, h0⟩ | ⟨g, cap, cur, rfl, _⟩
  · exact ⟨none, 0, by rw [h0]⟩
  · exact ⟨_, _, rfl⟩
/-- A row of nothing, as it is made. -/
theorem VTo.start {d : Nat} (S : Nat → Prop) (w : World) : VTo (d := d) S w.heap.size (w.alloc (.cells #[] 29)) (.slice (some ⟨w.heap.size, 0, none⟩) 0 0) [] [] :=
  ⟨⟨rfl, Or.inr ⟨w.heap.size, 0, #[], rfl, Nat.le_refl _, heap_alloc_new w _, Nat.le_refl _, Nat.zero_le _, rfl, rfl⟩⟩, fun j x h => by simp at h⟩
/-- One tree more, from elsewhere. -/
theorem VTo.push {d N : Nat} {S : Nat → Prop} {w1 wr w2 : World} {lv lv' : Value} {xs : List (Tr d)} {vs : List Value} {x : Tr d} {v0 v1 v2 v3 v4 : Value} {o : Obj} (h : VTo S N wr lv xs vs) (hS : ∀ b, S b → b < N) (hN : N ≤ wr.heap.size) (hb : Below N w1 wr) (hx : ValAt S wr d x (.agg #[v0, v1, v2, v3, v4]))
    (hown : w2.ownsRow N 29 5 lv' (xs.length + 1) (vs ++ [v0, v1, v2, v3, v4])) (hg : (wr.alloc o).grownBy w2 lv.ownBlock) : VTo S N w2 lv' (xs ++ [x]) (vs ++ [v0, v1, v2, v3, v4]) ∧ Below N w1 w2 ∧ N ≤ w2.heap.size := by
  have hz : (wr.alloc o).heap.size = wr.heap.size + 1 := by simp
  have hs2 := hg.size
  have hrow : ∀ g, lv.ownBlock = some g → N ≤ g := fun g hg' => (h.1.lt g hg').1
  have hblk : ∀ b, b < N → w2.heap[b]? = wr.heap[b]? := fun b hb' => (hg.block b (by omega) (fun e => by have := hrow b e.symm; omega)).trans (Below.heap_alloc _ _ _ (by omega))
  refine ⟨h.grow (fun b hb' => hblk b (hS b hb')) hx hown, ⟨hg.os.trans hb.os, hg.tape.trans hb.tape, hg.output.trans hb.output, ?_, fun b hb' => (hblk b hb').trans (hb.block b hb')⟩, by omega⟩
  have := hb.size
  omega
end Go.Proofs.YtmkoeomkbbmoaaaGreatDoor

/- RowPairs: pairs of keys and trees; rows whose trees have memory of their own. -/
namespace Go.Proofs.YtmkoeomkbbmoaaaGreatDoor
open Go.RowKit Go.Deep

/-- A text as a tree. -/
def textT (d : Nat) (s : ByteArray) : Tr (d + 1) := (Nd.mk 4 0 s [] [] : Nd (Tr d))
/-- A key and its tree, as a row of two. -/
def pairT (d : Nat) (p : ByteArray × Tr (d + 1)) : Tr (d + 2) := rowT (d + 1) [textT d p.1, p.2]
/-- All pairs. -/
def pairsL (d : Nat) (t : Tr (d + 2)) : List (Tr (d + 2)) := ((Nd.keys t).zip (Nd.list t)).map (pairT d)
/-- What RowPairs tells. -/
def pairsR (d : Nat) (t : Tr (d + 2)) : Tr (d + 3) × Bool :=
  if okT (d + 2) t = true ∧ Nd.kind t = 6 then (toldT (d + 2) (rowT (d + 2) (pairsL d t)), okT (d + 3) (rowT (d + 2) (pairsL d t))) else (zeroT (d + 2), false)
theorem okT_pairs (d : Nat) (t : Tr (d + 2)) : okT (d + 3) (pairsR d t).1 = true := by
  unfold pairsR
  split
  · exact okT_told _ _
  · exact okT_zero _
theorem pairsR_no {d : Nat} {t : Tr (d + 2)} (h : ¬ (okT (d + 2) t = true ∧ Nd.kind t = 6)) : pairsR d t = (zeroT (d + 2), false) := if_neg h
theorem pairsR_does {d : Nat} {t : Tr (d + 2)} (h : okT (d + 2) t = true) (h6 : Nd.kind t = 6) : pairsR d t = (toldT (d + 2) (rowT (d + 2) (pairsL d t)), okT (d + 3) (rowT (d + 2) (pairsL d t))) := if_pos ⟨h, h6⟩
theorem okT_keysOk {d : Nat} {t : Tr (d + 1)} (h : okT (d + 1) t = true) (h6 : Nd.kind t = 6) : (Nd.keys t).length = (Nd.list t).length ∧ keysB (Nd.keys t) = true := by
  obtain ⟨hf, _⟩ := okT_form h
  obtain ⟨kind, num, str, keys, list⟩ := t
  have h6 : kind = 6 := h6
  subst h6
  cases hb : headBad 6 num str keys.length list.length 6 with
  | true => rw [formT_bad hb] at hf; cases hf
  | false =>
    rw [formT_good hb] at hf
    simp at hf
    exact ⟨hf.1.1, hf.1.2⟩
theorem pairs_len {d : Nat} {t : Tr (d + 2)} (h : okT (d + 2) t = true) : (pairsL d t).length ≤ 60 := by
  unfold pairsL
  rw [List.length_map, List.length_zip]
  have := (okT_kinds h).2.1
  omega
theorem nodes_pairs {d : Nat} {t : Tr (d + 2)} (h : okT (d + 2) t = true) : (nodes (d + 3) (rowT (d + 2) (pairsL d t)) : Int) ≤ 4194304 := by
  have hl := pairs_len h
  have h1 : ∀ y ∈ pairsL d t, nodes (d + 2) y ≤ 300 + 2 := fun y hy => by
    unfold pairsL at hy
    obtain ⟨p, hp, rfl⟩ := List.mem_map.1 hy
    have hn := nodes_ok (okT_part h (List.of_mem_zip (show (p.1, p.2) ∈ _ from hp)).2)
    have e : nodes (d + 2) (pairT d p) = 1 + (nodes (d + 1) (textT d p.1) + (nodes (d + 1) p.2 + 0)) := rfl
    have e2 : nodes (d + 1) (textT d p.1) = 1 := rfl
    omega
  have h2 : ((pairsL d t).map (nodes (d + 2))).sum ≤ 302 * (pairsL d t).length := by
    clear hl
    generalize pairsL d t = l at h1
    induction l with
    | nil => simp
    | cons a r ih =>
      have ha := h1 a (List.mem_cons_self ..)
      have hr := ih (fun y hy => h1 y (List.mem_cons_of_mem _ hy))
      simp only [List.map_cons, List.sum_cons, List.length_cons]
      omega
  have h3 : nodes (d + 3) (rowT (d + 2) (pairsL d t)) = 1 + ((pairsL d t).map (nodes (d + 2))).sum := rfl
  rw [h3]
  omega
theorem pairs_step {d : Nat} {keys : List ByteArray} {xs : List (Tr (d + 1))} {k : Nat} {s : ByteArray} {x : Tr (d + 1)} (hs : keys[k]? = some s) (hx : xs[k]? = some x) : ((keys.zip xs).map (pairT d)).take (k + 1) = ((keys.zip xs).map (pairT d)).take k ++ [pairT d (s, x)] := by
  have h1 : ((keys.zip xs).map (pairT d))[k]? = some (pairT d (s, x)) := by
    have hz : (keys.zip xs)[k]? = some (s, x) := List.getElem?_zip_eq_some.2 ⟨hs, hx⟩
    rw [List.getElem?_map, hz]
    rfl
  obtain ⟨h2, h3⟩ := List.getElem?_eq_some_iff.1 h1
  rw [List.take_succ_eq_append_getElem h2, h3]

/-- Blocks of S, and those from N on that are not the row's own. -/
def Beside (S : Nat → Prop) (N : Nat) (w : World) (lv : Value) (b : Nat) : Prop := S b ∨ (N ≤ b ∧ b < w.heap.size ∧ some b ≠ lv.ownBlock)
theorem Beside.after {S : Nat → Prop} {N : Nat} {wr w1 w2 : World} {lv lv' : Value} {o : Obj} {b : Nat} (hS : ∀ b, S b → b < N) (hN : N ≤ wr.heap.size) (hown : ∀ g, lv.ownBlock = some g → N ≤ g ∧ g < wr.heap.size) (hb : Below wr.heap.size wr w1) (hg : (w1.alloc o).grownBy w2 lv.ownBlock) (hw : lv'.ownBlock = lv.ownBlock ∨ lv'.ownBlock = some (w1.alloc o).heap.size) (h : Beside S N wr lv b) :
    w2.heap[b]? = wr.heap[b]? ∧ Beside S N w2 lv' b := by
  have hz : (w1.alloc o).heap.size = w1.heap.size + 1 := by simp
  rw [hz] at hw
  have h1 := hb.size
  have h2 := hg.size
  have hblk : ∀ b, b < wr.heap.size → some b ≠ lv.ownBlock → w2.heap[b]? = wr.heap[b]? := fun b hb1 hb2 => ((hg.block b (by omega) hb2).trans (Below.heap_alloc _ _ _ (by omega))).trans (hb.block b hb1)
  rcases h with h | ⟨h3, h4, h5⟩
  · have hlt := hS b h
    exact ⟨hblk b (by omega) (fun e => by have := (hown b e.symm).1; omega), Or.inl h⟩
  · refine ⟨hblk b h4 h5, Or.inr ⟨h3, by omega, ?_⟩⟩
    rcases hw with e | e
    · rw [e]; exact h5
    · rw [e]; intro e2; cases e2; omega
theorem Beside.fresh {S : Nat → Prop} {N : Nat} {wr w1 w2 : World} {lv lv' : Value} {o : Obj} {b : Nat} (hS : ∀ b, S b → b < N) (hN : N ≤ wr.heap.size) (hown : ∀ g, lv.ownBlock = some g → N ≤ g ∧ g < wr.heap.size) (hb : wr.heap.size ≤ w1.heap.size) (hg : (w1.alloc o).grownBy w2 lv.ownBlock) (hw : lv'.ownBlock = lv.ownBlock ∨ lv'.ownBlock = some (w1.alloc o).heap.size) (h : S b ∨ (wr.heap.size ≤ b ∧ b < w1.heap.size)) :
    w2.heap[b]? = w1.heap[b]? ∧ Beside S N w2 lv' b := by
  have hz : (w1.alloc o).heap.size = w1.heap.size + 1 := by simp
  rw [hz] at hw
  have h2 := hg.size
  rcases h with h | ⟨h3, h4⟩
  · have hlt := hS b h
    exact ⟨(hg.block b (by omega) (fun e => by have := (hown b e.symm).1; omega)).trans (Below.heap_alloc _ _ _ (by omega)), Or.inl h⟩
  · have hne : some b ≠ lv.ownBlock := fun e => by have := (hown b e.symm).2; omega
    refine ⟨(hg.block b (by omega) hne).trans (Below.heap_alloc _ _ _ h4), Or.inr ⟨by omega, by omega, ?_⟩⟩
    rcases hw with e | e
    · rw [e]; exact hne
    · rw [e]; intro e2; cases e2; omega

/-- A row of the model's that owns its cells; its trees have memory of their own beside it. -/
def PTo {d : Nat} (S : Nat → Prop) (N : Nat) (w : World) (lv : Value) (xs : List (Tr d)) (vs : List Value) : Prop :=
  w.ownsRow N 29 5 lv xs.length vs ∧ ∀ (j : Nat) (x : Tr d), xs[j]? = some x → ∃ c0 c1 c2 c3 c4, vs[j * 5]? = some c0 ∧ vs[j * 5 + 1]? = some c1 ∧ vs[j * 5 + 2]? = some c2 ∧ vs[j * 5 + 3]? = some c3 ∧ vs[j * 5 + 4]? = some c4 ∧ ValAt (Beside S N w lv) w d x (.agg #[c0, c1, c2, c3, c4])
theorem PTo.slice {d N : Nat} {S : Nat → Prop} {w : World} {lv : Value} {xs : List (Tr d)} {vs : List Value} (h : PTo S N w lv xs vs) : ∃ a c, lv = .slice a xs.length c := by
  rcases h.1.2 with ⟨rfl, h0⟩ | ⟨g, cap, cur, rfl, _⟩
  · exact ⟨none, 0, by rw [h0]⟩
  · exact ⟨_, _, rfl⟩
theorem PTo.start {d : Nat} (S : Nat → Prop) (w : World) : PTo (d := d) S w.heap.size (w.alloc (.cells #[] 29)) (.slice (some ⟨w.heap.size, 0, none⟩) 0 0) [] [] :=
  ⟨⟨rfl, Or.inr ⟨w.heap.size, 0, #[], rfl, Nat.le_refl _, heap_alloc_new w _, Nat.le_refl _, Nat.zero_le _, rfl, rfl⟩⟩, fun j x h => by simp at h⟩
theorem PTo.push {d N : Nat} {S : Nat → Prop} {W wr w1 w2 : World} {lv lv' : Value} {xs : List (Tr d)} {vs : List Value} {x : Tr d} {v0 v1 v2 v3 v4 : Value} {o : Obj} (h : PTo S N wr lv xs vs) (hS : ∀ b, S b → b < N) (hN : N ≤ wr.heap.size) (hbW : Below N W wr) (hb : Below wr.heap.size wr w1) (hx : ValAt (fun b => S b ∨ (wr.heap.size ≤ b ∧ b < w1.heap.size)) w1 d x (.agg #[v0, v1, v2, v3, v4]))
    (hown : w2.ownsRow N 29 5 lv' (xs.length + 1) (vs ++ [v0, v1, v2, v3, v4])) (hg : (w1.alloc o).grownBy w2 lv.ownBlock) (hw : lv'.ownBlock = lv.ownBlock ∨ lv'.ownBlock = some (w1.alloc o).heap.size) : PTo S N w2 lv' (xs ++ [x]) (vs ++ [v0, v1, v2, v3, v4]) ∧ Below N W w2 := by
  have hlt := h.1.lt
  have hlen : vs.length = xs.length * 5 := h.1.1
  have h1 := hb.size
  have h2 : w1.heap.size + 1 ≤ w2.heap.size := Nat.le_trans (by simp) hg.size
  refine ⟨⟨by rw [List.length_append]; exact hown, fun j y hy => ?_⟩, ?_⟩
  · by_cases e : j < xs.length
    · rw [List.getElem?_append_left e] at hy
      obtain ⟨c0, c1, c2, c3, c4, e0, e1, e2, e3, e4, hv⟩ := h.2 j y hy
      refine ⟨c0, c1, c2, c3, c4, ?_, ?_, ?_, ?_, ?_, ValAt.moved (fun b hb' => (Beside.after hS hN hlt hb hg hw hb').1) (fun b hb' => (Beside.after hS hN hlt hb hg hw hb').2) _ _ _ hv⟩
      · rw [List.getElem?_append_left (by omega)]; exact e0
      · rw [List.getElem?_append_left (by omega)]; exact e1
      · rw [List.getElem?_append_left (by omega)]; exact e2
      · rw [List.getElem?_append_left (by omega)]; exact e3
      · rw [List.getElem?_append_left (by omega)]; exact e4
    · have hj : j = xs.length := by
        have := (List.getElem?_eq_some_iff.1 hy).1
        rw [List.length_append, List.length_singleton] at this
        omega
      subst hj
      rw [List.getElem?_append_right (Nat.le_refl _), Nat.sub_self] at hy
      cases hy
      refine ⟨v0, v1, v2, v3, v4, ?_, ?_, ?_, ?_, ?_, ValAt.moved (fun b hb' => (Beside.fresh hS hN hlt h1 hg hw hb').1) (fun b hb' => (Beside.fresh hS hN hlt h1 hg hw hb').2) _ _ _ hx⟩
      · rw [List.getElem?_append_right (by omega), hlen]; simp
      · rw [List.getElem?_append_right (by omega), hlen]; simp
      · rw [List.getElem?_append_right (by omega), hlen]; simp
      · rw [List.getElem?_append_right (by omega), hlen]; simp
      · rw [List.getElem?_append_right (by omega), hlen]; simp
  · refine ⟨hg.os.trans (hb.os.trans hbW.os), hg.tape.trans (hb.tape.trans hbW.tape), hg.output.trans (hb.output.trans hbW.output), ?_, fun b hb' => ?_⟩
    · have := hbW.size
      omega
    · exact (((hg.block b (by simp; omega) (fun e => by have := (hlt b e.symm).1; omega)).trans (Below.heap_alloc _ _ _ (by omega))).trans (hb.block b (by omega))).trans (hbW.block b hb')
/-- .. as a tree. -/
theorem PTo.tree {d N : Nat} {S : Nat → Prop} {w w' : World} {lv : Value} {xs : List (Tr d)} {vs : List Value} (h : PTo S N w lv xs vs) (hl : xs.length ≤ 100000) (hb : Below w.heap.size w w') (hS : Within S w) :
    ValAt (fun b => S b ∨ (N ≤ b ∧ b < w'.heap.size)) w' (d + 1) (rowT d xs) (.agg #[.int .i64 5, .int .i64 0, .string ByteArray.empty, .slice none 0 0, lv]) := by
  have hz := hb.size
  have hmv : Same (fun b => S b ∨ (N ≤ b ∧ b < w.heap.size)) w w' := fun b hb' => hb.block b (by rcases hb' with h | h; exact hS b h; exact h.2)
  have hin : ∀ b, (S b ∨ (N ≤ b ∧ b < w.heap.size)) → (S b ∨ (N ≤ b ∧ b < w'.heap.size)) := fun b hb' => by
    rcases hb' with h | h
    · exact Or.inl h
    · exact Or.inr ⟨h.1, by omega⟩
  have hrow : RowAt (fun b => S b ∨ (N ≤ b ∧ b < w.heap.size)) w (ValAt (fun b => S b ∨ (N ≤ b ∧ b < w.heap.size)) w d) lv xs := by
    refine ⟨by omega, ?_⟩
    rcases h.1.2 with ⟨rfl, h0⟩ | ⟨g, cap, cur, rfl, hg, hh, _⟩
    · exact ⟨none, 0, by rw [h0], Or.inl (List.eq_nil_of_length_eq_zero h0)⟩
    · refine ⟨some ⟨g, 0, none⟩, cap, rfl, Or.inr ⟨g, 0, Or.inr ⟨hg, (Array.getElem?_eq_some_iff.1 hh).1⟩, rfl, fun i x hx => ?_⟩⟩
      obtain ⟨c0, c1, c2, c3, c4, e0, e1, e2, e3, e4, hv⟩ := h.2 i x hx
      have hadd : ∀ m, (⟨g, 0, none⟩ : Addr).add m = ⟨g, 0 + m, none⟩ := fun m => by unfold Addr.add; split <;> simp_all
      have hc : ∀ m c, vs[m]? = some c → w.cell? ⟨g, 0 + m, none⟩ = some c := fun m c hm => by rw [← hadd]; exact h.1.cells (g := g) rfl m c hm
      refine ⟨c0, c1, c2, c3, c4, hc _ _ e0, ?_, ?_, ?_, ?_, hv.mono (fun b hb' => ?_)⟩
      · rw [Nat.add_assoc]; exact hc _ _ e1
      · rw [Nat.add_assoc]; exact hc _ _ e2
      · rw [Nat.add_assoc]; exact hc _ _ e3
      · rw [Nat.add_assoc]; exact hc _ _ e4
      · rcases hb' with h | h
        · exact Or.inl h
        · exact Or.inr ⟨h.1, h.2.1⟩
  exact ⟨_, _, rfl, ⟨by show _ ≤ (5 : Int); omega, by show (5 : Int) ≤ _; omega⟩, ⟨by show _ ≤ (0 : Int); omega, by show (0 : Int) ≤ _; omega⟩, by show (0 : Nat) < _; omega, ⟨by show (0 : Nat) < _; omega, (fun s hs => by cases hs), none, 0, rfl, Or.inl rfl⟩, hrow.moved hmv hin (fun y u hy => ValAt.moved hmv hin _ y u hy)⟩
end Go.Proofs.YtmkoeomkbbmoaaaGreatDoor

/- RowPairs of the model. -/
namespace Go.Proofs.YtmkoeomkbbmoaaaGreatDoor
open Go.RowKit Go.Deep

set_option maxRecDepth 100000 in
set_option maxHeartbeats 8000000 in
theorem specRowPairs_any (d : Nat) (S : Nat → Prop) (t : Tr (d + 2)) (v : Value) (w : World) (hv : ValAt S w (d + 2) t v) (hS : Within S w) (hsm : (nodes (d + 2) t : Int) ≤ 4194304) :
    Calls Tryz.prog 18 #[v] w (SpecQ (d + 2) (pairsR d t).1 (pairsR d t).2 w) := by
  have hv0 := hv
  obtain ⟨vk, vl, rfl, i1, i2, i3, hk, hl⟩ := hv
  obtain ⟨ak, ck, rfl, hkl⟩ := hk.open'
  obtain ⟨al, cl, rfl, hll⟩ := hl.open'
  obtain ⟨W0, hW⟩ : ∃ W0, W0 = (w.alloc (.cells #[.int .i64 t.kind, .int .i64 t.num, .string t.str, .slice ak t.keys.length ck, .slice al t.list.length cl] 29)).alloc (.cells #[.int .i64 0, .int .i64 0, .string { data := #[] }, .slice none 0 0, .slice none 0 0] 29) := ⟨_, rfl⟩
  have hW0 : Below w.heap.size w W0 := by rw [hW]; exact below_trans (below_alloc1 _ _) (below_alloc1 _ _)
  have k0 : Blk5 W0 w.heap.size 29 (.int .i64 t.kind) (.int .i64 t.num) (.string t.str) (.slice ak t.keys.length ck) (.slice al t.list.length cl) := by
    rw [hW]; exact (Blk5.new w 29 _ _ _ _ _).alloc _
  have k1 : Blk5 W0 (w.heap.size + 1) 29 (.int .i64 0) (.int .i64 0) (.string { data := #[] }) (.slice none 0 0) (.slice none 0 0) := by
    have := Blk5.new (w.alloc (.cells #[.int .i64 t.kind, .int .i64 t.num, .string t.str, .slice ak t.keys.length ck, .slice al t.list.length cl] 29)) 29 (.int .i64 0) (.int .i64 0) (.string { data := #[] }) (.slice none 0 0) (.slice none 0 0)
    rw [World.size_alloc] at this
    rw [hW]
    exact this
  have HW := hide hW
  clear hW
  go_enter Tryz.func18, Tryz.ntmps18
  go_wp2_with fail
  rw [← HW.out]
  clear HW
  refine (specValOk_any (d + 2) S t _ W0 (hv0.same (hS.same hW0)) (hS.later hW0.size) hsm).mono ?_
  rintro e w1 ⟨rfl, hb1⟩
  replace k0 := k0.below hb1
  replace k1 := k1.below hb1
  have hB1 := below_trans hW0 hb1
  have hlt := k1.lt
  have hno : ∀ wn, Below w.heap.size w wn → Hid (∀ wF, wF = set5 wn (w.heap.size + 1) 0 (.int .i64 0) (.int .i64 0) (.string { data := #[] }) (.slice none 0 0) (.slice none 0 0) → Below w.heap.size w wF) := by
    intro wn hn wF hF
    rw [hF]
    exact below_set5 hn (by omega) _ _ _ _ _ _
  clear hb1 hW0 hv0
  cases hok : okT (d + 2) t with
  | false =>
    have hz := hide (pairsR_no (t := t) (fun h => by rw [hok] at h; cases h.1))
    have HN := hno w1 hB1
    obtain ⟨y0, y1, y2, y3, y4⟩ := k1.cell
    have yf := k1.frozen
    clear k0 k1 hB1 hno
    go_wp2_with fail
    rw [hz.out]
    refine bodyPost_ret (v := .tuple #[zeroVal, .bool false]) (by simp [results, Tryz.results18, go_sem, zeroVal, y0, y1, y2, y3, y4]; rfl) rfl ⟨_, rfl, zeroAt (d + 2) _ _, HN.out _ rfl⟩
  | true =>
  obtain ⟨x0, x1, x2, x3, x4⟩ := k0.cell
  by_cases h6 : t.kind = 6
  · have q6 : (t.kind != 6) = false := by simp [h6]
    have hR := hide (pairsR_does hok h6)
    obtain ⟨hkx, hkb⟩ := okT_keysOk hok h6
    replace hkx : t.keys.length = t.list.length := hkx
    have hl60 : t.list.length ≤ 60 := (okT_kinds hok).2.1
    have hk60 : t.keys.length ≤ 60 := by omega
    have hnod := nodes_pairs hok
    have hS1 : ∀ b, S b → b < w1.heap.size := hS.later hB1.size
    have hst : Hid (PTo (d := d + 2) S w1.heap.size (w1.alloc (.cells #[] 29)) (.slice (some ⟨w1.heap.size, 0, none⟩) 0 0) [] []) := PTo.start S w1
    have hbs := hide (below_alloc1 w1 (.cells #[] 29))
    have HK := hide hkx
    obtain ⟨i0, hi', hz0, hz1, hz2⟩ := info_parts Tryz.infoV2
    have hi := hide hi'
    obtain ⟨y0, y1, y2, y3, y4⟩ := (k0.alloc (.cells #[] 29)).cell
    clear hok h6 hkx hkb hi' hno
    go_wp2_with fail
    go_loopw [4, 5] (fun out i wr => ∃ (m : Nat) (la : Option Addr) (lc : Nat) (vs : List Value), m ≤ t.keys.length ∧ out = .slice la m lc ∧ i = .int .i64 (m : Int) ∧ Hid (PTo S w1.heap.size wr (.slice la m lc) ((pairsL d t).take m) vs) ∧ Hid (Below w1.heap.size w1 wr)) (fun _ i _ => t.keys.length - (intOf i).toNat)
    case atStart => exact ⟨0, _, _, [], Nat.zero_le _, rfl, rfl, hst, hbs⟩
    case round =>
      clear hst hbs y0 y1 y2 y3 y4 x0 x1 x2 x3 x4
      obtain ⟨m, la, lc, vs, hm, rfl, rfl, hto, hbr⟩ := hrel
      have hsz := hbr.out.size
      have kbox := k0.below hbr.out
      have hpl : Hid ((pairsL d t).length = t.keys.length) := by
        show (pairsL d t).length = _
        unfold pairsL
        rw [List.length_map, List.length_zip]
        have := HK.out
        omega
      have hlen : Hid (((pairsL d t).take m).length = m) := by
        show ((pairsL d t).take m).length = m
        rw [List.length_take, hpl.out]
        omega
      obtain ⟨x0, x1, x2, x3, x4⟩ := kbox.cell
      by_cases hmt : m < t.keys.length
      · have hmi : (m : Int) < (t.keys.length : Int) := by omega
        have hml : m < t.list.length := by have := HK.out; omega
        have hmi2 : (m : Int) < (t.list.length : Int) := by omega
        obtain ⟨eb, eo, s, rfl, heS, hs, hssz, e0⟩ := (hk.same (hS.same (below_trans hB1 hbr.out))).cell hmt
        obtain ⟨fb, fo, x, c0, c1, c2, c3, c4, rfl, hfS, hx, f0, f1, f2, f3, f4, hval⟩ := (hl.same (hS.same (below_trans hB1 hbr.out))).cell hml
        obtain ⟨q0, q1, q2, q3, q4, q5, q6', q7, q8, hq⟩ := hval.shape
        cases hq
        have hstp : Hid ((pairsL d t).take (m + 1) = (pairsL d t).take m ++ [pairT d (s, x)]) := pairs_step hs hx
        have hpb := below_alloc1 wr (.cells #[.int .i64 4, .int .i64 0, .string s, .slice none 0 0, .slice none 0 0, .int .i64 q0, .int .i64 q1, .string q2, .slice q3 q4 q5, .slice q6' q7 q8] 29)
        have hcall : Hid (Calls Tryz.prog 38 #[.slice (some ⟨wr.heap.size, 0, none⟩) 2 2] (wr.alloc (.cells #[.int .i64 4, .int .i64 0, .string s, .slice none 0 0, .slice none 0 0, .int .i64 q0, .int .i64 q1, .string q2, .slice q3 q4 q5, .slice q6' q7 q8] 29)).drew fun e w' => ∃ v, e = .returned v ∧ (v = .agg #[.int .i64 5, .int .i64 0, .string ByteArray.empty, .slice none 0 0, .slice (some ⟨wr.heap.size, 0, none⟩) 2 2] ∧ Below (wr.alloc (.cells #[.int .i64 4, .int .i64 0, .string s, .slice none 0 0, .slice none 0 0, .int .i64 q0, .int .i64 q1, .string q2, .slice q3 q4 q5, .slice q6' q7 q8] 29)).heap.size (wr.alloc (.cells #[.int .i64 4, .int .i64 0, .string s, .slice none 0 0, .slice none 0 0, .int .i64 q0, .int .i64 q1, .string q2, .slice q3 q4 q5, .slice q6' q7 q8] 29)) w')) := (l4Of_any (some ⟨wr.heap.size, 0, none⟩) 2 2 (wr.alloc (.cells #[.int .i64 4, .int .i64 0, .string s, .slice none 0 0, .slice none 0 0, .int .i64 q0, .int .i64 q1, .string q2, .slice q3 q4 q5, .slice q6' q7 q8] 29)).drew).mono (fun e w' h => ⟨_, h.1, rfl, ⟨h.2.os, h.2.tape, h.2.output, h.2.size, h.2.block⟩⟩)
        have hebl : eb < wr.heap.size := Nat.lt_of_lt_of_le (hS1 eb heS) hsz
        have hfbl : fb < wr.heap.size := Nat.lt_of_lt_of_le (hS1 fb hfS) hsz
        have hpair : Hid (∀ w2, Below (wr.alloc (.cells #[.int .i64 4, .int .i64 0, .string s, .slice none 0 0, .slice none 0 0, .int .i64 q0, .int .i64 q1, .string q2, .slice q3 q4 q5, .slice q6' q7 q8] 29)).heap.size (wr.alloc (.cells #[.int .i64 4, .int .i64 0, .string s, .slice none 0 0, .slice none 0 0, .int .i64 q0, .int .i64 q1, .string q2, .slice q3 q4 q5, .slice q6' q7 q8] 29)) w2 → ValAt (fun b => S b ∨ (wr.heap.size ≤ b ∧ b < w2.heap.size)) w2 (d + 2) (pairT d (s, x)) (.agg #[.int .i64 5, .int .i64 0, .string ByteArray.empty, .slice none 0 0, .slice (some ⟨wr.heap.size, 0, none⟩) 2 2])) := by
          intro w2 hb2
          have hsz2 := hb2.size
          have hblk : w2.heap[wr.heap.size]? = some (.cells #[.int .i64 4, .int .i64 0, .string s, .slice none 0 0, .slice none 0 0, .int .i64 q0, .int .i64 q1, .string q2, .slice q3 q4 q5, .slice q6' q7 q8] 29 (0, 0)) := (hb2.block _ (by simp)).trans (heap_alloc_new wr _)
          have hlt2 : wr.heap.size < w2.heap.size := Nat.lt_of_lt_of_le (by simp) hsz2
          have hcell : ∀ (j : Nat) (u : Value), ([.int .i64 4, .int .i64 0, .string s, .slice none 0 0, .slice none 0 0, .int .i64 q0, .int .i64 q1, .string q2, .slice q3 q4 q5, .slice q6' q7 q8] : List Value)[j]? = some u → w2.cell? ⟨wr.heap.size, j, none⟩ = some u := fun j u hj => by
            have : (#[.int .i64 4, .int .i64 0, .string s, .slice none 0 0, .slice none 0 0, .int .i64 q0, .int .i64 q1, .string q2, .slice q3 q4 q5, .slice q6' q7 q8] : Array Value)[j]? = some u := by rw [List.getElem?_toArray]; exact hj
            simp [World.cell?, hblk, this]
          have hxv : ValAt (fun b => S b ∨ (wr.heap.size ≤ b ∧ b < w2.heap.size)) w2 (d + 1) x (.agg #[.int .i64 q0, .int .i64 q1, .string q2, .slice q3 q4 q5, .slice q6' q7 q8]) :=
            ValAt.moved (fun b hb => (hb2.block b (by simp; have := hS1 b hb; omega)).trans (Below.heap_alloc _ _ _ (by have := hS1 b hb; omega))) (fun b hb => Or.inl hb) _ _ _ hval
          have htx : ValAt (fun b => S b ∨ (wr.heap.size ≤ b ∧ b < w2.heap.size)) w2 (d + 1) (textT d s) (.agg #[.int .i64 4, .int .i64 0, .string s, .slice none 0 0, .slice none 0 0]) :=
            ⟨_, _, rfl, ⟨by show _ ≤ (4 : Int); omega, by show (4 : Int) ≤ _; omega⟩, ⟨by show _ ≤ (0 : Int); omega, by show (0 : Int) ≤ _; omega⟩, hssz, ⟨by show (0 : Nat) < _; omega, (fun s hs => by cases hs), none, 0, rfl, Or.inl rfl⟩, ⟨by show (0 : Nat) < _; omega, none, 0, rfl, Or.inl rfl⟩⟩
          refine ⟨_, _, rfl, ⟨by show _ ≤ (5 : Int); omega, by show (5 : Int) ≤ _; omega⟩, ⟨by show _ ≤ (0 : Int); omega, by show (0 : Int) ≤ _; omega⟩, by show (0 : Nat) < _; omega, ⟨by show (0 : Nat) < _; omega, (fun s hs => by cases hs), none, 0, rfl, Or.inl rfl⟩, ⟨by show (2 : Nat) < _; omega, some ⟨wr.heap.size, 0, none⟩, 2, rfl, Or.inr ⟨wr.heap.size, 0, Or.inr ⟨Nat.le_refl _, hlt2⟩, rfl, fun i y hy => ?_⟩⟩⟩
          match i, hy with
          | 0, hy => cases hy; exact ⟨_, _, _, _, _, hcell 0 _ rfl, hcell 1 _ rfl, hcell 2 _ rfl, hcell 3 _ rfl, hcell 4 _ rfl, htx⟩
          | 1, hy => cases hy; exact ⟨_, _, _, _, _, hcell 5 _ rfl, hcell 6 _ rfl, hcell 7 _ rfl, hcell 8 _ rfl, hcell 9 _ rfl, hxv⟩
          | i + 2, hy => simp [pairT, rowT] at hy
        have hown := hto.out.1
        rw [hlen.out] at hown
        have hlt' := hown.lt
        clear hx hval hs
        go_wp2_with fail
        go_region_law (first
          | (refine step_call_run _ 38 _ (by rfl) (by go_simp) hcall.out ?_; rintro u w2 ⟨rfl, hb2⟩; have hown1 := hide ((hown.kept (row := none) ⟨(below_trans hpb hb2).os, (below_trans hpb hb2).tape, (below_trans hpb hb2).output, (below_trans hpb hb2).size, fun i hi _ => (below_trans hpb hb2).block i hi⟩ (by cases (Value.slice la m lc).ownBlock <;> simp)).alloc (.cells #[.int .i64 5, .int .i64 0, .string ByteArray.empty, .slice none 0 0, .slice (some ⟨wr.heap.size, 0, none⟩) 2 2] 29)))
          | (refine step_append_run _ (by rfl) _ _ 27 (by rfl) _ _ (by rfl) (by rfl) (run_append_own_at (P := Tryz.prog) _ w1.heap.size 27 _ 29 i0 zeroVal 5 80 Tryz.underlying27 hi.out hz0 hz1 hz2 rfl (by decide) _ _ _ hown1.out ⟨w2.heap.size, 0, none⟩ 1 1 [.int .i64 5, .int .i64 0, .string ByteArray.empty, .slice none 0 0, .slice (some ⟨wr.heap.size, 0, none⟩) 2 2] rfl (cell_five_new _ _ _ _ _ _ _) (by intro y hy; simp at hy; rcases hy with rfl | rfl | rfl | rfl | rfl <;> rfl) (by unfold maxLen; omega) (by omega) (by rw [World.size_alloc]; have h5 := (below_trans hpb hb2).size; omega)) ?_; rintro v' w3 ⟨o1, o2, _, o3⟩; obtain ⟨va, vn, vc, rfl⟩ := row_slice o1))
        all_goals
          have hb1' : Below wr.heap.size wr w2 := below_trans hpb hb2
          have hp := hto.out.push hS1 hsz hbr.out hb1' (hpair.out w2 hb2) (by rw [hlen.out]; exact o1) o2 o3
          rw [← hstp.out] at hp
          obtain ⟨a', c', e'⟩ := hp.1.slice
          have hvn : vn = m + 1 := by
            have h1 : ((pairsL d t).take (m + 1)).length = m + 1 := by rw [List.length_take, hpl.out]; omega
            simp only [Value.slice.injEq] at e'
            rw [e'.2.1, h1]
          clear e'
          subst hvn
          have HP := hide hp.1
          have HB2 := hide hp.2
          clear hp hb1' o1 o2 o3 hown1 hpair hcall hto hbr hstp hlen hpl hown kbox hpb hb2 hlt'
          go_wp2_with fail
          go_roundw
          case rel => exact ⟨m + 1, va, vc, _, by omega, rfl, by go_num, HP, HB2⟩
          case measure => simp [intOf]; omega
      · obtain rfl : m = t.keys.length := by omega
        have hall : (pairsL d t).take t.keys.length = pairsL d t := List.take_of_length_le (by rw [hpl.out]; exact Nat.le_refl _)
        have hto' := hto.out
        rw [hall] at hto'
        have HTO := hide hto'
        have kres := k1.below hbr.out
        have hB2 := below_trans hB1 hbr.out
        have hpl60 : (pairsL d t).length ≤ 60 := by have := hpl.out; omega
        clear hto hto' hall kbox hi hz0 hz1 hz2 k0 k1 hlt hlen hpl
        go_wp2_with fail
        refine (l4Of_any _ _ _ wr).mono ?_
        rintro e w3 ⟨rfl, hb3⟩
        have hB3 := below_trans hB2 hb3
        have hrow := HTO.out.tree (by omega) hb3 (fun b hb => Nat.lt_of_lt_of_le (hS1 b hb) hsz)
        have k3 := kres.below hb3
        have hWU3 : Within (fun b => S b ∨ (w1.heap.size ≤ b ∧ b < w3.heap.size)) w3 := fun b hb => by
          rcases hb with hb | hb
          · exact hS.later hB3.size b hb
          · exact hb.2
        have hcall2 := hide (l2Told_any (d + 2) _ _ _ w3 hrow hWU3 hnod)
        have hlt3 : w.heap.size + 1 < w3.heap.size := k3.lt
        clear hrow hWU3 hb3 HTO hbr kres hB2 hl hk
        go_wp2_with fail
        refine Calls.mono hcall2.out ?_
        rintro e w4 ⟨r, rfl, hr, hb4⟩
        obtain ⟨r0, r1, r2, r3, r4, r5, r6, r7, r8, rfl⟩ := hr.shape
        have HF := hide (tell_endA hr (below_trans hB3 hb4) (by omega) hlt3)
        have k4 := k3.below hb4
        obtain ⟨y0, y1, y2, y3, y4⟩ := k4.cell
        have yf := k4.frozen
        clear hr hb4 k3 k4 hcall2 hB3
        go_wp2_with fail
        rw [hR.out]
        exact bodyPost_ret (v := .tuple #[.agg #[.int .i64 r0, .int .i64 r1, .string r2, .slice r3 r4 r5, .slice r6 r7 r8], .bool (okT (d + 3) (rowT (d + 2) (pairsL d t)))]) (by simp [results, Tryz.results18, go_sem, y0, y1, y2, y3, y4]) rfl ⟨_, rfl, (HF.out _ rfl).1, (HF.out _ rfl).2⟩
  · have q6 : (t.kind != 6) = true := by simp [h6]
    have hz := hide (pairsR_no (t := t) (fun h => h6 h.2))
    have HN := hno w1 hB1
    obtain ⟨y0, y1, y2, y3, y4⟩ := k1.cell
    have yf := k1.frozen
    clear k0 k1 hB1 hno h6
    go_wp2_with fail
    rw [hz.out]
    refine bodyPost_ret (v := .tuple #[zeroVal, .bool false]) (by simp [results, Tryz.results18, go_sem, zeroVal, y0, y1, y2, y3, y4]; rfl) rfl ⟨_, rfl, zeroAt (d + 2) _ _, HN.out _ rfl⟩
end Go.Proofs.YtmkoeomkbbmoaaaGreatDoor

/- pairsOf, RowPairs of the program. -/
namespace Go.Proofs.YtmkoeomkbbmoaaaGreatDoor
open Go.RowKit Go.Deep

/-- A row of the program's that owns its cells; its trees have memory of their own beside it. -/
def GP {d : Nat} (S : Nat → Prop) (N : Nat) (w : World) (sv : Value) (xs : List (Tr d)) (vs : List Value) : Prop :=
  w.ownsRow N 54 1 sv xs.length vs ∧ ∀ (j : Nat) (x : Tr d) (u : Value), xs[j]? = some x → vs[j]? = some u → TreeG (Beside S N w sv) w d x u
theorem GP.nil {d : Nat} (S : Nat → Prop) (N : Nat) (w : World) : GP (d := d) S N w (.slice none 0 0) [] [] := ⟨World.ownsRow_nil _ _ _ _, fun j x u h => by simp at h⟩
theorem GP.slice {d N : Nat} {S : Nat → Prop} {w : World} {lv : Value} {xs : List (Tr d)} {vs : List Value} (h : GP S N w lv xs vs) : ∃ a c, lv = .slice a xs.length c := by
  rcases h.1.2 with ⟨rfl, h0⟩ | ⟨g, cap, cur, rfl, _⟩
  · exact ⟨none, 0, by rw [h0]⟩
  · exact ⟨_, _, rfl⟩
theorem GP.push {d N : Nat} {S : Nat → Prop} {W wr w1 w2 : World} {lv lv' : Value} {xs : List (Tr d)} {vs : List Value} {x : Tr d} {u : Value} {o : Obj} (h : GP S N wr lv xs vs) (hS : ∀ b, S b → b < N) (hN : N ≤ wr.heap.size) (hbW : Below N W wr) (hb : Below wr.heap.size wr w1) (hx : TreeG (fun b => S b ∨ (wr.heap.size ≤ b ∧ b < w1.heap.size)) w1 d x u)
    (hown : w2.ownsRow N 54 1 lv' (xs.length + 1) (vs ++ [u])) (hg : (w1.alloc o).grownBy w2 lv.ownBlock) (hw : lv'.ownBlock = lv.ownBlock ∨ lv'.ownBlock = some (w1.alloc o).heap.size) : GP S N w2 lv' (xs ++ [x]) (vs ++ [u]) ∧ Below N W w2 := by
  have hlt := h.1.lt
  have hlen : vs.length = xs.length := by have := h.1.1; omega
  have h1 := hb.size
  have h2 : w1.heap.size + 1 ≤ w2.heap.size := Nat.le_trans (by simp) hg.size
  refine ⟨⟨by rw [List.length_append]; exact hown, fun j y v hy hv => ?_⟩, ?_⟩
  · by_cases e : j < xs.length
    · rw [List.getElem?_append_left e] at hy
      rw [List.getElem?_append_left (by omega)] at hv
      exact TreeG.moved (fun b hb' => (Beside.after hS hN hlt hb hg hw hb').1) (fun b hb' => (Beside.after hS hN hlt hb hg hw hb').2) _ _ _ (h.2 j y v hy hv)
    · have hj : j = xs.length := by
        have := (List.getElem?_eq_some_iff.1 hy).1
        rw [List.length_append, List.length_singleton] at this
        omega
      subst hj
      rw [List.getElem?_append_right (Nat.le_refl _), Nat.sub_self] at hy
      rw [List.getElem?_append_right (by omega), hlen, Nat.sub_self] at hv
      cases hy
      cases hv
      exact TreeG.moved (fun b hb' => (Beside.fresh hS hN hlt h1 hg hw hb').1) (fun b hb' => (Beside.fresh hS hN hlt h1 hg hw hb').2) _ _ _ hx
  · refine ⟨hg.os.trans (hb.os.trans hbW.os), hg.tape.trans (hb.tape.trans hbW.tape), hg.output.trans (hb.output.trans hbW.output), ?_, fun b hb' => ?_⟩
    · have := hbW.size
      omega
    · exact (((hg.block b (by simp; omega) (fun e => by have := (hlt b e.symm).1; omega)).trans (Below.heap_alloc _ _ _ (by omega))).trans (hb.block b (by omega))).trans (hbW.block b hb')
theorem GP.tree {d N M : Nat} {S : Nat → Prop} {w : World} {sv : Value} {xs : List (Tr d)} {vs : List Value} (h : GP S N w sv xs vs) (hl : xs.length ≤ 1000) (hM : M ≤ N) (hSM : ∀ b, S b → M ≤ b ∧ b < w.heap.size) : TreeG (fun b => M ≤ b ∧ b < w.heap.size) w (d + 1) (rowT d xs) (.iface 83 (.agg #[sv])) := by
  refine Or.inr (Or.inr (Or.inr (Or.inl ⟨xs, sv, hl, rfl, rfl, by omega, ?_⟩)))
  obtain ⟨h1, h2⟩ := h
  have hlen := h1.1
  rw [Nat.mul_one] at hlen
  rcases h1.2 with ⟨rfl, h0⟩ | ⟨g, cap, cur, rfl, hg, hh, _, _, _, _⟩
  · exact ⟨none, 0, by rw [h0], Or.inl (List.eq_nil_of_length_eq_zero h0)⟩
  · refine ⟨some ⟨g, 0, none⟩, cap, rfl, Or.inr ⟨g, 0, ⟨by omega, (Array.getElem?_eq_some_iff.1 hh).1⟩, rfl, fun i x hx => ?_⟩⟩
    have hi := (List.getElem?_eq_some_iff.1 hx).1
    have hvi : vs[i]? = some vs[i] := List.getElem?_eq_getElem (by omega)
    have hc := h1.cells (g := g) rfl i _ hvi
    have hadd : (⟨g, 0, none⟩ : Addr).add i = ⟨g, 0 + i, none⟩ := by unfold Addr.add; split <;> simp_all
    rw [hadd] at hc
    exact ⟨vs[i], hc, (h2 i x _ hx hvi).mono (fun b hb => by
      rcases hb with hb | hb
      · exact hSM b hb
      · exact ⟨by have := hb.1; omega, hb.2.1⟩)⟩

/-- What pairsOf is asked to give. -/
def PairsQ (d : Nat) (t : Tr (d + 2)) (w : World) (e : Ending) (w' : World) : Prop :=
  Below w.heap.size w w' ∧ (((okT (d + 2) t = true ∧ Nd.kind t = 6) ∧ ∃ u, e = .returned (.tuple #[u, .nilIface]) ∧ TreeG (fun b => w.heap.size ≤ b ∧ b < w'.heap.size) w' (d + 3) (rowT (d + 2) (pairsL d t)) u) ∨ (¬ (okT (d + 2) t = true ∧ Nd.kind t = 6) ∧ ∃ why, e = .returned (.tuple #[.nilIface, faultV why])))

set_option maxRecDepth 100000 in
set_option maxHeartbeats 8000000 in
theorem pairsOf_any (d : Nat) (S0 : Nat → Prop) (t : Tr (d + 2)) (v : Value) (w : World) (hv : ValAt S0 w (d + 2) t v) (hS0 : Within S0 w) :
    Calls Tryz.prog 44 #[v] w (PairsQ d t w) := by
  obtain ⟨k, n, s, ak, lk, ck, al, ll, cl, rfl⟩ := hv.shape
  have hA := below_alloc1 w (.cells #[.int .i64 k, .int .i64 n, .string s, .slice ak lk ck, .slice al ll cl] 29)
  have hAs := hA.size
  go_enter Tryz.func44, Tryz.ntmps44
  go_wp2_with fail
  refine (given_own (d + 1) S0 t _ _ (hv.same (hS0.same hA)) (hS0.later hA.size)).mono ?_
  rintro e w1 ⟨hb1, hq⟩
  have hB := below_trans hA hb1
  clear hv
  rcases hq with ⟨hok, u, rfl, hu, htop⟩ | ⟨hok, why, rfl⟩
  · clear htop
    rcases hu with ⟨k', h1, hxe, rfl⟩ | ⟨n', h1, hxe, rfl⟩ | ⟨s', h1, hxe, rfl⟩ | ⟨ys, sv, h1, hxe, rfl, hr⟩ | ⟨keys, ys, ps, r, es, h1, h2, h3, h4, hxe, rfl, hr, hm, he⟩
    · have a3 := Tryz.asM_B
      have hq : Hid (¬ (okT (d + 2) t = true ∧ Nd.kind t = 6)) := fun h => by
        have h6 := h.2
        rw [hxe] at h6
        have h7 : k' = 6 := h6; omega
      have HB := hide hB
      clear hB hxe
      go_wp2_with fail
      go_ret2
      exact ⟨below_trans HB.out (below_alloc1 _ _), Or.inr ⟨hq.out, _, rfl⟩⟩
    · have a3 := Tryz.asM_N
      have hq : Hid (¬ (okT (d + 2) t = true ∧ Nd.kind t = 6)) := fun h => by
        have h6 := h.2
        rw [hxe] at h6
        cases h6
      have HB := hide hB
      clear hB hxe
      go_wp2_with fail
      go_ret2
      exact ⟨below_trans HB.out (below_alloc1 _ _), Or.inr ⟨hq.out, _, rfl⟩⟩
    · have a3 := Tryz.asM_S
      have hq : Hid (¬ (okT (d + 2) t = true ∧ Nd.kind t = 6)) := fun h => by
        have h6 := h.2
        rw [hxe] at h6
        cases h6
      have HB := hide hB
      clear hB hxe
      go_wp2_with fail
      go_ret2
      exact ⟨below_trans HB.out (below_alloc1 _ _), Or.inr ⟨hq.out, _, rfl⟩⟩
    · have a3 := Tryz.asM_R
      have hq : Hid (¬ (okT (d + 2) t = true ∧ Nd.kind t = 6)) := fun h => by
        have h6 := h.2
        rw [hxe] at h6
        cases h6
      clear hr
      have HB := hide hB
      clear hB hxe
      go_wp2_with fail
      go_ret2
      exact ⟨below_trans HB.out (below_alloc1 _ _), Or.inr ⟨hq.out, _, rfl⟩⟩
    · have a3 := Tryz.asM_M
      have h6 : Nd.kind t = 6 := by rw [hxe]
      have hpl : Hid (pairsL d t = (keys.zip ys).map (pairT d)) := by
        show pairsL d t = _
        rw [hxe]
        rfl
      have hl60 : ys.length ≤ 60 := by
        have h := (okT_kinds hok).2.1
        rw [hxe] at h
        exact h
      have hk60 : keys.length ≤ 60 := by omega
      have hA1 := below_alloc1 w1 (.cells #[.map (some r)] 58)
      have hB1 := below_trans hB hA1
      have hwin : Within (Fresh (w.alloc (.cells #[.int .i64 k, .int .i64 n, .string s, .slice ak lk ck, .slice al ll cl] 29)) w1) w1 := Fresh.within _ _
      have hsame := hwin.same hA1
      obtain ⟨S, hSd⟩ : ∃ S : Nat → Prop, S = Fresh (w.alloc (.cells #[.int .i64 k, .int .i64 n, .string s, .slice ak lk ck, .slice al ll cl] 29)) w1 := ⟨_, rfl⟩
      have hSlo : ∀ b, S b → w.heap.size ≤ b := by rw [hSd]; intro b hb; have := hb.1; omega
      rw [← hSd] at hwin hsame hr he
      have heA := he.moved (fun x u hx => TreeG.moved hsame (fun _ h => h) (d + 1) x u hx)
      have hmA : (w1.alloc (.cells #[.map (some r)] 58)).heap[r]? = some (.map es ps.length) := (hsame r hr).trans hm
      have hkc := hide (keys_any S (TreeG S _ (d + 1)) ps keys ys r es (w1.alloc (.cells #[.map (some r)] 58)) hr hmA heA (hwin.later hA1.size) h4 h3 h2 h1)
      have HKL := hide h3
      have HKB := hide h2
      have HPM := hide h4
      have hbox : (w1.alloc (.cells #[.map (some r)] 58)).heap[w1.heap.size]? = some (.cells #[.map (some r)] 58 (0, 0)) := heap_alloc_new w1 _
      have hOK := hide (And.intro hok h6)
      obtain ⟨WA, hWA⟩ : ∃ WA, WA = w1.alloc (.cells #[.map (some r)] 58) := ⟨_, rfl⟩
      have hWs : w1.heap.size < WA.heap.size := by rw [hWA]; simp
      rw [← hWA] at hB1 heA hmA hkc hbox
      have hwA : Within S WA := hwin.later (by omega)
      have HWA := hide hWA
      clear hm he h4 h3 h2 hsame hA1 hwin hB hSd hok h6 hxe hWA hb1
      go_wp2_with fail
      rw [← HWA.out]
      clear HWA
      refine Calls.mono hkc.out ?_
      rintro e w2 ⟨uk, rfl, hu2, hb2⟩
      obtain ⟨ua, uc, rfl, hul⟩ := hu2.open'
      have hB2 := below_trans hB1 hb2
      have hsa := StrsOwn.at hu2
      have hsW := Fresh.within WA w2
      have hw2s := hb2.size
      have hmv2 := hwA.same hb2
      have he2 := hide (heA.moved (fun x u hx => TreeG.moved hmv2 (fun _ h => h) (d + 1) x u hx))
      have hm2 : w2.heap[r]? = some (.map es ps.length) := (hmv2 r hr).trans hmA
      have hbox2 : w2.heap[w1.heap.size]? = some (.cells #[.map (some r)] 58 (0, 0)) := (hb2.block _ hWs).trans hbox
      have hS2 : ∀ b, S b → b < w2.heap.size := hwA.later hw2s
      have HM2 := hide hm2
      have HBX := hide hbox2
      have HB2 := hide hB2
      clear hb2 hB1 hkc hu2 hB2 heA hmA hbox hmv2 hm2 hbox2
      go_wp2_with fail
      go_loopw [8, 31] (fun lv i wr => ∃ (m : Nat) (la : Option Addr) (lc : Nat) (vs : List Value), m ≤ keys.length ∧ lv = .slice la m lc ∧ i = .int .i64 (m : Int) ∧ Hid (GP S w2.heap.size wr (.slice la m lc) (((keys.zip ys).map (pairT d)).take m) vs) ∧ Hid (Below w2.heap.size w2 wr)) (fun _ i _ => keys.length - (intOf i).toNat)
      case atStart => exact ⟨0, none, 0, [], Nat.zero_le _, rfl, rfl, GP.nil _ _ _, Below.refl _ _⟩
      case round =>
        obtain ⟨m, la, lc, vs, hm, rfl, rfl, hto, hbr⟩ := hrel
        have hsz := hbr.out.size
        have hzl : Hid (((keys.zip ys).map (pairT d)).length = keys.length) := by
          show ((keys.zip ys).map (pairT d)).length = _
          rw [List.length_map, List.length_zip]
          have := HKL.out
          omega
        have hlen : Hid ((((keys.zip ys).map (pairT d)).take m).length = m) := by
          show (((keys.zip ys).map (pairT d)).take m).length = m
          rw [List.length_take, hzl.out]
          omega
        by_cases hml : m < keys.length
        · have hmi : (m : Int) < (keys.length : Int) := by omega
          have hmy : m < ys.length := by have := HKL.out; omega
          obtain ⟨b, o, s', rfl, _, hs', hssz, hck⟩ := (hsa.same (hsW.same hbr.out)).cell hml
          obtain ⟨x, hx⟩ : ∃ x, ys[m]? = some x := ⟨_, List.getElem?_eq_getElem hmy⟩
          have hstp := hide (pairs_step hs' hx)
          have hin : (s', x) ∈ ps := HPM.out.mem_iff.2 (List.mem_of_getElem? (List.getElem?_zip_eq_some.2 ⟨hs', hx⟩))
          have hsok : Hid (s'.size ≤ 1000) := by
            have := strOk_size (keysB_strOk keys none HKB.out s' (List.mem_of_getElem? hs'))
            exact Nat.le_trans this (by omega)
          obtain ⟨j, u, hpj, hej, hux, hnj⟩ := he2.out.find (perm_nodup HPM.out HKL.out HKB.out) hin
          obtain ⟨Tu, u', rfl⟩ := hux.iface
          have hmr : wr.heap[r]? = some (.map es ps.length) := (hbr.out.block r (hS2 r hr)).trans HM2.out
          have hget := run_mapGet wr r ps.length j es s' (.iface Tu u') j false hmr hej hnj
          have hbx : wr.cell? ⟨w1.heap.size, 0, none⟩ = some (.map (some r)) := by
            have := (hbr.out.block w1.heap.size (by omega)).trans HBX.out
            simp [World.cell?, this]
          have hpb := below_alloc1 wr (.cells #[.iface 88 (.agg #[.string s']), .iface Tu u'] 54)
          have hpz : (wr.alloc (.cells #[.iface 88 (.agg #[.string s']), .iface Tu u'] 54)).heap.size = wr.heap.size + 1 := by simp
          have hpair : Hid (TreeG (fun b => S b ∨ (wr.heap.size ≤ b ∧ b < (wr.alloc (.cells #[.iface 88 (.agg #[.string s']), .iface Tu u'] 54)).heap.size)) (wr.alloc (.cells #[.iface 88 (.agg #[.string s']), .iface Tu u'] 54)) (d + 2) (pairT d (s', x)) (.iface 83 (.agg #[.slice (some ⟨wr.heap.size, 0, none⟩) 2 2]))) := by
            have hblk : (wr.alloc (.cells #[.iface 88 (.agg #[.string s']), .iface Tu u'] 54)).heap[wr.heap.size]? = some (.cells #[.iface 88 (.agg #[.string s']), .iface Tu u'] 54 (0, 0)) := heap_alloc_new wr _
            have hxt : TreeG (fun b => S b ∨ (wr.heap.size ≤ b ∧ b < (wr.alloc (.cells #[.iface 88 (.agg #[.string s']), .iface Tu u'] 54)).heap.size)) (wr.alloc (.cells #[.iface 88 (.agg #[.string s']), .iface Tu u'] 54)) (d + 1) x (.iface Tu u') :=
              TreeG.moved (fun b hb => (hpb.block b (by have := hS2 b hb; omega)).trans (hbr.out.block b (hS2 b hb))) (fun b hb => Or.inl hb) _ _ _ hux
            refine Or.inr (Or.inr (Or.inr (Or.inl ⟨[textT d s', x], _, by simp, rfl, rfl, by simp, some ⟨wr.heap.size, 0, none⟩, 2, rfl, Or.inr ⟨wr.heap.size, 0, Or.inr ⟨Nat.le_refl _, by omega⟩, rfl, fun i y hy => ?_⟩⟩)))
            match i, hy with
            | 0, hy => cases hy; exact ⟨.iface 88 (.agg #[.string s']), by simp, Or.inr (Or.inr (Or.inl ⟨s', hsok.out, rfl, rfl⟩))⟩
            | 1, hy => cases hy; exact ⟨.iface Tu u', by simp, hxt⟩
            | i + 2, hy => simp at hy
          have hown := hto.out.1
          rw [hlen.out] at hown
          have HO := hide ((hown.alloc (.cells #[.iface 88 (.agg #[.string s']), .iface Tu u'] 54)).alloc (.cells #[.iface 83 (.agg #[.slice (some ⟨wr.heap.size, 0, none⟩) 2 2])] 54))
          have hcn : Hid (∀ j v, ([.iface 83 (.agg #[.slice (some ⟨wr.heap.size, 0, none⟩) 2 2])] : List Value)[j]? = some v → ((wr.alloc (.cells #[.iface 88 (.agg #[.string s']), .iface Tu u'] 54)).alloc (.cells #[.iface 83 (.agg #[.slice (some ⟨wr.heap.size, 0, none⟩) 2 2])] 54)).cell? ((⟨wr.heap.size + 1, 0, none⟩ : Addr).add j) = some v) := by
            have h := cell_one_new (wr.alloc (.cells #[.iface 88 (.agg #[.string s']), .iface Tu u'] 54)) (.iface 83 (.agg #[.slice (some ⟨wr.heap.size, 0, none⟩) 2 2])) 54
            rw [World.size_alloc] at h
            exact h
          have hstep : Hid (∀ sv' w3, w3.ownsRow w2.heap.size 54 1 sv' (m + 1) (vs ++ [.iface 83 (.agg #[.slice (some ⟨wr.heap.size, 0, none⟩) 2 2])]) → ((wr.alloc (.cells #[.iface 88 (.agg #[.string s']), .iface Tu u'] 54)).alloc (.cells #[.iface 83 (.agg #[.slice (some ⟨wr.heap.size, 0, none⟩) 2 2])] 54)).grownBy w3 (Value.slice la m lc).ownBlock → (sv'.ownBlock = (Value.slice la m lc).ownBlock ∨ sv'.ownBlock = some ((wr.alloc (.cells #[.iface 88 (.agg #[.string s']), .iface Tu u'] 54)).alloc (.cells #[.iface 83 (.agg #[.slice (some ⟨wr.heap.size, 0, none⟩) 2 2])] 54)).heap.size) →
              ∃ a c, sv' = .slice a (m + 1) c ∧ GP S w2.heap.size w3 sv' (((keys.zip ys).map (pairT d)).take (m + 1)) (vs ++ [.iface 83 (.agg #[.slice (some ⟨wr.heap.size, 0, none⟩) 2 2])]) ∧ Below w2.heap.size w2 w3) := by
            intro sv' w3 o1 o2 o3
            have hp := hto.out.push hS2 hsz hbr.out hpb hpair.out (by rw [hlen.out]; exact o1) o2 o3
            rw [← hstp.out] at hp
            obtain ⟨a, c, e⟩ := hp.1.slice
            rw [List.length_take, hzl.out, Nat.min_eq_left (by omega)] at e
            exact ⟨a, c, e, hp.1, hp.2⟩
          obtain ⟨i0, hi, hz0, hz1, hz2⟩ := info_parts Tryz.infoTree
          clear hto hbr hown hux hpair hstp hlen hzl hin hs' hx hpj hej hnj hmr hpb
          go_wp2_with (at_builtin; refine wpList_append_own_at _ rfl _ _ 79 rfl w2.heap.size 54 i0 .nilIface 1 16 Tryz.underlying79 hi hz0 hz1 hz2 rfl (by decide) _ _ _ rfl HO.out ⟨wr.heap.size + 1, 0, none⟩ 1 1 [.iface 83 (.agg #[.slice (some ⟨wr.heap.size, 0, none⟩) 2 2])] rfl rfl hcn.out ?c2 ?c3 ?c4 ?c5 ?_)
          case c2 => intro y hy; simp at hy; subst hy; rfl
          case c3 => unfold maxLen; omega
          case c4 => omega
          case c5 => simp; omega
          · intro sv' w3 o1 o2 _ o3
            have HH := hide (hstep.out sv' w3 o1 o2 (by rw [World.size_alloc, World.size_alloc]; exact o3))
            clear o1 o2 o3 hstep HO hcn hi hz0 hz1 hz2
            obtain ⟨a2, c2, rfl, hg2, hb3⟩ := HH.out
            have HG := hide hg2
            have HB3 := hide hb3
            clear HH hg2 hb3
            go_wp2_with fail
            go_roundw
            case rel => exact ⟨m + 1, a2, c2, _, by omega, rfl, by go_num, HG, HB3⟩
            case measure => simp [intOf]; omega
        · obtain rfl : m = keys.length := by omega
          have hall : ((keys.zip ys).map (pairT d)).take keys.length = pairsL d t := by rw [hpl.out]; exact List.take_of_length_le (by rw [hzl.out]; exact Nat.le_refl _)
          have hto' := hto.out
          rw [hall] at hto'
          have hpl60 : (pairsL d t).length ≤ 60 := by rw [hpl.out, hzl.out]; omega
          have hBF := below_trans HB2.out hbr.out
          have HG : Hid (TreeG (fun b => w.heap.size ≤ b ∧ b < wr.heap.size) wr (d + 3) (rowT (d + 2) (pairsL d t)) (.iface 83 (.agg #[.slice la keys.length lc]))) := hto'.tree (by omega) HB2.out.size (fun b hb => ⟨hSlo b hb, Nat.lt_of_lt_of_le (hS2 b hb) hsz⟩)
          have HBF := hide hBF
          clear hto hto' hall hbr hBF hlen hzl hsa hpl
          go_wp2_with fail
          go_ret2
          exact ⟨HBF.out, Or.inl ⟨hOK.out, _, rfl, HG.out⟩⟩
  · unfold faultV
    go_wp2_with fail
    go_ret2
    exact ⟨hB, Or.inr ⟨(fun h => by rw [hok] at h; cases h.1), why, rfl⟩⟩

set_option maxRecDepth 100000 in
set_option maxHeartbeats 4000000 in
theorem implRowPairs_any (d : Nat) (S : Nat → Prop) (t : Tr (d + 2)) (v : Value) (w : World) (hv : ValAt S w (d + 2) t v) (hS : Within S w) (hg : ErrType w) :
    Calls Tryz.prog 19 #[v] w (TellQ (d + 2) (pairsR d t).1 (pairsR d t).2 w) := by
  obtain ⟨k, n, s, ak, lk, ck, al, ll, cl, rfl⟩ := hv.shape
  obtain ⟨W0, hW⟩ : ∃ W0, W0 = (w.alloc (.cells #[.int .i64 k, .int .i64 n, .string s, .slice ak lk ck, .slice al ll cl] 29)).alloc (.cells #[.int .i64 0, .int .i64 0, .string { data := #[] }, .slice none 0 0, .slice none 0 0] 29) := ⟨_, rfl⟩
  have hW0 : Below w.heap.size w W0 := by rw [hW]; exact below_trans (below_alloc1 _ _) (below_alloc1 _ _)
  have k1 : Blk5 W0 (w.heap.size + 1) 29 (.int .i64 0) (.int .i64 0) (.string { data := #[] }) (.slice none 0 0) (.slice none 0 0) := by
    have := Blk5.new (w.alloc (.cells #[.int .i64 k, .int .i64 n, .string s, .slice ak lk ck, .slice al ll cl] 29)) 29 (.int .i64 0) (.int .i64 0) (.string { data := #[] }) (.slice none 0 0) (.slice none 0 0)
    rw [World.size_alloc] at this
    rw [hW]
    exact this
  have HW := hide hW
  clear hW
  go_enter Tryz.func19, Tryz.ntmps19
  go_wp2_with fail
  rw [← HW.out]
  clear HW
  refine (pairsOf_any d S t _ W0 (hv.same (hS.same hW0)) (hS.later hW0.size)).mono ?_
  rintro e w1 ⟨hb1, hq⟩
  have hB1 := below_trans hW0 hb1
  have k2 := k1.below hb1
  have hg1 := hg.below hB1
  have hlt := k2.lt
  -- what is told, however it is
  have hfin : ∀ (w1' : World), Below w1.heap.size w1 w1' → ∀ (x : Tr (d + 3)) (ok : Bool), Hid (∀ e w2, TellQ (d + 2) x ok w1' e w2 → ∃ v0 v1 v2 v3 v4 v5 v6 v7 v8, e = .returned (.tuple #[.agg #[.int .i64 v0, .int .i64 v1, .string v2, .slice v3 v4 v5, .slice v6 v7 v8], .bool ok]) ∧
      Blk5 w2 (w.heap.size + 1) 29 (.int .i64 0) (.int .i64 0) (.string { data := #[] }) (.slice none 0 0) (.slice none 0 0) ∧
      ∀ wF, wF = set5 w2 (w.heap.size + 1) 0 (.int .i64 v0) (.int .i64 v1) (.string v2) (.slice v3 v4 v5) (.slice v6 v7 v8) → ValOwn wF (d + 3) (Fresh w wF) x (.agg #[.int .i64 v0, .int .i64 v1, .string v2, .slice v3 v4 v5, .slice v6 v7 v8]) ∧ Below w.heap.size w wF) := fun w1' hb' x ok => by
    intro e w2 ⟨v, he, hv, hb2⟩
    obtain ⟨v0, v1, v2, v3, v4, v5, v6, v7, v8, rfl⟩ := (ValOwn.at _ _ _ _ hv).shape
    exact ⟨v0, v1, v2, v3, v4, v5, v6, v7, v8, he, (k2.below hb').below hb2, tell_end hv (below_trans (below_trans hB1 hb') hb2) (by omega) (Nat.lt_of_lt_of_le hlt hb'.size)⟩
  clear hv hW0 k1 k2
  rcases hq with ⟨hok, u, rfl, hu⟩ | ⟨hno, why, rfl⟩
  · obtain ⟨T, u', rfl⟩ := hu.iface
    have HR := hide (pairsR_does hok.1 hok.2)
    have hcall := hide (told_tree (d + 2) _ (rowT (d + 2) (pairsL d t)) _ w1 hu (fun b hb => hb.2))
    clear hu hok
    go_wp2_with fail
    refine Calls.mono hcall.out ?_
    intro e w2 hq
    obtain ⟨v0, v1, v2, v3, v4, v5, v6, v7, v8, rfl, k3, hF⟩ := (hfin w1 (Below.refl _ _) _ _).out e w2 hq
    have HF := hide hF
    obtain ⟨y0, y1, y2, y3, y4⟩ := k3.cell
    have yf := k3.frozen
    clear hF hq hfin hcall k3
    go_wp2_with fail
    refine bodyPost_ret (v := .tuple #[.agg #[.int .i64 v0, .int .i64 v1, .string v2, .slice v3 v4 v5, .slice v6 v7 v8], .bool (okT (d + 3) (rowT (d + 2) (pairsL d t)))]) (by simp [results, Tryz.results19, go_sem, y0, y1, y2, y3, y4]) rfl ⟨_, by rw [HR.out], by rw [HR.out]; exact (HF.out _ rfl).1, (HF.out _ rfl).2⟩
  · have HR := hide (pairsR_no hno)
    have hcall := hide (told_fault (d + 2) .nilIface why w1 hg1)
    unfold faultV
    clear hno
    go_wp2_with fail
    refine Calls.mono hcall.out ?_
    intro e w2 hq
    obtain ⟨v0, v1, v2, v3, v4, v5, v6, v7, v8, rfl, k3, hF⟩ := (hfin w1 (Below.refl _ _) _ _).out e w2 hq
    have HF := hide hF
    obtain ⟨y0, y1, y2, y3, y4⟩ := k3.cell
    have yf := k3.frozen
    clear hF hq hfin hcall k3
    go_wp2_with fail
    refine bodyPost_ret (v := .tuple #[.agg #[.int .i64 v0, .int .i64 v1, .string v2, .slice v3 v4 v5, .slice v6 v7 v8], .bool false]) (by simp [results, Tryz.results19, go_sem, y0, y1, y2, y3, y4]) rfl ⟨_, by rw [HR.out], by rw [HR.out]; exact (HF.out _ rfl).1, (HF.out _ rfl).2⟩
end Go.Proofs.YtmkoeomkbbmoaaaGreatDoor
