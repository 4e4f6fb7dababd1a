/- Texts of the proof, put together by program: WPartP, WGTo, WGetP, WNoth. -/
import Derived.Test.YtmkoeomkbbmoaaaGreatDoorP16
import Derived.Test.YtmkoeomkbbmoaaaGreatDoorP19
import Derived.Test.YtmkoeomkbbmoaaaGreatDoorP21
import Derived.Test.YtmkoeomkbbmoaaaGreatDoorP15
import Derived.Test.YtmkoeomkbbmoaaaGreatDoorP10
/- Parts of trees that are ok; what lies at a place. -/
namespace Go.Proofs.YtmkoeomkbbmoaaaGreatDoor
open Go.RowKit Go.Deep

theorem sum_map_eq {α : Type} {f g : α → Nat} : ∀ (xs : List α), (∀ x ∈ xs, f x = g x) → (xs.map f).sum = (xs.map g).sum
  | [], _ => rfl
  | x :: r, h => by
    simp only [List.map_cons, List.sum_cons]
    rw [h x (by simp), sum_map_eq r (fun y hy => h y (by simp [hy]))]

theorem formT_up : ∀ (d : Nat) (t : Tr d) (deep : Int), formT d t deep = true → formT d t (deep + 1) = true ∧ manyT d t (deep + 1) = manyT d t deep
  | 0, _, _, h => by cases h
  | d + 1, t, deep, hf => by
    obtain ⟨kind, num, str, keys, list⟩ := t
    cases hb : headBad kind num str keys.length list.length deep with
    | true => rw [formT_bad hb] at hf; cases hf
    | false =>
      obtain ⟨g0, g1, g2, g3, g4⟩ := headBad_iff.1 hb
      have hb' : headBad kind num str keys.length list.length (deep + 1) = false := headBad_iff.2 ⟨by omega, g1, g2, g3, g4⟩
      rw [formT_good hb] at hf
      rw [formT_good hb']
      have hm : ∀ e : Int, 0 < e → manyT (d + 1) (Nd.mk kind num str keys list : Nd (Tr d)) e = 1 + (list.map (fun x => manyT d x (e - 1))).sum := fun e he => by
        show 1 + (if 0 < e then _ else 0) = _
        rw [if_pos he]
      rw [hm _ (by omega), hm _ (by omega)]
      have hall : ∀ x ∈ list, formT d x (deep - 1) = true := by
        intro x hx
        by_cases k5 : kind < 5
        · have := g4 k5
          rw [List.length_eq_zero_iff] at this
          rw [this] at hx
          cases hx
        rw [if_neg (by omega), if_neg (by omega), if_neg (by omega)] at hf
        by_cases k6 : kind = 6
        · rw [if_pos k6] at hf
          simp only [Bool.and_eq_true] at hf
          exact List.all_eq_true.1 hf.2 x hx
        rw [if_neg k6] at hf
        by_cases k5' : kind = 5
        · rw [if_pos k5'] at hf
          exact List.all_eq_true.1 hf x hx
        · rw [if_neg k5'] at hf
          cases hf
      have hup : ∀ x ∈ list, formT d x (deep + 1 - 1) = true ∧ manyT d x (deep + 1 - 1) = manyT d x (deep - 1) := fun x hx => by
        have h1 := formT_up d x (deep - 1) (hall x hx)
        rw [show deep - 1 + 1 = deep + 1 - 1 by omega] at h1
        exact h1
      have ha : list.all (fun x => formT d x (deep + 1 - 1)) = list.all (fun x => formT d x (deep - 1)) := by
        rw [List.all_eq_true.2 (fun x hx => (hup x hx).1), List.all_eq_true.2 hall]
      rw [ha]
      exact ⟨hf, by rw [sum_map_eq list (fun x hx => (hup x hx).2)]⟩

theorem okT_part {d : Nat} {t : Tr (d + 1)} {x : Tr d} (h : okT (d + 1) t = true) (hx : x ∈ Nd.list t) : okT d x = true := by
  obtain ⟨hf, hm⟩ := okT_form h
  obtain ⟨kind, num, str, keys, list⟩ := t
  have hx : x ∈ list := hx
  have hmm : manyT (d + 1) (Nd.mk kind num str keys list : Nd (Tr d)) 6 = 1 + (list.map (fun x => manyT d x (6 - 1))).sum := rfl
  rw [hmm] at hm
  have h1 := many_mem (d := d) (deep := 6 - 1) hx
  have hfx : formT d x (6 - 1) = true := by
    cases hb : headBad kind num str keys.length list.length 6 with
    | true => rw [formT_bad hb] at hf; cases hf
    | false =>
      obtain ⟨g0, g1, g2, g3, g4⟩ := headBad_iff.1 hb
      rw [formT_good hb] at hf
      by_cases k5 : kind < 5
      · have := g4 k5
        rw [List.length_eq_zero_iff] at this
        rw [this] at hx
        cases hx
      rw [if_neg (by omega), if_neg (by omega), if_neg (by omega)] at hf
      by_cases k6 : kind = 6
      · rw [if_pos k6] at hf
        simp only [Bool.and_eq_true] at hf
        exact List.all_eq_true.1 hf.2 x hx
      rw [if_neg k6] at hf
      by_cases k5' : kind = 5
      · rw [if_pos k5'] at hf
        exact List.all_eq_true.1 hf x hx
      · rw [if_neg k5'] at hf
        cases hf
  have h2 := formT_up d x (6 - 1) hfx
  have h3 : formT d x 6 = true := h2.1
  have h4 : manyT d x 6 = manyT d x (6 - 1) := h2.2
  have h5 : manyT d x 6 ≤ 60 := by rw [h4]; omega
  unfold okT
  rw [h3]
  simpa using h5

theorem str_empty {s : ByteArray} (h : s.toList = []) : s = ByteArray.empty := by
  rw [ByteArray.toList_eq] at h
  cases s with
  | mk a =>
    cases a with
    | mk l =>
      have h : l = [] := h
      rw [h]
      rfl
/-- What is nothing, is nothing at one depth less. -/
theorem valAt_zero {d : Nat} {S : Nat → Prop} {w : World} {t : Tr (d + 2)} {v : Value} (h : okT (d + 2) t = true) (h0 : Nd.kind t = 0) (hv : ValAt S w (d + 2) t v) : ValAt S w (d + 1) (zeroT d) v := by
  obtain ⟨hf, _⟩ := okT_form h
  obtain ⟨kind, num, str, keys, list⟩ := t
  have h0 : kind = 0 := h0
  subst h0
  cases hb : headBad 0 num str keys.length list.length 6 with
  | true => rw [formT_bad hb] at hf; cases hf
  | false =>
    obtain ⟨_, g1, g2, g3, g4⟩ := headBad_iff.1 hb
    obtain rfl := g1 (by omega)
    have hs : str = ByteArray.empty := str_empty (g2 (by omega))
    subst hs
    have hk := g3 (by omega)
    have hl := g4 (by omega)
    rw [List.length_eq_zero_iff] at hk hl
    subst hk hl
    obtain ⟨vk, vl, rfl, i1, i2, i3, hk, hl⟩ := hv
    exact ⟨vk, vl, rfl, i1, i2, i3, hk, by
      obtain ⟨a, ⟨p, c, e, q⟩⟩ := hl
      exact ⟨by show (0 : Nat) < 3518437208883; omega, p, c, e, Or.inl rfl⟩⟩

/-- What lies at a place, from the end if it is below 0. -/
def placeI (i : Int) (n : Nat) : Int := if i < -(n : Int) ∨ (n : Int) ≤ i then -1 else if i < 0 then i + n else i
def placeL {α : Type} (xs : List α) (i : Int) : Option α := if placeI i xs.length < 0 then none else xs[(placeI i xs.length).toNat]?
def partAtT (d : Nat) (t : Tr (d + 2)) (i : Int) : Tr (d + 1) × Bool :=
  if okT (d + 2) t = true then (if Nd.kind t = 0 then (zeroT d, true) else if Nd.kind t = 5 then ((placeL (Nd.list t) i).getD (zeroT d), true) else (zeroT d, false)) else (zeroT d, false)
theorem placeL_mem {α : Type} {xs : List α} {i : Int} {x : α} (h : placeL xs i = some x) : x ∈ xs := by
  unfold placeL at h
  split at h
  · cases h
  · exact List.mem_of_getElem? h
theorem okT_partAt (d : Nat) (t : Tr (d + 2)) (i : Int) : okT (d + 1) (partAtT d t i).1 = true := by
  unfold partAtT
  split
  · rename_i h
    split
    · exact okT_zero d
    split
    · cases hp : placeL (Nd.list t) i with
      | none => exact okT_zero d
      | some x => exact okT_part h (placeL_mem hp)
    · exact okT_zero d
  · exact okT_zero d
theorem placeI_range (i : Int) (n : Nat) : placeI i n = -1 ∨ (0 ≤ placeI i n ∧ placeI i n < n) := by
  unfold placeI
  split
  · exact Or.inl rfl
  · split <;> exact Or.inr (by omega)
theorem wt_part {d : Nat} {t : Tr (d + 1)} {x : Tr d} (hx : x ∈ Nd.list t) (h : okT (d + 1) t = true) : (wtT d x : Int) ≤ 4194304 := by
  have := wtT_ok (okT_part h hx)
  omega

/-- A tree that lies in memory, as one that may be one deeper. -/
theorem deepen {S : Nat → Prop} {w : World} {v : Value} : ∀ {N : Nat} {t : Tr N}, ValAt S w N t v → ∃ (d : Nat) (t' : Tr (d + 2)), ValAt S w (d + 2) t' v
  | 0, _, h => h.elim
  | 1, t, h => by
    obtain ⟨vk, vl, rfl, i1, i2, i3, hk, hl⟩ := h
    refine ⟨0, (Nd.mk (Nd.kind t) (Nd.num t) (Nd.str t) (Nd.keys t) [] : Nd (Tr 1)), vk, vl, rfl, i1, i2, i3, hk, ?_⟩
    obtain ⟨h1, a, cap, rfl, h2⟩ := hl
    have h0 : (Nd.list t).length = 0 := by
      cases hL : Nd.list t with
      | nil => rfl
      | cons x r => exact Empty.elim x
    exact ⟨by show (0 : Nat) < 3518437208883; omega, a, cap, by show _ = Value.slice a 0 cap; rw [h0], Or.inl rfl⟩
  | d + 2, t, h => ⟨d, t, h⟩
end Go.Proofs.YtmkoeomkbbmoaaaGreatDoor

/- A row of the program's own trees that owns its memory. -/
namespace Go.Proofs.YtmkoeomkbbmoaaaGreatDoor
open Go.RowKit Go.Deep

/-- A row as a tree. -/
def rowT (d : Nat) (xs : List (Tr d)) : Tr (d + 1) := (Nd.mk 5 0 ByteArray.empty [] xs : Nd (Tr d))
/-- A row of the program's own trees that owns its memory: its trees lie in blocks from N on, not in the row's own. -/
def GTo {d : Nat} (N : Nat) (w : World) (sv : Value) (xs : List (Tr d)) (vs : List Value) : Prop :=
  w.ownsRow N 54 1 sv xs.length vs ∧ ∀ (j : Nat) (x : Tr d) (u : Value), xs[j]? = some x → vs[j]? = some u → TreeG (Aside N w sv) w d x u

theorem gto_nil {d : Nat} (N : Nat) (w : World) : GTo (d := d) N w (.slice none 0 0) [] [] := ⟨World.ownsRow_nil _ _ _ _, fun j x u h => by simp at h⟩
theorem gto_of {d N : Nat} {w : World} {sv : Value} {xs : List (Tr d)} {vs : List Value} (h : TreesTo N w sv xs xs.length vs) (hf : ∀ x ∈ xs, formT d x 5 = true ∧ manyT d x 5 ≤ 60) : GTo N w sv xs vs :=
  ⟨h.1, fun j x u hx hu => treeG_of d x 5 u (hf x (List.mem_of_getElem? hx)).1 (hf x (List.mem_of_getElem? hx)).2 (h.2 j x u (List.getElem?_eq_some_iff.1 hx).1 hx hu)⟩
theorem okT_row {d : Nat} {xs : List (Tr d)} (h : okT (d + 1) (Nd.mk 5 0 ByteArray.empty [] xs : Nd (Tr d)) = true) : ∀ x ∈ xs, formT d x 5 = true ∧ manyT d x 5 ≤ 60 := by
  obtain ⟨hf, hm⟩ := okT_form h
  have hmm : manyT (d + 1) (Nd.mk 5 0 ByteArray.empty [] xs : Nd (Tr d)) 6 = 1 + (xs.map (fun x => manyT d x (6 - 1))).sum := rfl
  rw [hmm] at hm
  cases hb : headBad 5 0 ByteArray.empty ([] : List ByteArray).length xs.length 6 with
  | true => rw [formT_bad hb] at hf; cases hf
  | false =>
    rw [formT_good hb] at hf
    have hall : xs.all (fun x => formT d x (6 - 1)) = true := by simpa using hf
    intro x hx
    have h1 := many_mem (d := d) (deep := 6 - 1) hx
    exact ⟨List.all_eq_true.1 hall x hx, by have h2 : manyT d x 5 = manyT d x (6 - 1) := rfl; omega⟩

/-- The trees of a row, wherever it lies. -/
theorem GTo.row {d N : Nat} {w : World} {sv : Value} {xs : List (Tr d)} {vs : List Value} (h : GTo N w sv xs vs) (hl : xs.length < 17592186044416) : Row1At (fun b => N ≤ b ∧ b < w.heap.size) w (TreeG (fun b => N ≤ b ∧ b < w.heap.size) w d) sv xs := by
  obtain ⟨h1, h2⟩ := h
  refine ⟨hl, ?_⟩
  have hlen := h1.1
  rw [Nat.mul_one] at hlen
  rcases h1.2 with ⟨rfl, h0⟩ | ⟨g, cap, cur, rfl, hg, hh, _, _, _, _⟩
  · exact ⟨none, 0, by rw [h0], Or.inl (List.eq_nil_of_length_eq_zero h0)⟩
  · refine ⟨some ⟨g, 0, none⟩, cap, rfl, Or.inr ⟨g, 0, ⟨by omega, (Array.getElem?_eq_some_iff.1 hh).1⟩, rfl, fun i x hx => ?_⟩⟩
    have hi := (List.getElem?_eq_some_iff.1 hx).1
    have hvi : vs[i]? = some vs[i] := List.getElem?_eq_getElem (by omega)
    have hc := h1.cells (g := g) rfl i _ hvi
    have hadd : (⟨g, 0, none⟩ : Addr).add i = ⟨g, 0 + i, none⟩ := by unfold Addr.add; split <;> simp_all
    rw [hadd] at hc
    exact ⟨vs[i], hc, (h2 i x _ hx hvi).mono (fun b hb => ⟨hb.1, hb.2.1⟩)⟩

end Go.Proofs.YtmkoeomkbbmoaaaGreatDoor

/- What lies at a key. -/
namespace Go.Proofs.YtmkoeomkbbmoaaaGreatDoor
open Go.RowKit Go.Deep

/-- What lies at a key, of keys and what lies at them. -/
def getL {α : Type} : List ByteArray → List α → ByteArray → Option α
  | k :: ks, x :: xs, s => if (k == s) = true then some x else getL ks xs s
  | _, _, _ => none
def partGetT (d : Nat) (t : Tr (d + 2)) (s : ByteArray) : Tr (d + 1) × Bool :=
  if okT (d + 2) t = true ∧ strOk s = true then (if Nd.kind t = 0 then (zeroT d, true) else if Nd.kind t = 6 then ((getL (Nd.keys t) (Nd.list t) s).getD (zeroT d), true) else (zeroT d, false)) else (zeroT d, false)

theorem getL_at {α : Type} {s : ByteArray} : ∀ {ks : List ByteArray} {xs : List α} {k : Nat} {x : α}, ks[k]? = some s → xs[k]? = some x → (∀ j, j < k → ks[j]? ≠ some s) → getL ks xs s = some x
  | [], _, _, _, h, _, _ => by simp at h
  | _ :: _, [], _, _, _, h, _ => by simp at h
  | a :: ks, y :: xs, 0, x, h, h', _ => by
    simp at h h'
    subst h h'
    rw [getL, if_pos ((MapKept.bytes_beq a a).2 rfl)]
  | a :: ks, y :: xs, k + 1, x, h, h', hn => by
    rw [getL, if_neg (fun e => hn 0 (by omega) (by rw [(MapKept.bytes_beq a s).1 e]; rfl))]
    exact getL_at (by simpa using h) (by simpa using h') (fun j hj => by have := hn (j + 1) (by omega); simpa using this)
theorem getL_miss {α : Type} {s : ByteArray} : ∀ {ks : List ByteArray} {xs : List α}, s ∉ ks → getL ks xs s = none
  | [], _, _ => by rw [getL]; intro _ _ _ _ h; cases h
  | _ :: _, [], _ => by rw [getL]; intro _ _ _ _ _ h; cases h
  | a :: ks, y :: xs, hn => by
    rw [getL, if_neg (fun e => hn (by rw [(MapKept.bytes_beq a s).1 e]; simp))]
    exact getL_miss (fun h => hn (by simp [h]))
theorem getL_mem {α : Type} {s : ByteArray} {x : α} : ∀ {ks : List ByteArray} {xs : List α}, getL ks xs s = some x → x ∈ xs
  | [], _, h => by rw [getL] at h; cases h; intro _ _ _ _ h; cases h
  | _ :: _, [], h => by rw [getL] at h; cases h; intro _ _ _ _ _ h; cases h
  | a :: ks, y :: xs, h => by
    rw [getL] at h
    split at h
    · cases h; simp
    · simp [getL_mem h]
/-- A key that is there. -/
theorem key_at {α : Type} {s : ByteArray} : ∀ {ks : List ByteArray} {xs : List α}, s ∈ ks → ks.length = xs.length → ∃ (k : Nat) (x : α), ks[k]? = some s ∧ xs[k]? = some x ∧ (∀ j, j < k → ks[j]? ≠ some s)
  | [], _, h, _ => by cases h
  | _ :: _, [], _, h => by simp at h
  | a :: ks, y :: xs, h, hl => by
    by_cases e : a = s
    · subst e
      exact ⟨0, y, rfl, rfl, fun j hj => by omega⟩
    · obtain ⟨k, x, h1, h2, h3⟩ := key_at (ks := ks) (xs := xs) (by simpa [Ne.symm e] using h) (by simpa using hl)
      refine ⟨k + 1, x, by simpa using h1, by simpa using h2, fun j hj => ?_⟩
      cases j with
      | zero => intro h; simp at h; exact e h
      | succ j => have := h3 j (by omega); simpa using this
theorem okT_keys {d : Nat} {t : Tr (d + 1)} (h : okT (d + 1) t = true) (h6 : Nd.kind t = 6) : (Nd.keys t).length = (Nd.list t).length := by
  obtain ⟨hf, hm⟩ := okT_form h
  obtain ⟨kind, num, str, keys, list⟩ := t
  have h6 : kind = 6 := h6
  cases hb : headBad kind num str keys.length list.length 6 with
  | true => rw [formT_bad hb] at hf; cases hf
  | false =>
    rw [formT_good hb, if_neg (by omega), if_neg (by omega), if_neg (by omega), if_pos h6] at hf
    simp only [Bool.and_eq_true] at hf
    exact by simpa using hf.1.1
theorem okT_partGet (d : Nat) (t : Tr (d + 2)) (s : ByteArray) : okT (d + 1) (partGetT d t s).1 = true := by
  unfold partGetT
  split
  · rename_i h
    split
    · exact okT_zero d
    split
    · cases hp : getL (Nd.keys t) (Nd.list t) s with
      | none => exact okT_zero d
      | some x => exact okT_part h.1 (getL_mem hp)
    · exact okT_zero d
  · exact okT_zero d
end Go.Proofs.YtmkoeomkbbmoaaaGreatDoor

/- isNothing. -/
namespace Go.Proofs.YtmkoeomkbbmoaaaGreatDoor
open Go.RowKit Go.Deep

set_option maxRecDepth 100000 in
set_option maxHeartbeats 1000000 in
theorem isNothing_bare (k : Int) (w : World) : Calls Tryz.prog 49 #[.iface 92 (.agg #[.int .i64 k])] w fun e w' => e = .returned (.bool (k == 0)) ∧ Below w.heap.size w w' := by
  have hA := hide (below_alloc1 w (.cells #[.int .i64 k] 92))
  have hs := Tryz.asB_B
  go_enter Tryz.func49, Tryz.ntmps49
  go_wp2_with fail
  go_ret
  exact ⟨rfl, hA.out⟩
set_option maxRecDepth 100000 in
theorem isNothing_num (v : Value) (w : World) : Calls Tryz.prog 49 #[.iface 129 v] w fun e w' => e = .returned (.bool false) ∧ Below w.heap.size w w' := by
  have hs := Tryz.asB_N
  go_enter Tryz.func49, Tryz.ntmps49
  go_wp2_with fail
  go_ret
  exact ⟨rfl, below_alloc1 _ _⟩
set_option maxRecDepth 100000 in
theorem isNothing_str (v : Value) (w : World) : Calls Tryz.prog 49 #[.iface 88 v] w fun e w' => e = .returned (.bool false) ∧ Below w.heap.size w w' := by
  have hs := Tryz.asB_S
  go_enter Tryz.func49, Tryz.ntmps49
  go_wp2_with fail
  go_ret
  exact ⟨rfl, below_alloc1 _ _⟩
set_option maxRecDepth 100000 in
theorem isNothing_row (v : Value) (w : World) : Calls Tryz.prog 49 #[.iface 83 v] w fun e w' => e = .returned (.bool false) ∧ Below w.heap.size w w' := by
  have hs := Tryz.asB_R
  go_enter Tryz.func49, Tryz.ntmps49
  go_wp2_with fail
  go_ret
  exact ⟨rfl, below_alloc1 _ _⟩
set_option maxRecDepth 100000 in
theorem isNothing_map (v : Value) (w : World) : Calls Tryz.prog 49 #[.iface 58 v] w fun e w' => e = .returned (.bool false) ∧ Below w.heap.size w w' := by
  have hs := Tryz.asB_M
  go_enter Tryz.func49, Tryz.ntmps49
  go_wp2_with fail
  go_ret
  exact ⟨rfl, below_alloc1 _ _⟩
end Go.Proofs.YtmkoeomkbbmoaaaGreatDoor
