/- Texts of the proof, put together by program: PSet, WKeyP, PAdd, PAddT. -/
import Derived.Test.YtoangpfmjohhmaaGreatDoorP12
import Derived.Test.YtoangpfmjohhmaaGreatDoorP11
import Derived.Test.YtoangpfmjohhmaaGreatDoorP6
/- What is set at a place of a plain row: the facts that the laws of chapter 2 ask for. -/
namespace Go.Proofs.YtoangpfmjohhmaaGreatDoor
open Go.RowKit Go.Deep

theorem okT_iff {d : Nat} {t : Tr d} : okT d t = true ↔ formT d t 6 = true ∧ manyT d t 6 ≤ 60 := by
  unfold okT
  rw [Bool.and_eq_true, decide_eq_true_eq]
theorem okT_rowT_iff {d : Nat} {xs : List (Tr d)} : okT (d + 1) (rowT d xs) = true ↔ (∀ x ∈ xs, formT d x 5 = true) ∧ 1 + (xs.map (fun x => manyT d x 5)).sum ≤ 60 := by
  have hb : headBad 5 0 ByteArray.empty ([] : List ByteArray).length xs.length 6 = false := headBad_iff.2 ⟨by omega, fun _ => rfl, fun _ => empty_toList, fun _ => rfl, fun h => by omega⟩
  have h1 : formT (d + 1) (rowT d xs) 6 = xs.all (fun x => formT d x 5) := by
    show formT (d + 1) (Nd.mk 5 0 ByteArray.empty [] xs : Nd (Tr d)) 6 = _
    rw [formT_good hb]
    rfl
  have h2 : manyT (d + 1) (rowT d xs) 6 = 1 + (xs.map (fun x => manyT d x 5)).sum := rfl
  rw [okT_iff, h1, h2, List.all_eq_true]
theorem okT_mapT_iff {d : Nat} {ps : List (ByteArray × Tr d)} : okT (d + 1) (mapT d ps) = true ↔ keysB (ps.map Prod.fst) = true ∧ (∀ x ∈ ps.map Prod.snd, formT d x 5 = true) ∧ 1 + ((ps.map Prod.snd).map (fun x => manyT d x 5)).sum ≤ 60 := by
  have hb : headBad 6 0 ByteArray.empty (ps.map Prod.fst).length (ps.map Prod.snd).length 6 = false := headBad_iff.2 ⟨by omega, fun _ => rfl, fun _ => empty_toList, fun h => absurd rfl h, fun h => by omega⟩
  have h1 : formT (d + 1) (mapT d ps) 6 = (keysB (ps.map Prod.fst) && (ps.map Prod.snd).all (fun x => formT d x 5)) := by
    show formT (d + 1) (Nd.mk 6 0 ByteArray.empty (ps.map Prod.fst) (ps.map Prod.snd) : Nd (Tr d)) 6 = _
    rw [formT_good hb, if_neg (by omega), if_neg (by omega), if_neg (by omega), if_pos rfl, putL_len2]
    simp only [beq_self_eq_true, Bool.true_and]
    rfl
  have h2 : manyT (d + 1) (mapT d ps) 6 = 1 + ((ps.map Prod.snd).map (fun x => manyT d x 5)).sum := rfl
  rw [okT_iff, h1, h2, Bool.and_eq_true, List.all_eq_true, and_assoc]
/-- A row that is ok is its trees. -/
theorem row_self {d : Nat} {t : Tr (d + 1)} (h : okT (d + 1) t = true) (h5 : Nd.kind t = 5) : t = rowT d (Nd.list t) := by
  obtain ⟨hf, _⟩ := okT_form h
  obtain ⟨kind, num, str, keys, list⟩ := t
  have h5 : kind = 5 := h5
  subst h5
  cases hb : headBad 5 num str keys.length list.length 6 with
  | true => rw [formT_bad hb] at hf; cases hf
  | false =>
    obtain ⟨_, g1, g2, g3, _⟩ := headBad_iff.1 hb
    obtain rfl := g1 (by omega)
    have hs : str = ByteArray.empty := str_empty (g2 (by omega))
    have hk := List.eq_nil_of_length_eq_zero (g3 (by omega))
    subst hs hk
    rfl
theorem map_self {d : Nat} {t : Tr (d + 1)} (h : okT (d + 1) t = true) (h6 : Nd.kind t = 6) : t = mapT d ((Nd.keys t).zip (Nd.list t)) := by
  have hl := okT_keys h h6
  obtain ⟨hf, _⟩ := okT_form h
  obtain ⟨kind, num, str, keys, list⟩ := t
  have h6 : kind = 6 := h6
  subst h6
  cases hb : headBad 6 num str keys.length list.length 6 with
  | true => rw [formT_bad hb] at hf; cases hf
  | false =>
    obtain ⟨_, g1, g2, g3, _⟩ := headBad_iff.1 hb
    obtain rfl := g1 (by omega)
    have hs : str = ByteArray.empty := str_empty (g2 (by omega))
    subst hs
    have hl : keys.length = list.length := hl
    show _ = (Nd.mk 6 0 ByteArray.empty ((keys.zip list).map Prod.fst) ((keys.zip list).map Prod.snd) : Nd (Tr d))
    rw [zip_fst _ _ hl, zip_snd' _ _ hl]

theorem setL_at {α : Type} (xs : List α) (z : α) (k : Nat) (x : α) : (setL xs z k x)[k]? = some x := by
  unfold setL
  rw [List.getElem?_set_self (by rw [padL_length]; omega)]
theorem setL_other {α : Type} {xs : List α} {z : α} {k : Nat} {x y : α} {j : Nat} (hj : xs[j]? = some y) (hne : j ≠ k) : (setL xs z k x)[j]? = some y := by
  unfold setL padL
  rw [List.getElem?_set_ne (Ne.symm hne), List.getElem?_append_left (List.getElem?_eq_some_iff.1 hj).1, hj]
theorem setL_in {α : Type} {xs : List α} {z : α} {k : Nat} {x : α} (hk : k < xs.length) : setL xs z k x = xs.set k x := by
  unfold setL padL
  rw [show k + 1 - xs.length = 0 by omega]
  simp
theorem setL_end {α : Type} {xs : List α} {z : α} {k : Nat} {x : α} (hk : k = xs.length) : setL xs z k x = xs ++ [x] := by
  subst hk
  unfold setL padL
  rw [show xs.length + 1 - xs.length = 1 by omega]
  simp

theorem rowL_cases {d : Nat} {t : Tr (d + 1)} {xs : List (Tr d)} (h : rowL d t = some xs) : okT (d + 1) t = true ∧ ((Nd.kind t = 0 ∧ xs = []) ∨ (Nd.kind t = 5 ∧ xs = Nd.list t)) := by
  unfold rowL at h
  split at h
  · rename_i hh
    split at h
    · cases h; exact ⟨hh, Or.inl ⟨by assumption, rfl⟩⟩
    split at h
    · cases h; exact ⟨hh, Or.inr ⟨by assumption, rfl⟩⟩
    · cases h
  · cases h
theorem rowL_rowT {d : Nat} {xs : List (Tr d)} (h : okT (d + 1) (rowT d xs) = true) : rowL d (rowT d xs) = some xs := by
  rw [rowL_ok h]
  rfl
theorem partAt_rowT {d : Nat} {xs : List (Tr (d + 1))} {i : Int} (h : okT (d + 2) (rowT (d + 1) xs) = true) : partAtT d (rowT (d + 1) xs) i = ((placeL xs i).getD (zeroT d), true) := by
  unfold partAtT
  rw [if_pos h]
  rfl
/-- The place that is meant, from the start. -/
def spotN (i : Int) (n : Nat) : Nat := (if i < 0 then i + n else i).toNat
theorem set_ok {d : Nat} {t : Tr (d + 2)} {i : Int} {x : Tr (d + 1)} (h : (partSetT d t i x).2 = true) :
    ∃ xs, rowL (d + 1) t = some xs ∧ okT (d + 1) x = true ∧ -(xs.length : Int) ≤ i ∧ i < 60 ∧ (partSetT d t i x).1 = rowT (d + 1) (setL xs (zeroT d) (spotN i xs.length) x) ∧ okT (d + 2) (rowT (d + 1) (setL xs (zeroT d) (spotN i xs.length) x)) = true := by
  unfold partSetT at h ⊢
  cases hm : rowL (d + 1) t with
  | none => rw [hm] at h; cases h
  | some xs =>
    rw [hm] at h
    by_cases hc : okT (d + 1) x = true ∧ -(xs.length : Int) ≤ i ∧ i < 60
    · have h' : okT (d + 2) (rowT (d + 1) (setL xs (zeroT d) (spotN i xs.length) x)) = true := by
        simp only [if_pos hc] at h
        exact h
      refine ⟨xs, rfl, hc.1, hc.2.1, hc.2.2, ?_, h'⟩
      simp only [if_pos hc]
      show toldT (d + 1) (rowT (d + 1) (setL xs (zeroT d) (spotN i xs.length) x)) = _
      unfold toldT
      rw [if_pos h']
    · simp only [if_neg hc] at h
      cases h
theorem set_row {d : Nat} {t : Tr (d + 2)} {i : Int} {x : Tr (d + 1)} {xs : List (Tr (d + 1))} (hr : rowL (d + 1) t = some xs) (hx : okT (d + 1) x = true) (h1 : -(xs.length : Int) ≤ i) (h2 : i < 60) (h : okT (d + 2) (rowT (d + 1) (setL xs (zeroT d) (spotN i xs.length) x)) = true) :
    partSetT d t i x = (rowT (d + 1) (setL xs (zeroT d) (spotN i xs.length) x), true) := by
  unfold partSetT
  rw [hr]
  simp only [if_pos (And.intro hx (And.intro h1 h2))]
  show (toldT (d + 1) (rowT (d + 1) (setL xs (zeroT d) (spotN i xs.length) x)), okT (d + 2) (rowT (d + 1) (setL xs (zeroT d) (spotN i xs.length) x))) = _
  unfold toldT
  rw [if_pos h, h]
theorem place_spot {i : Int} {n m : Nat} (h1 : -(n : Int) ≤ i) (hm : m = max n (spotN i n + 1)) : placeI i m = (spotN i n : Int) := by
  unfold placeI spotN at *
  by_cases h0 : i < 0
  · rw [if_pos h0] at hm ⊢
    have : m = n := by omega
    subst this
    rw [if_neg (by omega), if_pos h0]
    omega
  · rw [if_neg h0] at hm ⊢
    rw [if_neg (by omega), if_neg h0]
    omega
/-- What was set is there. -/
theorem at_set {d : Nat} {t : Tr (d + 2)} {i : Int} {x : Tr (d + 1)} (h : (partSetT d t i x).2 = true) : partAtT d (partSetT d t i x).1 i = (x, true) := by
  obtain ⟨xs, hr, hx, h1, h2, he, ho⟩ := set_ok h
  rw [he, partAt_rowT ho]
  have hp : placeI i (setL xs (zeroT d) (spotN i xs.length) x).length = (spotN i xs.length : Int) := place_spot h1 (setL_length _ _ _ _)
  unfold placeL
  rw [hp, if_neg (by omega), Int.toNat_natCast, setL_at]
  rfl
theorem at_set_other {d : Nat} {t : Tr (d + 2)} {i : Int} {x y : Tr (d + 1)} {j : Nat} (h : (partSetT d t i x).2 = true) (hj : (Nd.list t)[j]? = some y) (n1 : (j : Int) ≠ i) (n2 : (j : Int) ≠ i + (Nd.list t).length) : partAtT d (partSetT d t i x).1 (j : Int) = (y, true) := by
  obtain ⟨xs, hr, hx, h1, h2, he, ho⟩ := set_ok h
  obtain ⟨hok, hc⟩ := rowL_cases hr
  rcases hc with ⟨h0, rfl⟩ | ⟨h5, rfl⟩
  · rw [okT_nolist hok (by omega)] at hj
    simp at hj
  · rw [he, partAt_rowT ho]
    have hlt := (List.getElem?_eq_some_iff.1 hj).1
    have hs : j ≠ spotN i (Nd.list t).length := by unfold spotN; split <;> omega
    have hl := setL_length (Nd.list t) (zeroT d) (spotN i (Nd.list t).length) x
    unfold placeL placeI
    rw [if_neg (by omega), if_neg (by omega), if_neg (by omega), Int.toNat_natCast, setL_other hj hs]
    rfl
theorem set_len {d : Nat} {t : Tr (d + 2)} {i : Int} {x : Tr (d + 1)} (h : (partSetT d t i x).2 = true) : (Nd.list t).length ≤ (Nd.list (partSetT d t i x).1).length ∧ (i < 0 ∨ i < (Nd.list (partSetT d t i x).1).length) := by
  obtain ⟨xs, hr, hx, h1, h2, he, ho⟩ := set_ok h
  obtain ⟨hok, hc⟩ := rowL_cases hr
  have hl := setL_length xs (zeroT d) (spotN i xs.length) x
  rw [he]
  have e : (Nd.list (rowT (d + 1) (setL xs (zeroT d) (spotN i xs.length) x))).length = (setL xs (zeroT d) (spotN i xs.length) x).length := rfl
  rw [e, hl]
  have hn : (Nd.list t).length = xs.length := by
    rcases hc with ⟨h0, rfl⟩ | ⟨h5, rfl⟩
    · rw [okT_nolist hok (by omega)]
    · rfl
  rw [hn]
  refine ⟨by omega, ?_⟩
  by_cases h0 : i < 0
  · exact Or.inl h0
  · refine Or.inr ?_
    unfold spotN
    rw [if_neg h0]
    omega

theorem at_ok {d : Nat} {t : Tr (d + 2)} {i : Int} (h : (partAtT d t i).2 = true) : okT (d + 2) t = true ∧ (Nd.kind t = 0 ∨ Nd.kind t = 5) := by
  unfold partAtT at h
  by_cases ho : okT (d + 2) t = true
  · refine ⟨ho, ?_⟩
    rw [if_pos ho] at h
    by_cases h0 : Nd.kind t = 0
    · exact Or.inl h0
    · rw [if_neg h0] at h
      by_cases h5 : Nd.kind t = 5
      · exact Or.inr h5
      · rw [if_neg h5] at h
        cases h
  · rw [if_neg ho] at h
    cases h
theorem at_out {d : Nat} {t : Tr (d + 2)} {i : Int} (h : okT (d + 2) t = true) (h5 : Nd.kind t = 5) (ho : ((Nd.list t).length : Int) ≤ i ∨ i < -((Nd.list t).length : Int)) : partAtT d t i = (zeroT d, true) := by
  unfold partAtT
  rw [if_pos h, if_neg (by omega), if_pos h5]
  unfold placeL placeI
  rw [if_pos (by omega)]
  rfl
theorem set_no {d : Nat} {t : Tr (d + 2)} {i : Int} {x : Tr (d + 1)} (h : (partSetT d t i x).2 = false) : (partSetT d t i x).1 = zeroT (d + 1) := by
  unfold partSetT at h ⊢
  cases hm : rowL (d + 1) t with
  | none => rfl
  | some xs =>
    rw [hm] at h
    by_cases hc : okT (d + 1) x = true ∧ -(xs.length : Int) ≤ i ∧ i < 60
    · simp only [if_pos hc] at h ⊢
      show toldT (d + 1) _ = _
      unfold toldT
      rw [if_neg (by rw [h]; simp)]
    · simp only [if_neg hc]
theorem put_keys {d : Nat} {t : Tr (d + 2)} {s k : ByteArray} {x : Tr (d + 1)} {i : Nat} (h : (partPutT d t s x).2 = true) (hk : (Nd.keys t)[i]? = some k) : i < (Nd.list t).length := by
  obtain ⟨keys, xs, hm, _, _, _⟩ := put_ok h
  obtain ⟨hok, _, hl, _, hc⟩ := mapL_some hm
  rcases hc with ⟨h0, rfl, rfl⟩ | ⟨h6, rfl, rfl⟩
  · rw [okT_nokeys hok (by omega)] at hk
    simp at hk
  · rw [← hl]
    exact (List.getElem?_eq_some_iff.1 hk).1
theorem wt_list {d : Nat} (t : Tr (d + 2)) : (Nd.list t).length ≤ wtT (d + 2) t := by
  have hp : ∀ xs : List (Tr (d + 1)), xs.length ≤ (xs.map (wtT (d + 1))).sum := by
    intro xs
    induction xs with
    | nil => simp
    | cons y r ih =>
      have : 3 ≤ wtT (d + 1) y := by rw [wtT]; omega
      simp only [List.map_cons, List.sum_cons, List.length_cons]
      omega
  have := hp (Nd.list t)
  rw [wtT]
  omega
/-- Yes, as a tree. -/
def yesT (d : Nat) : Tr (d + 1) := (Nd.mk 2 0 ByteArray.empty [] [] : Nd (Tr d))
theorem yes_form (d : Nat) (deep : Int) (h : 1 ≤ deep) : formT (d + 1) (yesT d) deep = true ∧ manyT (d + 1) (yesT d) deep = 1 := by
  have hb : headBad 2 0 ByteArray.empty ([] : List ByteArray).length ([] : List (Tr d)).length deep = false := headBad_iff.2 ⟨by omega, fun _ => rfl, fun _ => empty_toList, fun _ => rfl, fun _ => rfl⟩
  refine ⟨?_, ?_⟩
  · show formT (d + 1) (Nd.mk 2 0 ByteArray.empty [] [] : Nd (Tr d)) deep = true
    rw [formT_good hb]
    rfl
  · show 1 + (if 0 < deep then _ else 0) = 1
    rw [if_pos (by omega)]
    rfl
theorem okT_yes (d : Nat) : okT (d + 1) (yesT d) = true := okT_iff.2 ⟨(yes_form d 6 (by omega)).1, by rw [(yes_form d 6 (by omega)).2]; omega⟩
theorem sum_set_le {α : Type} (f : α → Nat) (y : α) : ∀ (xs : List α) (k : Nat), (∀ x ∈ xs, f y ≤ f x) → ((xs.set k y).map f).sum ≤ (xs.map f).sum
  | [], _, _ => by simp
  | x :: r, 0, h => by
    have := h x (by simp)
    simp only [List.set_cons_zero, List.map_cons, List.sum_cons]
    omega
  | x :: r, k + 1, h => by
    have := sum_set_le f y r k (fun z hz => h z (by simp [hz]))
    simp only [List.set_cons_succ, List.map_cons, List.sum_cons]
    omega
theorem many_one {d : Nat} (t : Tr (d + 1)) (deep : Int) : 1 ≤ manyT (d + 1) t deep := by rw [manyT]; omega
theorem okT_rowlen {d : Nat} {xs : List (Tr (d + 1))} (h : okT (d + 2) (rowT (d + 1) xs) = true) : xs.length < 60 := by
  have hs := (okT_rowT_iff.1 h).2
  have hl : ∀ ys : List (Tr (d + 1)), ys.length ≤ (ys.map (fun x => manyT (d + 1) x 5)).sum := by
    intro ys
    induction ys with
    | nil => simp
    | cons y r ih =>
      have := many_one y 5
      simp only [List.map_cons, List.sum_cons, List.length_cons]
      omega
  have := hl xs
  omega
/-- Yes at a place of a row that is ok; what was there comes back. -/
theorem set_yes {d : Nat} {t : Tr (d + 2)} {i : Int} (h : okT (d + 2) t = true) (h5 : Nd.kind t = 5) (h1 : -((Nd.list t).length : Int) ≤ i) (h2 : i < (Nd.list t).length) :
    partSetT d t i (yesT d) = (rowT (d + 1) ((Nd.list t).set (spotN i (Nd.list t).length) (yesT d)), true) ∧ okT (d + 2) (rowT (d + 1) ((Nd.list t).set (spotN i (Nd.list t).length) (yesT d))) = true := by
  have hself := row_self h h5
  have ho := h
  rw [hself] at ho
  have hlen := okT_rowlen ho
  have hk : spotN i (Nd.list t).length < (Nd.list t).length := by unfold spotN; split <;> omega
  obtain ⟨f1, f2⟩ := okT_rowT_iff.1 ho
  have hr : rowL (d + 1) t = some (Nd.list t) := by rw [rowL_ok h, if_neg (by omega), if_pos h5]
  have ho2 : okT (d + 2) (rowT (d + 1) ((Nd.list t).set (spotN i (Nd.list t).length) (yesT d))) = true := by
    refine okT_rowT_iff.2 ⟨fun x hx => ?_, ?_⟩
    · rcases List.mem_or_eq_of_mem_set hx with hx | rfl
      · exact f1 x hx
      · exact (yes_form d 5 (by omega)).1
    · have := sum_set_le (fun x => manyT (d + 1) x 5) (yesT d) (Nd.list t) (spotN i (Nd.list t).length) (fun x _ => by show manyT (d + 1) (yesT d) 5 ≤ manyT (d + 1) x 5; rw [(yes_form d 5 (by omega)).2]; exact many_one x 5)
      omega
  have hset : setL (Nd.list t) (zeroT d) (spotN i (Nd.list t).length) (yesT d) = (Nd.list t).set (spotN i (Nd.list t).length) (yesT d) := setL_in hk
  refine ⟨?_, ho2⟩
  rw [← hset] at ho2 ⊢
  exact set_row hr (okT_yes d) h1 (by omega) ho2
theorem set_back {d : Nat} {t : Tr (d + 2)} {i : Int} (h : okT (d + 2) t = true) (h5 : Nd.kind t = 5) (h1 : -((Nd.list t).length : Int) ≤ i) (h2 : i < (Nd.list t).length) :
    partSetT d (partSetT d t i (yesT d)).1 i (partAtT d t i).1 = (t, true) := by
  obtain ⟨hy, ho⟩ := set_yes h h5 h1 h2
  have hself := row_self h h5
  have hlen : (Nd.list t).length < 60 := by rw [hself] at h; exact okT_rowlen h
  rw [hy]
  have hk : spotN i (Nd.list t).length < (Nd.list t).length := by unfold spotN; split <;> omega
  obtain ⟨x, hx⟩ : ∃ x, (Nd.list t)[spotN i (Nd.list t).length]? = some x := ⟨_, List.getElem?_eq_getElem hk⟩
  have hat : partAtT d t i = (x, true) := by
    unfold partAtT
    rw [if_pos h, if_neg (by omega), if_pos h5]
    have hp : placeI i (Nd.list t).length = (spotN i (Nd.list t).length : Int) := place_spot h1 (by omega)
    unfold placeL
    rw [hp, if_neg (by omega), Int.toNat_natCast, hx]
    rfl
  rw [hat]
  have hxo := okT_part h (List.mem_of_getElem? hx)
  have hl2 : ((Nd.list t).set (spotN i (Nd.list t).length) (yesT d)).length = (Nd.list t).length := List.length_set
  have hset : setL ((Nd.list t).set (spotN i (Nd.list t).length) (yesT d)) (zeroT d) (spotN i ((Nd.list t).set (spotN i (Nd.list t).length) (yesT d)).length) x = Nd.list t := by
    rw [hl2, setL_in (by rw [hl2]; exact hk), List.set_set]
    obtain ⟨_, e⟩ := List.getElem?_eq_some_iff.1 hx
    rw [← e, List.set_getElem_self]
  have hfin := set_row (d := d) (t := rowT (d + 1) ((Nd.list t).set (spotN i (Nd.list t).length) (yesT d))) (i := i) (x := x) (rowL_rowT ho) hxo (by rw [hl2]; exact h1) (by omega) (by rw [hset]; rw [← hself]; exact h)
  rw [hset, ← hself] at hfin
  exact hfin
theorem at_other {d : Nat} {t : Tr (d + 2)} {i j : Int} (h : placeI i (Nd.list t).length = placeI j (Nd.list t).length) : partAtT d t i = partAtT d t j := by
  unfold partAtT placeL
  rw [h]
theorem set_other {d : Nat} {t : Tr (d + 2)} {i j : Int} {x : Tr (d + 1)} (hl : (Nd.list t).length < 60) (h5 : Nd.kind t = 5) (h1 : -((Nd.list t).length : Int) ≤ i) (h2 : i < (Nd.list t).length) (k1 : -((Nd.list t).length : Int) ≤ j) (k2 : j < (Nd.list t).length) (hs : spotN i (Nd.list t).length = spotN j (Nd.list t).length) : partSetT d t i x = partSetT d t j x := by
  unfold partSetT rowL
  rw [if_neg (show ¬ Nd.kind t = 0 by omega), if_pos h5]
  by_cases ho : okT (d + 2) t = true
  · rw [if_pos ho]
    unfold spotN at hs
    simp only [hs]
    by_cases hx : okT (d + 1) x = true
    · simp only [if_pos (And.intro hx (And.intro h1 (show i < 60 by omega))), if_pos (And.intro hx (And.intro k1 (show j < 60 by omega)))]
    · simp only [if_neg (show ¬ (okT (d + 1) x = true ∧ -((Nd.list t).length : Int) ≤ i ∧ i < 60) from fun e => hx e.1), if_neg (show ¬ (okT (d + 1) x = true ∧ -((Nd.list t).length : Int) ≤ j ∧ j < 60) from fun e => hx e.1)]
  · rw [if_neg ho]

/-- The first so many trees of a row, nothing of none. -/
def eachRow (d : Nat) (xs : List (Tr (d + 1))) (k : Nat) : Tr (d + 2) := if k = 0 then zeroT (d + 1) else rowT (d + 1) (xs.take k)
def eachMap (d : Nat) (ps : List (ByteArray × Tr (d + 1))) (k : Nat) : Tr (d + 2) := if k = 0 then zeroT (d + 1) else mapT (d + 1) (ps.take k)
theorem sum_take_le' {α : Type} (f : α → Nat) : ∀ (xs : List α) (k : Nat), ((xs.take k).map f).sum ≤ (xs.map f).sum
  | [], k => by simp
  | x :: r, 0 => by simp
  | x :: r, k + 1 => by
    have := sum_take_le' f r k
    simp only [List.take_succ_cons, List.map_cons, List.sum_cons]
    omega
theorem okT_take {d : Nat} {xs : List (Tr d)} (h : okT (d + 1) (rowT d xs) = true) (k : Nat) : okT (d + 1) (rowT d (xs.take k)) = true := by
  obtain ⟨f1, f2⟩ := okT_rowT_iff.1 h
  have := sum_take_le' (fun x => manyT d x 5) xs k
  exact okT_rowT_iff.2 ⟨fun x hx => f1 x (List.mem_of_mem_take hx), by omega⟩
theorem keysGo_take : ∀ (ks : List ByteArray) (p : Option ByteArray) (k : Nat), keysGo p ks = true → keysGo p (ks.take k) = true
  | [], p, k, h => by simpa using h
  | a :: r, p, 0, h => by cases p <;> rfl
  | a :: r, none, k + 1, h => by
    simp only [keysGo, Bool.and_eq_true, List.take_succ_cons] at h ⊢
    exact ⟨h.1, keysGo_take r _ k h.2⟩
  | a :: r, some q, k + 1, h => by
    simp only [keysGo, Bool.and_eq_true, List.take_succ_cons] at h ⊢
    exact ⟨h.1, h.2.1, keysGo_take r _ k h.2.2⟩
theorem okT_takeM {d : Nat} {ps : List (ByteArray × Tr d)} (h : okT (d + 1) (mapT d ps) = true) (k : Nat) : okT (d + 1) (mapT d (ps.take k)) = true := by
  obtain ⟨f0, f1, f2⟩ := okT_mapT_iff.1 h
  refine okT_mapT_iff.2 ⟨?_, fun x hx => ?_, ?_⟩
  · rw [List.map_take]
    exact keysGo_take _ none k f0
  · rw [List.map_take] at hx
    exact f1 x (List.mem_of_mem_take hx)
  · rw [List.map_take]
    have := sum_take_le' (fun x => manyT d x 5) (ps.map Prod.snd) k
    omega
theorem each_row_step {d : Nat} {xs : List (Tr (d + 1))} {k : Nat} {x : Tr (d + 1)} (h : okT (d + 2) (rowT (d + 1) xs) = true) (hx : xs[k]? = some x) : partSetT d (eachRow d xs k) (k : Int) x = (eachRow d xs (k + 1), true) := by
  have hlt := (List.getElem?_eq_some_iff.1 hx).1
  have hlen := okT_rowlen h
  have hr : rowL (d + 1) (eachRow d xs k) = some (xs.take k) := by
    unfold eachRow
    by_cases h0 : k = 0
    · subst h0
      rw [if_pos rfl, rowL_ok (okT_zero (d + 1)), if_pos (show Nd.kind (zeroT (d + 1)) = 0 from rfl)]
      simp
    · rw [if_neg h0]
      exact rowL_rowT (okT_take h k)
  have hl : (xs.take k).length = k := by rw [List.length_take]; omega
  have hs : spotN (k : Int) (xs.take k).length = k := by unfold spotN; rw [if_neg (by omega)]; omega
  have hset : setL (xs.take k) (zeroT d) (spotN (k : Int) (xs.take k).length) x = xs.take (k + 1) := by
    rw [hs, setL_end hl.symm]
    obtain ⟨hk, e⟩ := List.getElem?_eq_some_iff.1 hx
    rw [List.take_succ_eq_append_getElem hk, e]
  have hxo : okT (d + 1) x = true := okT_part (t := rowT (d + 1) xs) h (List.mem_of_getElem? hx)
  have := set_row (t := eachRow d xs k) (i := (k : Int)) hr hxo (by omega) (by omega) (by rw [hset]; exact okT_take h (k + 1))
  rw [this, hset]
  unfold eachRow
  rw [if_neg (by omega)]
theorem putL_end {α : Type} {s : ByteArray} {x : α} : ∀ {ks : List ByteArray} {xs : List α}, ks.length = xs.length → (∀ k ∈ ks, ltB k s = true) → putL ks xs s x = ks.zip xs ++ [(s, x)]
  | [], [], _, _ => by rw [putL_nil]; rfl
  | [], _ :: _, h, _ => by simp at h
  | _ :: _, [], h, _ => by simp at h
  | k :: ks, y :: ys, h, hk => by
    rw [putL_cons, if_pos (hk k (by simp)), putL_end (by simpa using h) (fun q hq => hk q (by simp [hq])), zip_cons]
    rfl
theorem keysGo_lt : ∀ (ks : List ByteArray) (p : Option ByteArray) (k : Nat) (s : ByteArray), keysGo p ks = true → ks[k]? = some s → ∀ q ∈ ks.take k, ltB q s = true
  | [], _, _, _, _, h, _, _ => by simp at h
  | a :: r, _, 0, _, _, _, q, hq => by simp at hq
  | a :: r, p, k + 1, s, h, hs, q, hq => by
    have hs' : r[k]? = some s := by simpa using hs
    simp only [List.take_succ_cons, List.mem_cons] at hq
    rcases hq with rfl | hq
    · exact keysGo_all r q (keysGo_tail h) s (List.mem_of_getElem? hs')
    · exact keysGo_lt r _ k s (keysGo_tail h) hs' q hq
theorem each_map_step {d : Nat} {ps : List (ByteArray × Tr (d + 1))} {k : Nat} {s : ByteArray} {x : Tr (d + 1)} (h : okT (d + 2) (mapT (d + 1) ps) = true) (hx : ps[k]? = some (s, x)) : partPutT d (eachMap d ps k) s x = (eachMap d ps (k + 1), true) := by
  obtain ⟨f0, f1, f2⟩ := okT_mapT_iff.1 h
  have hlt := (List.getElem?_eq_some_iff.1 hx).1
  have hks : (ps.map Prod.fst)[k]? = some s := by rw [List.getElem?_map, hx]; rfl
  have hso := keysGo_ok _ none f0 s (List.mem_of_getElem? hks)
  have hm : mapL (d + 1) (eachMap d ps k) s = some ((ps.take k).map Prod.fst, (ps.take k).map Prod.snd) := by
    unfold eachMap
    by_cases h0 : k = 0
    · subst h0
      rw [if_pos rfl, mapL_ok (okT_zero (d + 1)) hso, if_pos (show Nd.kind (zeroT (d + 1)) = 0 from rfl)]
      simp
    · rw [if_neg h0]
      exact mapL_mapT (okT_takeM h k) hso
  have hput : putL ((ps.take k).map Prod.fst) ((ps.take k).map Prod.snd) s x = ps.take (k + 1) := by
    rw [putL_end (putL_len2 _) (fun q hq => keysGo_lt _ none k s f0 hks q (by rw [← List.map_take]; exact hq)), zip_unzip]
    obtain ⟨hk, e⟩ := List.getElem?_eq_some_iff.1 hx
    rw [List.take_succ_eq_append_getElem hk, e]
  have hxo : okT (d + 1) x = true := okT_part (t := mapT (d + 1) ps) h (List.mem_of_getElem? (l := ps.map Prod.snd) (i := k) (by rw [List.getElem?_map, hx]; rfl))
  have ho := okT_takeM h (k + 1)
  unfold partPutT
  rw [hm]
  show (if okT (d + 1) x = true then (toldT (d + 1) (mapT (d + 1) (putL ((ps.take k).map Prod.fst) ((ps.take k).map Prod.snd) s x)), okT (d + 2) (mapT (d + 1) (putL ((ps.take k).map Prod.fst) ((ps.take k).map Prod.snd) s x))) else (zeroT (d + 1), false)) = _
  rw [if_pos hxo, hput]
  unfold toldT eachMap
  rw [if_pos ho, if_neg (by omega), ho]
/-- What is put into nothing is there alone. -/
theorem none_put {d : Nat} {s : ByteArray} {x : Tr (d + 1)} (h : (partPutT d (zeroT (d + 1)) s x).2 = true) : Nd.list (partPutT d (zeroT (d + 1)) s x).1 = [x] := by
  obtain ⟨keys, xs, hm, hx, he, ho⟩ := put_ok h
  obtain ⟨_, _, _, _, hc⟩ := mapL_some hm
  rcases hc with ⟨_, rfl, rfl⟩ | ⟨h6, _, _⟩
  · rw [he, putL_nil]
    rfl
  · cases h6
theorem none_set {d : Nat} {x : Tr (d + 1)} (h : (partSetT d (zeroT (d + 1)) 0 x).2 = true) : Nd.list (partSetT d (zeroT (d + 1)) 0 x).1 = [x] := by
  obtain ⟨xs, hr, hx, h1, h2, he, ho⟩ := set_ok h
  obtain ⟨_, hc⟩ := rowL_cases hr
  rcases hc with ⟨_, rfl⟩ | ⟨h5, _⟩
  · rw [he]
    rfl
  · cases h5
theorem none_get (d : Nat) {s : ByteArray} (hs : strOk s = true) : partGetT d (zeroT (d + 1)) s = (zeroT d, true) := by
  unfold partGetT
  rw [if_pos ⟨okT_zero (d + 1), hs⟩]
  rfl
end Go.Proofs.YtoangpfmjohhmaaGreatDoor

/- The keys, or places, of a tree as a row. -/
namespace Go.Proofs.YtoangpfmjohhmaaGreatDoor
open Go.RowKit Go.Deep

def strT (d : Nat) (s : ByteArray) : Tr (d + 1) := (Nd.mk 4 0 s [] [] : Nd (Tr d))
def rowK (d : Nat) (xs : List (Tr (d + 1))) : Tr (d + 2) := (Nd.mk 5 0 ByteArray.empty [] xs : Nd (Tr (d + 1)))
/-- The places of so many, as numbers. -/
def placesT (d n : Nat) : List (Tr (d + 1)) := (List.range n).map (fun (i : Nat) => numT d (i : Int))
def keyTs (d : Nat) (t : Tr (d + 2)) : List (Tr (d + 1)) := if Nd.kind t = 5 then placesT d (Nd.list t).length else (Nd.keys t).map (strT d)
def partKeysT (d : Nat) (t : Tr (d + 2)) : Tr (d + 2) × Bool := if okT (d + 2) t = true ∧ 5 ≤ Nd.kind t then (rowK d (keyTs d t), true) else (zeroT (d + 1), false)

theorem places_at (d n k : Nat) (h : k < n) : (placesT d n)[k]? = some (numT d (k : Int)) := by
  simp [placesT, h]
theorem places_len (d n : Nat) : (placesT d n).length = n := by simp [placesT]

theorem okT_maps {d : Nat} {t : Tr (d + 1)} (h : okT (d + 1) t = true) (h6 : Nd.kind t = 6) : (Nd.keys t).length = (Nd.list t).length ∧ keysB (Nd.keys t) = true := by
  obtain ⟨hf, hm⟩ := okT_form h
  obtain ⟨kind, num, str, keys, list⟩ := t
  have h6 : kind = 6 := h6
  cases hb : headBad kind num str keys.length list.length 6 with
  | true => rw [formT_bad hb] at hf; cases hf
  | false =>
    rw [formT_good hb, if_neg (by omega), if_neg (by omega), if_neg (by omega), if_pos h6] at hf
    simp only [Bool.and_eq_true] at hf
    exact ⟨by simpa using hf.1.1, hf.1.2⟩
theorem okT_len {d : Nat} {t : Tr (d + 1)} (h : okT (d + 1) t = true) : (Nd.list t).length < 60 := by
  obtain ⟨_, hm⟩ := okT_form h
  obtain ⟨kind, num, str, keys, list⟩ := t
  have hmm : manyT (d + 1) (Nd.mk kind num str keys list : Nd (Tr d)) 6 = 1 + (list.map (fun x => manyT d x (6 - 1))).sum := rfl
  rw [hmm] at hm
  have := len_le_many (d := d) (deep := 6 - 1) list
  show list.length < 60
  omega
theorem keyTs_len {d : Nat} {t : Tr (d + 2)} (h : okT (d + 2) t = true) (h5 : 5 ≤ Nd.kind t) : (keyTs d t).length = (Nd.list t).length := by
  unfold keyTs
  split
  · exact places_len _ _
  · rename_i h6
    rw [List.length_map]
    have hk := (okT_kinds h).1
    exact (okT_maps h (by omega)).1

theorem sum_ones {α : Type} {f : α → Nat} : ∀ (xs : List α), (∀ x ∈ xs, f x = 1) → (xs.map f).sum = xs.length
  | [], _ => rfl
  | x :: r, h => by
    simp only [List.map_cons, List.sum_cons, List.length_cons]
    rw [h x (by simp), sum_ones r (fun y hy => h y (by simp [hy]))]
    omega
theorem form_num (d : Nat) (n : Int) (h : -1000000 ≤ n ∧ n ≤ 1000000) : formT (d + 1) (numT d n) (6 - 1) = true := by
  have hb : headBad 3 n ByteArray.empty ([] : List ByteArray).length ([] : List (Tr d)).length (6 - 1) = false := headBad_iff.2 ⟨by omega, fun h => absurd rfl h, fun _ => empty_toList, fun _ => rfl, fun _ => rfl⟩
  show formT (d + 1) (Nd.mk 3 n ByteArray.empty [] [] : Nd (Tr d)) (6 - 1) = true
  rw [formT_good hb]
  simp [h]
theorem form_str (d : Nat) (s : ByteArray) (h : strOk s = true) : formT (d + 1) (strT d s) (6 - 1) = true := by
  have hb : headBad 4 0 s ([] : List ByteArray).length ([] : List (Tr d)).length (6 - 1) = false := headBad_iff.2 ⟨by omega, fun _ => rfl, fun h => absurd rfl h, fun _ => rfl, fun _ => rfl⟩
  show formT (d + 1) (Nd.mk 4 0 s [] [] : Nd (Tr d)) (6 - 1) = true
  rw [formT_good hb]
  simp [h]
theorem okT_rowK {d : Nat} {xs : List (Tr (d + 1))} (hl : xs.length < 60) (hx : ∀ x ∈ xs, formT (d + 1) x (6 - 1) = true ∧ manyT (d + 1) x (6 - 1) = 1) : okT (d + 2) (rowK d xs) = true := by
  have hb : headBad 5 0 ByteArray.empty ([] : List ByteArray).length xs.length 6 = false := headBad_iff.2 ⟨by omega, fun _ => rfl, fun _ => empty_toList, fun _ => rfl, fun h => absurd h (by omega)⟩
  have h1 : formT (d + 2) (rowK d xs) 6 = true := by
    show formT (d + 2) (Nd.mk 5 0 ByteArray.empty [] xs : Nd (Tr (d + 1))) 6 = true
    rw [formT_good hb, if_neg (by omega), if_neg (by omega), if_neg (by omega), if_neg (by omega), if_pos rfl]
    exact List.all_eq_true.2 (fun x h => (hx x h).1)
  have h2 : manyT (d + 2) (rowK d xs) 6 = 1 + (xs.map (fun x => manyT (d + 1) x (6 - 1))).sum := rfl
  rw [sum_ones xs (fun x h => (hx x h).2)] at h2
  have h3 : manyT (d + 2) (rowK d xs) 6 ≤ 60 := by omega
  unfold okT
  rw [h1]
  simpa using h3
theorem okT_partKeys (d : Nat) (t : Tr (d + 2)) : okT (d + 2) (partKeysT d t).1 = true := by
  unfold partKeysT
  split
  · rename_i h
    have hl := okT_len h.1
    refine okT_rowK (by rw [keyTs_len h.1 h.2]; exact hl) (fun x hx => ?_)
    unfold keyTs at hx
    split at hx
    · simp only [placesT, List.mem_map, List.mem_range] at hx
      obtain ⟨i, hi, rfl⟩ := hx
      exact ⟨form_num d i (by omega), rfl⟩
    · rename_i h5
      obtain ⟨s, hs, rfl⟩ := List.mem_map.1 hx
      have hk := (okT_kinds h.1).1
      exact ⟨form_str d s (keysB_strOk _ none (okT_maps h.1 (by have := h.2; omega)).2 s hs), rfl⟩
  · exact okT_zero (d + 1)
end Go.Proofs.YtoangpfmjohhmaaGreatDoor

/- Two trees together: plain facts. -/
namespace Go.Proofs.YtoangpfmjohhmaaGreatDoor
open Go.RowKit Go.Deep

/-- What lies at a key of pairs. -/
def getP {α : Type} (ps : List (ByteArray × α)) (s : ByteArray) : Option α := getL (ps.map Prod.fst) (ps.map Prod.snd) s
/-- One pair more, at its place. -/
def putP {α : Type} (ps : List (ByteArray × α)) (q : ByteArray × α) : List (ByteArray × α) := putL (ps.map Prod.fst) (ps.map Prod.snd) q.1 q.2
/-- All pairs of the second put into the first, one behind the other. -/
def putAll {α : Type} (ps qs : List (ByteArray × α)) : List (ByteArray × α) := qs.foldl putP ps

theorem getP_same {α : Type} (ps : List (ByteArray × α)) (q : ByteArray × α) : getP (putP ps q) q.1 = some q.2 := getL_put_same _ _ _ _ (putL_len2 ps)
theorem getP_other {α : Type} (ps : List (ByteArray × α)) (q : ByteArray × α) {s : ByteArray} (h : s ≠ q.1) : getP (putP ps q) s = getP ps s := getL_put_other _ h _ _ (putL_len2 ps)
theorem putP_order {α : Type} {ps : List (ByteArray × α)} {q : ByteArray × α} (hq : strOk q.1 = true) (h : keysGo none (ps.map Prod.fst) = true) : keysGo none ((putP ps q).map Prod.fst) = true := putL_order hq (putL_len2 ps) h
theorem putAll_order {α : Type} : ∀ (qs ps : List (ByteArray × α)), (∀ q ∈ qs, strOk q.1 = true) → keysGo none (ps.map Prod.fst) = true → keysGo none ((putAll ps qs).map Prod.fst) = true
  | [], _, _, h => h
  | q :: r, ps, hq, h => putAll_order r (putP ps q) (fun x hx => hq x (by simp [hx])) (putP_order (hq q (by simp)) h)
theorem putAll_miss {α : Type} {s : ByteArray} : ∀ (qs ps : List (ByteArray × α)), (∀ q ∈ qs, s ≠ q.1) → getP (putAll ps qs) s = getP ps s
  | [], _, _ => rfl
  | q :: r, ps, h => by
    show getP (putAll (putP ps q) r) s = _
    rw [putAll_miss r (putP ps q) (fun x hx => h x (by simp [hx])), getP_other ps q (h q (by simp))]
theorem putAll_hit {α : Type} {q : ByteArray × α} : ∀ (qs ps : List (ByteArray × α)), qs.Pairwise (fun a b => a.1 ≠ b.1) → q ∈ qs → getP (putAll ps qs) q.1 = some q.2
  | [], _, _, h => by cases h
  | p :: r, ps, hp, h => by
    obtain ⟨h1, h2⟩ := List.pairwise_cons.1 hp
    show getP (putAll (putP ps p) r) q.1 = _
    rcases List.mem_cons.1 h with rfl | h
    · rw [putAll_miss r _ (fun x hx => h1 x hx), getP_same]
    · exact putAll_hit r _ h2 h
/-- The order in which they come does not matter. -/
theorem putAll_perm {α : Type} {ps qs qs' : List (ByteArray × α)} (hp : qs.Perm qs') (hd : qs.Pairwise (fun a b => a.1 ≠ b.1)) (hk : ∀ q ∈ qs, strOk q.1 = true) (ho : keysGo none (ps.map Prod.fst) = true) : putAll ps qs = putAll ps qs' := by
  have hd' : qs'.Pairwise (fun a b => a.1 ≠ b.1) := hp.pairwise hd (fun h => Ne.symm h)
  refine assoc_ext _ _ none none (putAll_order qs ps hk ho) (putAll_order qs' ps (fun q hq => hk q (hp.mem_iff.2 hq)) ho) (fun s => ?_)
  show getP (putAll ps qs) s = getP (putAll ps qs') s
  by_cases hs : ∃ q ∈ qs, s = q.1
  · obtain ⟨q, hq, rfl⟩ := hs
    rw [putAll_hit qs ps hd hq, putAll_hit qs' ps hd' (hp.mem_iff.1 hq)]
  · rw [putAll_miss qs ps (fun q hq e => hs ⟨q, hq, e⟩), putAll_miss qs' ps (fun q hq e => hs ⟨q, hp.mem_iff.2 hq, e⟩)]
/-- Keys in order are each once. -/
theorem keys_pairwise {α : Type} {ps : List (ByteArray × α)} (h : keysGo none (ps.map Prod.fst) = true) : ps.Pairwise (fun a b => a.1 ≠ b.1) := by
  have hp := keysGo_pair _ none h
  rw [List.pairwise_map] at hp
  exact hp.imp (fun h => ltB_ne h)

/-- The pairs of a map. -/
def pairsT {d : Nat} (t : Tr (d + 1)) : List (ByteArray × Tr d) := (Nd.keys t).zip (Nd.list t)
/-- What two trees that are ok, and of one kind, are together, before it is asked whether that is ok. -/
def sumT (d : Nat) (a b : Tr (d + 1)) : Option (Tr (d + 1)) :=
  if Nd.kind a = 0 then some b else if Nd.kind b = 0 then some a else if Nd.kind a ≠ Nd.kind b then none
  else if Nd.kind a = 3 then some (Nd.mk 3 (Nd.num a + Nd.num b) ByteArray.empty [] [] : Nd (Tr d)) else if Nd.kind a = 4 then some (Nd.mk 4 0 (Nd.str a ++ Nd.str b) [] [] : Nd (Tr d))
  else if Nd.kind a = 5 then some (rowT d (Nd.list a ++ Nd.list b)) else if Nd.kind a = 6 then some (mapT d (putAll (pairsT a) (pairsT b))) else none
/-- What PartAdd tells. -/
def partAddT (d : Nat) (a b : Tr (d + 1)) : Tr (d + 1) × Bool :=
  if okT (d + 1) a = true ∧ okT (d + 1) b = true then (match sumT d a b with | some t => (toldT d t, okT (d + 1) t) | none => (zeroT d, false)) else (zeroT d, false)
theorem okT_partAdd (d : Nat) (a b : Tr (d + 1)) : okT (d + 1) (partAddT d a b).1 = true := by
  unfold partAddT
  split
  · split
    · exact okT_told _ _
    · exact okT_zero _
  · exact okT_zero _
end Go.Proofs.YtoangpfmjohhmaaGreatDoor

/- Two trees together: what the law of PartAdd asks. -/
namespace Go.Proofs.YtoangpfmjohhmaaGreatDoor
open Go.RowKit Go.Deep

theorem getP_mem {α : Type} {ps : List (ByteArray × α)} (h : keysGo none (ps.map Prod.fst) = true) {q : ByteArray × α} (hq : q ∈ ps) : getP ps q.1 = some q.2 := by
  obtain ⟨i, hi⟩ := List.getElem?_of_mem hq
  exact getL_key (i := i) (k := q.1) (y := q.2) h (by rw [List.getElem?_map, hi]; rfl) (by rw [List.getElem?_map, hi]; rfl)
theorem getP_none {α : Type} {ps : List (ByteArray × α)} {s : ByteArray} (h : ∀ q ∈ ps, s ≠ q.1) : getP ps s = none :=
  getL_miss (fun hm => by obtain ⟨q, hq, e⟩ := List.mem_map.1 hm; exact h q hq e.symm)
theorem getP_putAll {α : Type} {ps qs : List (ByteArray × α)} (hq : keysGo none (qs.map Prod.fst) = true) (s : ByteArray) : getP (putAll ps qs) s = (match getP qs s with | some x => some x | none => getP ps s) := by
  by_cases hs : ∃ q ∈ qs, s = q.1
  · obtain ⟨q, hm, rfl⟩ := hs
    rw [putAll_hit qs ps (keys_pairwise hq) hm, getP_mem hq hm]
  · have hn : ∀ q ∈ qs, s ≠ q.1 := fun q hm e => hs ⟨q, hm, e⟩
    rw [putAll_miss qs ps hn, getP_none hn]
theorem keys_ok {α : Type} {ps : List (ByteArray × α)} (h : keysGo none (ps.map Prod.fst) = true) : ∀ q ∈ ps, strOk q.1 = true := fun q hq => keysGo_ok _ none h q.1 (List.mem_map.2 ⟨q, hq, rfl⟩)
theorem putAll_nil {α : Type} {qs : List (ByteArray × α)} (h : keysGo none (qs.map Prod.fst) = true) : putAll [] qs = qs := by
  refine assoc_ext _ _ none none (putAll_order qs [] (keys_ok h) rfl) h (fun s => ?_)
  show getP (putAll [] qs) s = getP qs s
  rw [getP_putAll h]
  cases e : getP qs s with
  | some x => rfl
  | none => exact getP_none (fun q hq => by cases hq)
theorem putAll_assoc {α : Type} {ps qs rs : List (ByteArray × α)} (hp : keysGo none (ps.map Prod.fst) = true) (hq : keysGo none (qs.map Prod.fst) = true) (hr : keysGo none (rs.map Prod.fst) = true) : putAll (putAll ps qs) rs = putAll ps (putAll qs rs) := by
  have h1 := putAll_order qs ps (keys_ok hq) hp
  have h2 := putAll_order rs qs (keys_ok hr) hq
  refine assoc_ext _ _ none none (putAll_order rs _ (keys_ok hr) h1) (putAll_order _ ps (keys_ok h2) hp) (fun s => ?_)
  show getP (putAll (putAll ps qs) rs) s = getP (putAll ps (putAll qs rs)) s
  rw [getP_putAll hr, getP_putAll hq, getP_putAll h2, getP_putAll hr]
  cases getP rs s <;> rfl

theorem pairs_keys {d : Nat} {t : Tr (d + 1)} (h : okT (d + 1) t = true) (h6 : Nd.kind t = 6) : keysGo none ((pairsT t).map Prod.fst) = true := by
  obtain ⟨hl, hk⟩ := okT_maps h h6
  unfold pairsT
  rw [zip_fst _ _ hl]
  exact hk
theorem pairs_mapT {d : Nat} (ps : List (ByteArray × Tr d)) : pairsT (mapT d ps) = ps := zip_unzip ps

theorem add_ok {d : Nat} {a b : Tr (d + 1)} (h : (partAddT d a b).2 = true) : okT (d + 1) a = true ∧ okT (d + 1) b = true ∧ ∃ t, sumT d a b = some t ∧ okT (d + 1) t = true ∧ partAddT d a b = (t, true) := by
  unfold partAddT at h ⊢
  split at h
  · rename_i hab
    refine ⟨hab.1, hab.2, ?_⟩
    split at h
    · rename_i t ht
      have h : okT (d + 1) t = true := h
      refine ⟨t, ht, h, ?_⟩
      rw [if_pos hab]
      show (toldT d t, okT (d + 1) t) = _
      unfold toldT
      rw [if_pos h, h]
    · cases h
  · cases h
theorem add_no {d : Nat} {a b : Tr (d + 1)} (h : (partAddT d a b).2 = false) : (partAddT d a b).1 = zeroT d := by
  unfold partAddT at h ⊢
  split at h
  · rename_i hab
    rw [if_pos hab]
    split at h
    · rename_i t ht
      have h : okT (d + 1) t = false := h
      show toldT d t = _
      unfold toldT
      rw [if_neg (by rw [h]; simp)]
    · rfl
  · rename_i hab
    rw [if_neg hab]
theorem add_of {d : Nat} {a b t : Tr (d + 1)} (ha : okT (d + 1) a = true) (hb : okT (d + 1) b = true) (hs : sumT d a b = some t) (ht : okT (d + 1) t = true) : partAddT d a b = (t, true) := by
  unfold partAddT
  rw [if_pos ⟨ha, hb⟩, hs]
  show (toldT d t, okT (d + 1) t) = _
  unfold toldT
  rw [if_pos ht, ht]
theorem sum_left {d : Nat} {a b : Tr (d + 1)} (h : Nd.kind a = 0) : sumT d a b = some b := if_pos h
theorem sum_right {d : Nat} {a b : Tr (d + 1)} (h : Nd.kind a ≠ 0) (hb : Nd.kind b = 0) : sumT d a b = some a := by unfold sumT; rw [if_neg h, if_pos hb]
theorem add_none_left {d : Nat} {a : Tr (d + 1)} (ha : okT (d + 1) a = true) : partAddT d (zeroT d) a = (a, true) := add_of (okT_zero d) ha (sum_left rfl) ha
theorem zero_of {d : Nat} {t : Tr (d + 1)} (h : okT (d + 1) t = true) (h0 : Nd.kind t = 0) : t = zeroT d := by
  obtain ⟨hf, _⟩ := okT_form h
  obtain ⟨kind, num, str, keys, list⟩ := t
  have h0 : kind = 0 := h0
  subst h0
  cases hb : headBad 0 num str keys.length list.length 6 with
  | true => rw [formT_bad hb] at hf; cases hf
  | false =>
    obtain ⟨_, g1, g2, g3, g4⟩ := headBad_iff.1 hb
    obtain rfl := g1 (by omega)
    obtain rfl := bytes_nil (g2 (by omega))
    obtain rfl := List.eq_nil_of_length_eq_zero (g3 (by omega))
    obtain rfl := List.eq_nil_of_length_eq_zero (g4 (by omega))
    rfl
theorem add_none_right {d : Nat} {a : Tr (d + 1)} (ha : okT (d + 1) a = true) : partAddT d a (zeroT d) = (a, true) := by
  by_cases h0 : Nd.kind a = 0
  · rw [zero_of ha h0]
    exact add_of (okT_zero d) (okT_zero d) (sum_left rfl) (okT_zero d)
  · exact add_of ha (okT_zero d) (sum_right h0 rfl) ha
/-- Neither is nothing. -/
theorem sum_two {d : Nat} {a b x : Tr (d + 1)} (ha : Nd.kind a ≠ 0) (hb : Nd.kind b ≠ 0) (h : sumT d a b = some x) : Nd.kind a = Nd.kind b ∧ Nd.kind x = Nd.kind a ∧
    ((Nd.kind a = 3 ∧ x = (Nd.mk 3 (Nd.num a + Nd.num b) ByteArray.empty [] [] : Nd (Tr d))) ∨ (Nd.kind a = 4 ∧ x = (Nd.mk 4 0 (Nd.str a ++ Nd.str b) [] [] : Nd (Tr d))) ∨
     (Nd.kind a = 5 ∧ x = rowT d (Nd.list a ++ Nd.list b)) ∨ (Nd.kind a = 6 ∧ x = mapT d (putAll (pairsT a) (pairsT b)))) := by
  unfold sumT at h
  rw [if_neg ha, if_neg hb] at h
  split at h
  · cases h
  · rename_i hk
    have hk : Nd.kind a = Nd.kind b := Decidable.of_not_not hk
    refine ⟨hk, ?_⟩
    split at h
    · rename_i e; cases h; exact ⟨e.symm, Or.inl ⟨e, rfl⟩⟩
    · split at h
      · rename_i e; cases h; exact ⟨e.symm, Or.inr (Or.inl ⟨e, rfl⟩)⟩
      · split at h
        · rename_i e; cases h; exact ⟨e.symm, Or.inr (Or.inr (Or.inl ⟨e, rfl⟩))⟩
        · split at h
          · rename_i e; cases h; exact ⟨e.symm, Or.inr (Or.inr (Or.inr ⟨e, rfl⟩))⟩
          · cases h
theorem sum_assoc {d : Nat} {a b c x p q r : Tr (d + 1)} (ha : okT (d + 1) a = true) (hb : okT (d + 1) b = true) (hc : okT (d + 1) c = true) (h1 : sumT d a b = some x) (h2 : sumT d x c = some p) (h3 : sumT d b c = some q) (h4 : sumT d a q = some r) : p = r := by
  by_cases ka : Nd.kind a = 0
  · rw [sum_left ka] at h1 h4
    cases h1
    cases h4
    rw [h3] at h2
    cases h2
    rfl
  by_cases kb : Nd.kind b = 0
  · rw [sum_right ka kb] at h1
    rw [sum_left kb] at h3
    cases h1
    cases h3
    rw [h2] at h4
    cases h4
    rfl
  obtain ⟨e1, e2, hx⟩ := sum_two ka kb h1
  by_cases kc : Nd.kind c = 0
  · rw [sum_right (by omega) kc] at h2
    rw [sum_right kb kc] at h3
    cases h2
    cases h3
    rw [h1] at h4
    cases h4
    rfl
  obtain ⟨e3, e4, hp⟩ := sum_two (by omega) kc h2
  obtain ⟨e5, e6, hq⟩ := sum_two kb kc h3
  obtain ⟨e7, e8, hr⟩ := sum_two ka (by omega) h4
  rcases hx with ⟨k, rfl⟩ | ⟨k, rfl⟩ | ⟨k, rfl⟩ | ⟨k, rfl⟩
  · rcases hp with ⟨_, rfl⟩ | ⟨k', _⟩ | ⟨k', _⟩ | ⟨k', _⟩
    · rcases hq with ⟨_, rfl⟩ | ⟨k', _⟩ | ⟨k', _⟩ | ⟨k', _⟩
      · rcases hr with ⟨_, rfl⟩ | ⟨k', _⟩ | ⟨k', _⟩ | ⟨k', _⟩
        · show (Nd.mk 3 (Nd.num a + Nd.num b + Nd.num c) ByteArray.empty [] [] : Nd (Tr d)) = Nd.mk 3 (Nd.num a + (Nd.num b + Nd.num c)) ByteArray.empty [] []
          rw [Int.add_assoc]
        all_goals omega
      all_goals omega
    all_goals (exfalso; rw [e2, k] at k'; omega)
  · rcases hp with ⟨k', _⟩ | ⟨_, rfl⟩ | ⟨k', _⟩ | ⟨k', _⟩
    · exfalso; rw [e2, k] at k'; omega
    · rcases hq with ⟨k', _⟩ | ⟨_, rfl⟩ | ⟨k', _⟩ | ⟨k', _⟩
      · omega
      · rcases hr with ⟨k', _⟩ | ⟨_, rfl⟩ | ⟨k', _⟩ | ⟨k', _⟩
        · omega
        · show (Nd.mk 4 0 ((Nd.str a ++ Nd.str b) ++ Nd.str c) [] [] : Nd (Tr d)) = Nd.mk 4 0 (Nd.str a ++ (Nd.str b ++ Nd.str c)) [] []
          rw [ByteArray.append_assoc]
        all_goals omega
      all_goals omega
    all_goals (exfalso; rw [e2, k] at k'; omega)
  · rcases hp with ⟨k', _⟩ | ⟨k', _⟩ | ⟨_, rfl⟩ | ⟨k', _⟩
    · exfalso; rw [e2, k] at k'; omega
    · exfalso; rw [e2, k] at k'; omega
    · rcases hq with ⟨k', _⟩ | ⟨k', _⟩ | ⟨_, rfl⟩ | ⟨k', _⟩
      · omega
      · omega
      · rcases hr with ⟨k', _⟩ | ⟨k', _⟩ | ⟨_, rfl⟩ | ⟨k', _⟩
        · omega
        · omega
        · show rowT d ((Nd.list a ++ Nd.list b) ++ Nd.list c) = rowT d (Nd.list a ++ (Nd.list b ++ Nd.list c))
          rw [List.append_assoc]
        · omega
      · omega
    · exfalso; rw [e2, k] at k'; omega
  · rcases hp with ⟨k', _⟩ | ⟨k', _⟩ | ⟨k', _⟩ | ⟨_, rfl⟩
    · exfalso; rw [e2, k] at k'; omega
    · exfalso; rw [e2, k] at k'; omega
    · exfalso; rw [e2, k] at k'; omega
    · rcases hq with ⟨k', _⟩ | ⟨k', _⟩ | ⟨k', _⟩ | ⟨_, rfl⟩
      · omega
      · omega
      · omega
      · rcases hr with ⟨k', _⟩ | ⟨k', _⟩ | ⟨k', _⟩ | ⟨_, rfl⟩
        · omega
        · omega
        · omega
        · rw [pairs_mapT, pairs_mapT, putAll_assoc (pairs_keys ha k) (pairs_keys hb (by omega)) (pairs_keys hc (by omega))]
theorem add_assoc {d : Nat} {a b c : Tr (d + 1)} (h1 : (partAddT d a b).2 = true) (h2 : (partAddT d (partAddT d a b).1 c).2 = true) (h3 : (partAddT d b c).2 = true) (h4 : (partAddT d a (partAddT d b c).1).2 = true) :
    (partAddT d (partAddT d a b).1 c).1 = (partAddT d a (partAddT d b c).1).1 := by
  obtain ⟨ha, hb, x, s1, _, e1⟩ := add_ok h1
  obtain ⟨_, hc, q, s3, _, e3⟩ := add_ok h3
  rw [e1] at h2 ⊢
  rw [e3] at h4 ⊢
  obtain ⟨_, _, p, s2, _, e2⟩ := add_ok h2
  obtain ⟨_, _, r, s4, _, e4⟩ := add_ok h4
  rw [e2, e4]
  exact sum_assoc ha hb hc s1 s2 s3 s4
theorem add_num {d : Nat} {a b : Tr (d + 1)} (h : (partAddT d a b).2 = true) (ka : Nd.kind a = 3) (kb : Nd.kind b = 3) : Nd.num (partAddT d a b).1 = Nd.num a + Nd.num b := by
  obtain ⟨_, _, x, s1, _, e1⟩ := add_ok h
  rw [e1]
  obtain ⟨_, _, hx⟩ := sum_two (by omega) (by omega) s1
  rcases hx with ⟨_, rfl⟩ | ⟨k, _⟩ | ⟨k, _⟩ | ⟨k, _⟩
  · rfl
  all_goals omega
/-- The length of two texts, or of two rows, together. -/
theorem add_len {d : Nat} {a b : Tr (d + 1)} (h : (partAddT d a b).2 = true) (hk : Nd.kind a = Nd.kind b) (h45 : Nd.kind a = 4 ∨ Nd.kind a = 5) : Nd.kind (partAddT d a b).1 = Nd.kind a ∧ (Nd.str (partAddT d a b).1).size = (Nd.str a).size + (Nd.str b).size ∧ (Nd.list (partAddT d a b).1).length = (Nd.list a).length + (Nd.list b).length ∧ okT (d + 1) (partAddT d a b).1 = true := by
  obtain ⟨ha, hb, x, s1, hx1, e1⟩ := add_ok h
  rw [e1]
  obtain ⟨_, e2, hx⟩ := sum_two (by omega) (by omega) s1
  have hno : ∀ (t : Tr (d + 1)), okT (d + 1) t = true → Nd.kind t = 4 → Nd.list t = [] := fun t ht k => okT_nolist ht (by omega)
  have hst : ∀ (t : Tr (d + 1)), okT (d + 1) t = true → Nd.kind t = 5 → (Nd.str t).size = 0 := fun t ht k => by rw [row_self ht k]; rfl
  rcases hx with ⟨k, _⟩ | ⟨k, rfl⟩ | ⟨k, rfl⟩ | ⟨k, _⟩
  · omega
  · refine ⟨e2, ByteArray.size_append, ?_, hx1⟩
    show ([] : List (Tr d)).length = _
    rw [hno a ha k, hno b hb (by omega)]
    rfl
  · refine ⟨e2, ?_, List.length_append, hx1⟩
    show ByteArray.empty.size = _
    rw [hst a ha k, hst b hb (by omega)]
    rfl
  · omega
end Go.Proofs.YtoangpfmjohhmaaGreatDoor
