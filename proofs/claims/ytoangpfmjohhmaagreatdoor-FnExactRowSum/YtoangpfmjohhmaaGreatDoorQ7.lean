/- Texts of the proof, put together by program: WLenB, WMarkP, WWt, WPartP, WGTo, WGetP, WPutL, WPutF, WNoth, WGetK. -/
import Derived.Test.YtoangpfmjohhmaaGreatDoorQ6
import Derived.Test.YtoangpfmjohhmaaGreatDoorQ4
import Derived.Test.YtoangpfmjohhmaaGreatDoorQ5
/- What is asked of the model; numbers of the model. -/
namespace Go.Proofs.YtoangpfmjohhmaaGreatDoor
open Go.RowKit Go.Deep

/-- What is asked of a function of the model that tells a tree and whether it can. -/
def SpecQ (d : Nat) (t : Tr (d + 1)) (ok : Bool) (w : World) (e : Ending) (w' : World) : Prop :=
  ∃ v, e = .returned (.tuple #[v, .bool ok]) ∧ ValAt (Fresh w w') w' (d + 1) t v ∧ Below w.heap.size w w'

theorem numAt (d : Nat) (n : Int) (hn : I64 n) (S : Nat → Prop) (w : World) : ValAt S w (d + 1) (numT d n) (.agg #[.int .i64 3, .int .i64 n, .string ByteArray.empty, .slice none 0 0, .slice none 0 0]) :=
  ValOwn.at _ _ _ _ (valOwn_leaf d 3 n ByteArray.empty w S ⟨by omega, by omega⟩ hn (by decide))
theorem zeroAt (d : Nat) (S : Nat → Prop) (w : World) : ValAt S w (d + 1) (zeroT d) zeroVal := ValOwn.at _ _ _ _ (zeroVal_own d w S)

end Go.Proofs.YtoangpfmjohhmaaGreatDoor

/- Marks, as plain functions of lists and trees. -/
namespace Go.Proofs.YtoangpfmjohhmaaGreatDoor

/-- The last digit of a number. -/
def dg (k : Nat) : UInt8 := (48 + k % 10).toUInt8
theorem dg_nat (k : Nat) : (dg k).toNat = 48 + k % 10 := by
  simp only [dg, Nat.toUInt8, UInt8.toNat_ofNat']
  omega
/-- The digits of a number ahead of a text. -/
def mtGo : Nat → Nat → ByteArray → ByteArray
  | 0, _, out => out
  | f + 1, k, out => if k = 0 then out else mtGo f (k / 10) (ByteArray.mk #[dg k] ++ out)
/-- The text of a mark. -/
def mt (k : Nat) : ByteArray := ByteArray.mk #[109] ++ mtGo (k + 1) k ByteArray.empty

theorem mtGo_size : ∀ (f k : Nat) (out : ByteArray), (mtGo f k out).size ≤ f + out.size
  | 0, _, out => by simp [mtGo]
  | f + 1, k, out => by
    rw [mtGo]
    split
    · omega
    · have := mtGo_size f (k / 10) (ByteArray.mk #[dg k] ++ out)
      rw [ByteArray.size_append] at this
      have h1 : (ByteArray.mk #[dg k]).size = 1 := rfl
      omega
theorem mt_size (k : Nat) : (mt k).size ≤ k + 2 := by
  have := mtGo_size (k + 1) k ByteArray.empty
  rw [mt, ByteArray.size_append]
  have h1 : (ByteArray.mk #[109]).size = 1 := rfl
  have h2 : ByteArray.empty.size = 0 := rfl
  omega
/-- Enough fuel is enough. -/
theorem mtGo_fuel : ∀ (f g k : Nat) (out : ByteArray), k < f → k < g → mtGo f k out = mtGo g k out
  | 0, _, k, _, h, _ => by omega
  | _ + 1, 0, k, _, _, h => by omega
  | f + 1, g + 1, k, out, h1, h2 => by
    rw [mtGo, mtGo]
    by_cases e : k = 0
    · rw [if_pos e, if_pos e]
    · rw [if_neg e, if_neg e]
      have := Nat.div_lt_self (Nat.pos_of_ne_zero e) (show 1 < 10 by omega)
      exact mtGo_fuel f g (k / 10) _ (by omega) (by omega)
theorem mtGo_step {f k : Nat} (out : ByteArray) (h : k < f) (h0 : 0 < k) : mtGo f k out = mtGo f (k / 10) (ByteArray.mk #[dg k] ++ out) := by
  cases f with
  | zero => omega
  | succ f =>
    have hd := Nat.div_lt_self h0 (show 1 < 10 by omega)
    conv => lhs; rw [mtGo, if_neg (by omega)]
    exact mtGo_fuel f (f + 1) (k / 10) _ (by omega) (by omega)

/-- Texts with marks in their places. -/
def markStrs : List ByteArray → Nat → List ByteArray
  | [], _ => []
  | _ :: r, k => mt k :: markStrs r (k + 1)
theorem markStrs_length : ∀ (ss : List ByteArray) (k : Nat), (markStrs ss k).length = ss.length
  | [], _ => rfl
  | _ :: r, k => by simp [markStrs, markStrs_length r (k + 1)]
theorem markStrs_get : ∀ (ss : List ByteArray) (k i : Nat) (s : ByteArray), (markStrs ss k)[i]? = some s → s = mt (k + i)
  | [], _, i, s, h => by simp [markStrs] at h
  | _ :: r, k, 0, s, h => by simp [markStrs] at h; rw [← h]; rfl
  | _ :: r, k, i + 1, s, h => by
    rw [markStrs, List.getElem?_cons_succ] at h
    rw [markStrs_get r (k + 1) i s h]
    congr 1
    omega

/-- Things with marks in their places, one behind the other. -/
def markL {α : Type} (f : α → Nat → α × Nat) : List α → Nat → List α × Nat
  | [], k => ([], k)
  | x :: r, k => ((f x k).1 :: (markL f r (f x k).2).1, (markL f r (f x k).2).2)
/-- A part with marks in all its places. -/
def markT : (d : Nat) → Tr d → Nat → Tr d × Nat
  | 0, t, k => (t, k)
  | d + 1, t, k => ((Nd.mk (k : Int) ((k : Int) + 1) (mt (k + 2)) (markStrs (Nd.keys t) (k + 3)) (markL (markT d) (Nd.list t) (k + 3 + (Nd.keys t).length)).1 : Nd (Tr d)),
      (markL (markT d) (Nd.list t) (k + 3 + (Nd.keys t).length)).2)
/-- A tree with marks in all places of its lists. -/
def markTop (d : Nat) (t : Tr (d + 1)) (k : Nat) : Tr (d + 1) × Nat :=
  ((Nd.mk (Nd.kind t) (Nd.num t) (Nd.str t) (markStrs (Nd.keys t) k) (markL (markT d) (Nd.list t) (k + (Nd.keys t).length)).1 : Nd (Tr d)), (markL (markT d) (Nd.list t) (k + (Nd.keys t).length)).2)

theorem markL_length {α : Type} (f : α → Nat → α × Nat) : ∀ (xs : List α) (k : Nat), (markL f xs k).1.length = xs.length
  | [], _ => rfl
  | x :: r, k => by simp [markL, markL_length f r]
/-- How far the marks of the first things go. -/
def markTo {α : Type} (f : α → Nat → α × Nat) (xs : List α) (k i : Nat) : Nat := (markL f (xs.take i) k).2
theorem markTo_zero {α : Type} (f : α → Nat → α × Nat) (xs : List α) (k : Nat) : markTo f xs k 0 = k := by simp [markTo, markL]
theorem markTo_step {α : Type} (f : α → Nat → α × Nat) : ∀ (xs : List α) (k i : Nat) (x : α), xs[i]? = some x → markTo f xs k (i + 1) = (f x (markTo f xs k i)).2
  | [], _, i, x, h => by simp at h
  | y :: r, k, 0, x, h => by simp at h; subst h; simp [markTo, markL]
  | y :: r, k, i + 1, x, h => by
    rw [List.getElem?_cons_succ] at h
    have := markTo_step f r (f y k).2 i x h
    simpa [markTo, markL] using this
theorem markTo_all {α : Type} (f : α → Nat → α × Nat) (xs : List α) (k : Nat) : markTo f xs k xs.length = (markL f xs k).2 := by simp [markTo]
theorem markL_get {α : Type} (f : α → Nat → α × Nat) : ∀ (xs : List α) (k i : Nat) (x : α), xs[i]? = some x → (markL f xs k).1[i]? = some (f x (markTo f xs k i)).1
  | [], _, i, x, h => by simp at h
  | y :: r, k, 0, x, h => by simp at h; subst h; simp [markTo, markL]
  | y :: r, k, i + 1, x, h => by
    rw [List.getElem?_cons_succ] at h
    have := markL_get f r (f y k).2 i x h
    simpa [markTo, markL] using this

/-- How many marks a part takes. -/
def wtT : (d : Nat) → Tr d → Nat
  | 0, _ => 0
  | d + 1, t => 3 + (Nd.keys t).length + ((Nd.list t).map (wtT d)).sum
theorem markL_to {α : Type} {f : α → Nat → α × Nat} {g : α → Nat} (h : ∀ x k, (f x k).2 = k + g x) : ∀ (xs : List α) (k : Nat), (markL f xs k).2 = k + (xs.map g).sum
  | [], k => by simp [markL]
  | x :: r, k => by
    rw [markL, List.map_cons, List.sum_cons]
    show (markL f r (f x k).2).2 = _
    rw [markL_to h r, h]
    omega
theorem markT_to : ∀ (d : Nat) (t : Tr d) (k : Nat), (markT d t k).2 = k + wtT d t
  | 0, _, _ => rfl
  | d + 1, t, k => by
    show (markL (markT d) (Nd.list t) (k + 3 + (Nd.keys t).length)).2 = _
    rw [markL_to (markT_to d), wtT]
    omega
theorem markTo_le {d : Nat} (xs : List (Tr d)) (k i : Nat) : k ≤ markTo (markT d) xs k i ∧ markTo (markT d) xs k i ≤ k + (xs.map (wtT d)).sum := by
  unfold markTo
  rw [markL_to (markT_to d)]
  have : ((xs.take i).map (wtT d)).sum ≤ (xs.map (wtT d)).sum := by
    conv => rhs; rw [← List.take_append_drop i xs, List.map_append, List.sum_append]
    omega
  omega
end Go.Proofs.YtoangpfmjohhmaaGreatDoor

/- How many marks a tree takes: bounds. -/
namespace Go.Proofs.YtoangpfmjohhmaaGreatDoor

theorem szStrs_cnt (ss : List ByteArray) (left : Int) (h : 0 ≤ szStrs ss left) : (ss.length : Int) ≤ left - szStrs ss left := by
  rw [szStrs] at h ⊢
  split at h
  · omega
  rename_i n1
  rw [if_neg n1]
  have := szStrsGo_le ss (left - ss.length) (by omega)
  omega
theorem szLGo_wt {d : Nat} (ih : ∀ (t : Tr d) (left : Int), 0 ≤ left → 0 ≤ szT d t left → (wtT d t : Int) ≤ 3 + 3 * (left - szT d t left)) :
    ∀ (xs : List (Tr d)) (left : Int), 0 ≤ left → 0 ≤ szLGo (szT d) xs left → (((xs.map (wtT d)).sum : Nat) : Int) ≤ 3 * xs.length + 3 * (left - szLGo (szT d) xs left)
  | [], left, h0, h => by simp [szLGo]
  | x :: r, left, h0, h => by
    rw [szLGo] at h ⊢
    split at h
    · omega
    rename_i n1
    rw [if_neg n1]
    have h1 := ih x left h0 (by omega)
    have h2 := szLGo_wt ih r (szT d x left) (by omega) h
    simp only [List.map_cons, List.sum_cons, List.length_cons]
    omega
theorem szT_wt : ∀ (d : Nat) (t : Tr d) (left : Int), 0 ≤ left → 0 ≤ szT d t left → (wtT d t : Int) ≤ 3 + 3 * (left - szT d t left)
  | 0, _, left, h0, h => by simp [szT] at h
  | d + 1, t, left, h0, h => by
    rw [szT] at h ⊢
    split at h
    · omega
    rename_i n1
    split at h
    · omega
    rename_i n2
    split at h
    · omega
    rename_i n3
    rw [if_neg n1, if_neg n2, if_neg n3]
    have e1 := szStrs_cnt (Nd.keys t) (left - (Nd.str t).size) (by omega)
    rw [wtT]
    generalize szStrs (Nd.keys t) (left - (Nd.str t).size) = l2 at *
    rw [szL] at n3 ⊢
    split at n3
    · omega
    rename_i n4
    rw [if_neg n4]
    have e2 := szLGo_wt (szT_wt d) (Nd.list t) (l2 - (Nd.list t).length) (by omega) (by omega)
    omega

theorem wt_sum {d : Nat} {deep : Int} (ih : ∀ (t : Tr d), formT d t deep = true → wtT d t + 2 ≤ 5 * manyT d t deep) : ∀ (xs : List (Tr d)), xs.all (fun x => formT d x deep) = true → (xs.map (wtT d)).sum + 2 * xs.length ≤ 5 * (xs.map (fun x => manyT d x deep)).sum
  | [], _ => by simp
  | x :: r, h => by
    simp only [List.all_cons, Bool.and_eq_true] at h
    have h1 := ih x h.1
    have h2 := wt_sum ih r h.2
    simp only [List.map_cons, List.sum_cons, List.length_cons]
    omega
theorem wtT_form : ∀ (d : Nat) (t : Tr d) (deep : Int), formT d t deep = true → wtT d t + 2 ≤ 5 * manyT d t deep
  | 0, _, _, h => by simp [formT] at h
  | d + 1, t, deep, hf => by
    obtain ⟨kind, num, str, keys, list⟩ := t
    cases hb : headBad kind num str keys.length list.length deep with
    | true => rw [formT_bad hb] at hf; cases hf
    | false =>
    rw [formT_good hb] at hf
    obtain ⟨g0, g1, g2, g3, g4⟩ := headBad_iff.1 hb
    have hmany : manyT (d + 1) (Nd.mk kind num str keys list) deep = 1 + (if 0 < deep then (list.map (fun x => manyT d x (deep - 1))).sum else 0) := rfl
    have hwt : wtT (d + 1) (Nd.mk kind num str keys list) = 3 + keys.length + (list.map (wtT d)).sum := rfl
    rw [hmany, if_pos (by omega), hwt]
    by_cases k5 : kind < 5
    · obtain rfl := List.eq_nil_of_length_eq_zero (g4 k5)
      have := g3 (by omega)
      simp
      omega
    rw [if_neg (by omega), if_neg (by omega), if_neg (by omega)] at hf
    by_cases k6 : kind = 6
    · rw [if_pos k6] at hf
      simp only [Bool.and_eq_true] at hf
      have hl := beq_iff_eq.1 hf.1.1
      have := wt_sum (deep := deep - 1) (fun t h => wtT_form d t (deep - 1) h) list hf.2
      omega
    rw [if_neg k6] at hf
    by_cases k5' : kind = 5
    · rw [if_pos k5'] at hf
      have := g3 (by omega)
      have := wt_sum (deep := deep - 1) (fun t h => wtT_form d t (deep - 1) h) list hf
      omega
    · rw [if_neg k5'] at hf
      cases hf
theorem wtT_ok {d : Nat} {t : Tr d} (h : okT d t = true) : wtT d t ≤ 300 := by
  obtain ⟨h1, h2⟩ := okT_form h
  have := wtT_form d t 6 h1
  omega
theorem okT_zero (d : Nat) : okT (d + 1) (zeroT d) = true := by
  have hb : headBad 0 0 ByteArray.empty ([] : List ByteArray).length ([] : List (Tr d)).length 6 = false := headBad_iff.2 ⟨by omega, fun _ => rfl, fun _ => empty_toList, fun _ => rfl, fun _ => rfl⟩
  have h1 : formT (d + 1) (zeroT d) 6 = true := by
    show formT (d + 1) (Nd.mk 0 0 ByteArray.empty [] [] : Nd (Tr d)) 6 = true
    rw [formT_good hb]
    simp
  have h2 : manyT (d + 1) (zeroT d) 6 = 1 := rfl
  simp only [okT, h1, h2]
  rfl
theorem okT_told (d : Nat) (t : Tr (d + 1)) : okT (d + 1) (toldT d t) = true := by
  unfold toldT
  split
  · assumption
  · exact okT_zero d
end Go.Proofs.YtoangpfmjohhmaaGreatDoor

/- Parts of trees that are ok; what lies at a place. -/
namespace Go.Proofs.YtoangpfmjohhmaaGreatDoor
open Go.RowKit Go.Deep

theorem sum_map_eq {α : Type} {f g : α → Nat} : ∀ (xs : List α), (∀ x ∈ xs, f x = g x) → (xs.map f).sum = (xs.map g).sum
  | [], _ => rfl
  | x :: r, h => by
    simp only [List.map_cons, List.sum_cons]
    rw [h x (by simp), sum_map_eq r (fun y hy => h y (by simp [hy]))]

theorem formT_up : ∀ (d : Nat) (t : Tr d) (deep : Int), formT d t deep = true → formT d t (deep + 1) = true ∧ manyT d t (deep + 1) = manyT d t deep
  | 0, _, _, h => by cases h
  | d + 1, t, deep, hf => by
    obtain ⟨kind, num, str, keys, list⟩ := t
    cases hb : headBad kind num str keys.length list.length deep with
    | true => rw [formT_bad hb] at hf; cases hf
    | false =>
      obtain ⟨g0, g1, g2, g3, g4⟩ := headBad_iff.1 hb
      have hb' : headBad kind num str keys.length list.length (deep + 1) = false := headBad_iff.2 ⟨by omega, g1, g2, g3, g4⟩
      rw [formT_good hb] at hf
      rw [formT_good hb']
      have hm : ∀ e : Int, 0 < e → manyT (d + 1) (Nd.mk kind num str keys list : Nd (Tr d)) e = 1 + (list.map (fun x => manyT d x (e - 1))).sum := fun e he => by
        show 1 + (if 0 < e then _ else 0) = _
        rw [if_pos he]
      rw [hm _ (by omega), hm _ (by omega)]
      have hall : ∀ x ∈ list, formT d x (deep - 1) = true := by
        intro x hx
        by_cases k5 : kind < 5
        · have := g4 k5
          rw [List.length_eq_zero_iff] at this
          rw [this] at hx
          cases hx
        rw [if_neg (by omega), if_neg (by omega), if_neg (by omega)] at hf
        by_cases k6 : kind = 6
        · rw [if_pos k6] at hf
          simp only [Bool.and_eq_true] at hf
          exact List.all_eq_true.1 hf.2 x hx
        rw [if_neg k6] at hf
        by_cases k5' : kind = 5
        · rw [if_pos k5'] at hf
          exact List.all_eq_true.1 hf x hx
        · rw [if_neg k5'] at hf
          cases hf
      have hup : ∀ x ∈ list, formT d x (deep + 1 - 1) = true ∧ manyT d x (deep + 1 - 1) = manyT d x (deep - 1) := fun x hx => by
        have h1 := formT_up d x (deep - 1) (hall x hx)
        rw [show deep - 1 + 1 = deep + 1 - 1 by omega] at h1
        exact h1
      have ha : list.all (fun x => formT d x (deep + 1 - 1)) = list.all (fun x => formT d x (deep - 1)) := by
        rw [List.all_eq_true.2 (fun x hx => (hup x hx).1), List.all_eq_true.2 hall]
      rw [ha]
      exact ⟨hf, by rw [sum_map_eq list (fun x hx => (hup x hx).2)]⟩

theorem okT_part {d : Nat} {t : Tr (d + 1)} {x : Tr d} (h : okT (d + 1) t = true) (hx : x ∈ Nd.list t) : okT d x = true := by
  obtain ⟨hf, hm⟩ := okT_form h
  obtain ⟨kind, num, str, keys, list⟩ := t
  have hx : x ∈ list := hx
  have hmm : manyT (d + 1) (Nd.mk kind num str keys list : Nd (Tr d)) 6 = 1 + (list.map (fun x => manyT d x (6 - 1))).sum := rfl
  rw [hmm] at hm
  have h1 := many_mem (d := d) (deep := 6 - 1) hx
  have hfx : formT d x (6 - 1) = true := by
    cases hb : headBad kind num str keys.length list.length 6 with
    | true => rw [formT_bad hb] at hf; cases hf
    | false =>
      obtain ⟨g0, g1, g2, g3, g4⟩ := headBad_iff.1 hb
      rw [formT_good hb] at hf
      by_cases k5 : kind < 5
      · have := g4 k5
        rw [List.length_eq_zero_iff] at this
        rw [this] at hx
        cases hx
      rw [if_neg (by omega), if_neg (by omega), if_neg (by omega)] at hf
      by_cases k6 : kind = 6
      · rw [if_pos k6] at hf
        simp only [Bool.and_eq_true] at hf
        exact List.all_eq_true.1 hf.2 x hx
      rw [if_neg k6] at hf
      by_cases k5' : kind = 5
      · rw [if_pos k5'] at hf
        exact List.all_eq_true.1 hf x hx
      · rw [if_neg k5'] at hf
        cases hf
  have h2 := formT_up d x (6 - 1) hfx
  have h3 : formT d x 6 = true := h2.1
  have h4 : manyT d x 6 = manyT d x (6 - 1) := h2.2
  have h5 : manyT d x 6 ≤ 60 := by rw [h4]; omega
  unfold okT
  rw [h3]
  simpa using h5

theorem str_empty {s : ByteArray} (h : s.toList = []) : s = ByteArray.empty := by
  rw [ByteArray.toList_eq] at h
  cases s with
  | mk a =>
    cases a with
    | mk l =>
      have h : l = [] := h
      rw [h]
      rfl
/-- What is nothing, is nothing at one depth less. -/
theorem valAt_zero {d : Nat} {S : Nat → Prop} {w : World} {t : Tr (d + 2)} {v : Value} (h : okT (d + 2) t = true) (h0 : Nd.kind t = 0) (hv : ValAt S w (d + 2) t v) : ValAt S w (d + 1) (zeroT d) v := by
  obtain ⟨hf, _⟩ := okT_form h
  obtain ⟨kind, num, str, keys, list⟩ := t
  have h0 : kind = 0 := h0
  subst h0
  cases hb : headBad 0 num str keys.length list.length 6 with
  | true => rw [formT_bad hb] at hf; cases hf
  | false =>
    obtain ⟨_, g1, g2, g3, g4⟩ := headBad_iff.1 hb
    obtain rfl := g1 (by omega)
    have hs : str = ByteArray.empty := str_empty (g2 (by omega))
    subst hs
    have hk := g3 (by omega)
    have hl := g4 (by omega)
    rw [List.length_eq_zero_iff] at hk hl
    subst hk hl
    obtain ⟨vk, vl, rfl, i1, i2, i3, hk, hl⟩ := hv
    exact ⟨vk, vl, rfl, i1, i2, i3, hk, by
      obtain ⟨a, ⟨p, c, e, q⟩⟩ := hl
      exact ⟨by show (0 : Nat) < 3518437208883; omega, p, c, e, Or.inl rfl⟩⟩

/-- What lies at a place, from the end if it is below 0. -/
def placeI (i : Int) (n : Nat) : Int := if i < -(n : Int) ∨ (n : Int) ≤ i then -1 else if i < 0 then i + n else i
def placeL {α : Type} (xs : List α) (i : Int) : Option α := if placeI i xs.length < 0 then none else xs[(placeI i xs.length).toNat]?
def partAtT (d : Nat) (t : Tr (d + 2)) (i : Int) : Tr (d + 1) × Bool :=
  if okT (d + 2) t = true then (if Nd.kind t = 0 then (zeroT d, true) else if Nd.kind t = 5 then ((placeL (Nd.list t) i).getD (zeroT d), true) else (zeroT d, false)) else (zeroT d, false)
theorem placeL_mem {α : Type} {xs : List α} {i : Int} {x : α} (h : placeL xs i = some x) : x ∈ xs := by
  unfold placeL at h
  split at h
  · cases h
  · exact List.mem_of_getElem? h
theorem okT_partAt (d : Nat) (t : Tr (d + 2)) (i : Int) : okT (d + 1) (partAtT d t i).1 = true := by
  unfold partAtT
  split
  · rename_i h
    split
    · exact okT_zero d
    split
    · cases hp : placeL (Nd.list t) i with
      | none => exact okT_zero d
      | some x => exact okT_part h (placeL_mem hp)
    · exact okT_zero d
  · exact okT_zero d
theorem placeI_range (i : Int) (n : Nat) : placeI i n = -1 ∨ (0 ≤ placeI i n ∧ placeI i n < n) := by
  unfold placeI
  split
  · exact Or.inl rfl
  · split <;> exact Or.inr (by omega)
theorem wt_part {d : Nat} {t : Tr (d + 1)} {x : Tr d} (hx : x ∈ Nd.list t) (h : okT (d + 1) t = true) : (wtT d x : Int) ≤ 4194304 := by
  have := wtT_ok (okT_part h hx)
  omega

/-- A tree that lies in memory, as one that may be one deeper. -/
theorem deepen {S : Nat → Prop} {w : World} {v : Value} : ∀ {N : Nat} {t : Tr N}, ValAt S w N t v → ∃ (d : Nat) (t' : Tr (d + 2)), ValAt S w (d + 2) t' v
  | 0, _, h => h.elim
  | 1, t, h => by
    obtain ⟨vk, vl, rfl, i1, i2, i3, hk, hl⟩ := h
    refine ⟨0, (Nd.mk (Nd.kind t) (Nd.num t) (Nd.str t) (Nd.keys t) [] : Nd (Tr 1)), vk, vl, rfl, i1, i2, i3, hk, ?_⟩
    obtain ⟨h1, a, cap, rfl, h2⟩ := hl
    have h0 : (Nd.list t).length = 0 := by
      cases hL : Nd.list t with
      | nil => rfl
      | cons x r => exact Empty.elim x
    exact ⟨by show (0 : Nat) < 3518437208883; omega, a, cap, by show _ = Value.slice a 0 cap; rw [h0], Or.inl rfl⟩
  | d + 2, t, h => ⟨d, t, h⟩
end Go.Proofs.YtoangpfmjohhmaaGreatDoor

/- A row of the program's own trees that owns its memory. -/
namespace Go.Proofs.YtoangpfmjohhmaaGreatDoor
open Go.RowKit Go.Deep

/-- A row as a tree. -/
def rowT (d : Nat) (xs : List (Tr d)) : Tr (d + 1) := (Nd.mk 5 0 ByteArray.empty [] xs : Nd (Tr d))
/-- A row of the program's own trees that owns its memory: its trees lie in blocks from N on, not in the row's own. -/
def GTo {d : Nat} (N : Nat) (w : World) (sv : Value) (xs : List (Tr d)) (vs : List Value) : Prop :=
  w.ownsRow N 58 1 sv xs.length vs ∧ ∀ (j : Nat) (x : Tr d) (u : Value), xs[j]? = some x → vs[j]? = some u → TreeG (Aside N w sv) w d x u

theorem gto_nil {d : Nat} (N : Nat) (w : World) : GTo (d := d) N w (.slice none 0 0) [] [] := ⟨World.ownsRow_nil _ _ _ _, fun j x u h => by simp at h⟩
theorem gto_of {d N : Nat} {w : World} {sv : Value} {xs : List (Tr d)} {vs : List Value} (h : TreesTo N w sv xs xs.length vs) (hf : ∀ x ∈ xs, formT d x 5 = true ∧ manyT d x 5 ≤ 60) : GTo N w sv xs vs :=
  ⟨h.1, fun j x u hx hu => treeG_of d x 5 u (hf x (List.mem_of_getElem? hx)).1 (hf x (List.mem_of_getElem? hx)).2 (h.2 j x u (List.getElem?_eq_some_iff.1 hx).1 hx hu)⟩
theorem okT_row {d : Nat} {xs : List (Tr d)} (h : okT (d + 1) (Nd.mk 5 0 ByteArray.empty [] xs : Nd (Tr d)) = true) : ∀ x ∈ xs, formT d x 5 = true ∧ manyT d x 5 ≤ 60 := by
  obtain ⟨hf, hm⟩ := okT_form h
  have hmm : manyT (d + 1) (Nd.mk 5 0 ByteArray.empty [] xs : Nd (Tr d)) 6 = 1 + (xs.map (fun x => manyT d x (6 - 1))).sum := rfl
  rw [hmm] at hm
  cases hb : headBad 5 0 ByteArray.empty ([] : List ByteArray).length xs.length 6 with
  | true => rw [formT_bad hb] at hf; cases hf
  | false =>
    rw [formT_good hb] at hf
    have hall : xs.all (fun x => formT d x (6 - 1)) = true := by simpa using hf
    intro x hx
    have h1 := many_mem (d := d) (deep := 6 - 1) hx
    exact ⟨List.all_eq_true.1 hall x hx, by have h2 : manyT d x 5 = manyT d x (6 - 1) := rfl; omega⟩

/-- The trees of a row, wherever it lies. -/
theorem GTo.row {d N : Nat} {w : World} {sv : Value} {xs : List (Tr d)} {vs : List Value} (h : GTo N w sv xs vs) (hl : xs.length < 17592186044416) : Row1At (fun b => N ≤ b ∧ b < w.heap.size) w (TreeG (fun b => N ≤ b ∧ b < w.heap.size) w d) sv xs := by
  obtain ⟨h1, h2⟩ := h
  refine ⟨hl, ?_⟩
  have hlen := h1.1
  rw [Nat.mul_one] at hlen
  rcases h1.2 with ⟨rfl, h0⟩ | ⟨g, cap, cur, rfl, hg, hh, _, _, _, _⟩
  · exact ⟨none, 0, by rw [h0], Or.inl (List.eq_nil_of_length_eq_zero h0)⟩
  · refine ⟨some ⟨g, 0, none⟩, cap, rfl, Or.inr ⟨g, 0, ⟨by omega, (Array.getElem?_eq_some_iff.1 hh).1⟩, rfl, fun i x hx => ?_⟩⟩
    have hi := (List.getElem?_eq_some_iff.1 hx).1
    have hvi : vs[i]? = some vs[i] := List.getElem?_eq_getElem (by omega)
    have hc := h1.cells (g := g) rfl i _ hvi
    have hadd : (⟨g, 0, none⟩ : Addr).add i = ⟨g, 0 + i, none⟩ := by unfold Addr.add; split <;> simp_all
    rw [hadd] at hc
    exact ⟨vs[i], hc, (h2 i x _ hx hvi).mono (fun b hb => ⟨hb.1, hb.2.1⟩)⟩

end Go.Proofs.YtoangpfmjohhmaaGreatDoor

/- What lies at a key. -/
namespace Go.Proofs.YtoangpfmjohhmaaGreatDoor
open Go.RowKit Go.Deep

/-- What lies at a key, of keys and what lies at them. -/
def getL {α : Type} : List ByteArray → List α → ByteArray → Option α
  | k :: ks, x :: xs, s => if (k == s) = true then some x else getL ks xs s
  | _, _, _ => none
def partGetT (d : Nat) (t : Tr (d + 2)) (s : ByteArray) : Tr (d + 1) × Bool :=
  if okT (d + 2) t = true ∧ strOk s = true then (if Nd.kind t = 0 then (zeroT d, true) else if Nd.kind t = 6 then ((getL (Nd.keys t) (Nd.list t) s).getD (zeroT d), true) else (zeroT d, false)) else (zeroT d, false)

theorem getL_at {α : Type} {s : ByteArray} : ∀ {ks : List ByteArray} {xs : List α} {k : Nat} {x : α}, ks[k]? = some s → xs[k]? = some x → (∀ j, j < k → ks[j]? ≠ some s) → getL ks xs s = some x
  | [], _, _, _, h, _, _ => by simp at h
  | _ :: _, [], _, _, _, h, _ => by simp at h
  | a :: ks, y :: xs, 0, x, h, h', _ => by
    simp at h h'
    subst h h'
    rw [getL, if_pos ((MapKept.bytes_beq a a).2 rfl)]
  | a :: ks, y :: xs, k + 1, x, h, h', hn => by
    rw [getL, if_neg (fun e => hn 0 (by omega) (by rw [(MapKept.bytes_beq a s).1 e]; rfl))]
    exact getL_at (by simpa using h) (by simpa using h') (fun j hj => by have := hn (j + 1) (by omega); simpa using this)
theorem getL_miss {α : Type} {s : ByteArray} : ∀ {ks : List ByteArray} {xs : List α}, s ∉ ks → getL ks xs s = none
  | [], _, _ => by rw [getL]; intro _ _ _ _ h; cases h
  | _ :: _, [], _ => by rw [getL]; intro _ _ _ _ _ h; cases h
  | a :: ks, y :: xs, hn => by
    rw [getL, if_neg (fun e => hn (by rw [(MapKept.bytes_beq a s).1 e]; simp))]
    exact getL_miss (fun h => hn (by simp [h]))
theorem getL_mem {α : Type} {s : ByteArray} {x : α} : ∀ {ks : List ByteArray} {xs : List α}, getL ks xs s = some x → x ∈ xs
  | [], _, h => by rw [getL] at h; cases h; intro _ _ _ _ h; cases h
  | _ :: _, [], h => by rw [getL] at h; cases h; intro _ _ _ _ _ h; cases h
  | a :: ks, y :: xs, h => by
    rw [getL] at h
    split at h
    · cases h; simp
    · simp [getL_mem h]
/-- A key that is there. -/
theorem key_at {α : Type} {s : ByteArray} : ∀ {ks : List ByteArray} {xs : List α}, s ∈ ks → ks.length = xs.length → ∃ (k : Nat) (x : α), ks[k]? = some s ∧ xs[k]? = some x ∧ (∀ j, j < k → ks[j]? ≠ some s)
  | [], _, h, _ => by cases h
  | _ :: _, [], _, h => by simp at h
  | a :: ks, y :: xs, h, hl => by
    by_cases e : a = s
    · subst e
      exact ⟨0, y, rfl, rfl, fun j hj => by omega⟩
    · obtain ⟨k, x, h1, h2, h3⟩ := key_at (ks := ks) (xs := xs) (by simpa [Ne.symm e] using h) (by simpa using hl)
      refine ⟨k + 1, x, by simpa using h1, by simpa using h2, fun j hj => ?_⟩
      cases j with
      | zero => intro h; simp at h; exact e h
      | succ j => have := h3 j (by omega); simpa using this
theorem okT_keys {d : Nat} {t : Tr (d + 1)} (h : okT (d + 1) t = true) (h6 : Nd.kind t = 6) : (Nd.keys t).length = (Nd.list t).length := by
  obtain ⟨hf, hm⟩ := okT_form h
  obtain ⟨kind, num, str, keys, list⟩ := t
  have h6 : kind = 6 := h6
  cases hb : headBad kind num str keys.length list.length 6 with
  | true => rw [formT_bad hb] at hf; cases hf
  | false =>
    rw [formT_good hb, if_neg (by omega), if_neg (by omega), if_neg (by omega), if_pos h6] at hf
    simp only [Bool.and_eq_true] at hf
    exact by simpa using hf.1.1
theorem okT_partGet (d : Nat) (t : Tr (d + 2)) (s : ByteArray) : okT (d + 1) (partGetT d t s).1 = true := by
  unfold partGetT
  split
  · rename_i h
    split
    · exact okT_zero d
    split
    · cases hp : getL (Nd.keys t) (Nd.list t) s with
      | none => exact okT_zero d
      | some x => exact okT_part h.1 (getL_mem hp)
    · exact okT_zero d
  · exact okT_zero d
end Go.Proofs.YtoangpfmjohhmaaGreatDoor

/- Keys and trees, one more put at its place. -/
namespace Go.Proofs.YtoangpfmjohhmaaGreatDoor
open Go.RowKit Go.Deep

/-- Keys and what lies at them, in order, when x is put at key s. -/
def putL {α : Type} : List ByteArray → List α → ByteArray → α → List (ByteArray × α)
  | k :: ks, y :: ys, s, x => if ltB k s = true then (k, y) :: putL ks ys s x else if (k == s) = true then (s, x) :: ks.zip ys else (s, x) :: (k, y) :: ks.zip ys
  | [], _, s, x => [(s, x)]
  | _ :: _, [], s, x => [(s, x)]

theorem ltB_total {a b : ByteArray} (h : ltB a b = false) (hn : (a == b) = false) : ltB b a = true := by
  have ht := bytesLess_total a.toList b.toList
  unfold ltB at h ⊢
  have hne : (a.toList == b.toList) = false := by
    cases hb : (a.toList == b.toList)
    · rfl
    · have e := beq_iff_eq.1 hb
      rw [ByteArray.toList_eq, ByteArray.toList_eq] at e
      have : a = b := by
        cases a with
        | mk a =>
          cases b with
          | mk b =>
            have e : a.toList = b.toList := e
            cases a; cases b
            simp at e
            rw [e]
      rw [(MapKept.bytes_beq a b).2 this] at hn
      cases hn
  rw [h, hne] at ht
  simpa using ht.symm
theorem ltB_ne {a b : ByteArray} (h : ltB a b = true) : a ≠ b := fun e => by
  subst e
  have := bytesLess_irrefl a.toList
  unfold ltB at h
  rw [h] at this
  cases this

theorem zip_cons {α : Type} (k : ByteArray) (ks : List ByteArray) (y : α) (ys : List α) : (k :: ks).zip (y :: ys) = (k, y) :: ks.zip ys := rfl
theorem putL_length {α : Type} : ∀ (ks : List ByteArray) (xs : List α) (s : ByteArray) (x : α), (putL ks xs s x).length ≤ ks.length + 1
  | [], _, _, _ => by rw [putL]; simp
  | _ :: _, [], _, _ => by rw [putL]; simp
  | k :: ks, y :: ys, s, x => by
    have := putL_length ks ys s x
    rw [putL]
    split
    · simp; omega
    · split
      · simp; omega
      · simp; omega

/-- A key that is new comes in at its place. -/
theorem putL_new {α : Type} : ∀ {ks : List ByteArray} {xs : List α} {s : ByteArray} {x : α}, ks.length = xs.length → s ∉ ks → ((ks.zip xs) ++ [(s, x)]).Perm (putL ks xs s x)
  | [], [], _, _, _, _ => by rw [putL]; exact List.Perm.refl _
  | [], _ :: _, _, _, h, _ => by simp at h
  | _ :: _, [], _, _, h, _ => by simp at h
  | k :: ks, y :: ys, s, x, h, hn => by
    have hks : (k == s) = false := by
      cases hb : (k == s)
      · rfl
      · exact absurd (by rw [(MapKept.bytes_beq k s).1 hb]; simp) hn
    rw [putL, zip_cons, List.cons_append]
    split
    · exact List.Perm.cons _ (putL_new (by simpa using h) (fun hm => hn (by simp [hm])))
    · rw [if_neg (by rw [hks]; simp)]
      have hp := List.perm_middle (l₁ := (k, y) :: ks.zip ys) (l₂ := []) (a := (s, x))
      rw [List.append_nil] at hp
      exact hp

/-- A key that is there keeps its place. -/
theorem putL_there {α : Type} {s : ByteArray} {x : α} : ∀ {ks : List ByteArray} {xs : List α} {p : Option ByteArray} {j : Nat}, ks.length = xs.length → keysGo p ks = true → ks[j]? = some s → putL ks xs s x = (ks.zip xs).set j (s, x)
  | [], _, _, _, _, _, h => by simp at h
  | _ :: _, [], _, _, h, _, _ => by simp at h
  | k :: ks, y :: ys, p, 0, _, _, hj => by
    simp at hj
    subst hj
    rw [putL, if_neg (by have := bytesLess_irrefl k.toList; unfold ltB; rw [this]; simp), if_pos ((MapKept.bytes_beq k k).2 rfl)]
    rfl
  | k :: ks, y :: ys, p, j + 1, h, hk, hj => by
    have hj' : ks[j]? = some s := by simpa using hj
    have hgo : keysGo (some k) ks = true := by
      cases p with
      | none => simp only [keysGo, Bool.and_eq_true] at hk; exact hk.2
      | some q => simp only [keysGo, Bool.and_eq_true] at hk; exact hk.2.2
    rw [putL, if_pos (keysGo_all ks k hgo s (List.mem_of_getElem? hj')), zip_cons, List.set_cons_succ, putL_there (by simpa using h) hgo hj']

/-- The keys stay in order. -/
theorem putL_keys {α : Type} {s : ByteArray} {x : α} (hs : strOk s = true) : ∀ {ks : List ByteArray} {xs : List α} {p : Option ByteArray}, ks.length = xs.length → keysGo p ks = true → (∀ q, p = some q → ltB q s = true) → keysGo p ((putL ks xs s x).map Prod.fst) = true
  | [], _, none, _, _, _ => by rw [putL]; simp [keysGo, hs]
  | [], _, some q, _, _, hq => by rw [putL]; simp [keysGo, hs, hq q rfl]
  | _ :: _, [], _, h, _, _ => by simp at h
  | k :: ks, y :: ys, p, h, hk, hq => by
    have hlen : ks.length = ys.length := by simpa using h
    have hgo : strOk k = true ∧ keysGo (some k) ks = true ∧ (∀ q, p = some q → ltB q k = true) := by
      cases p with
      | none =>
        simp only [keysGo, Bool.and_eq_true] at hk
        exact ⟨hk.1, hk.2, fun q e => by cases e⟩
      | some q =>
        simp only [keysGo, Bool.and_eq_true] at hk
        exact ⟨hk.1, hk.2.2, fun q' e => by cases e; exact hk.2.1⟩
    have hfirst : ∀ (a : ByteArray) (r : List ByteArray), strOk a = true → (∀ q, p = some q → ltB q a = true) → keysGo (some a) r = true → keysGo p (a :: r) = true := fun a r h1 h2 h3 => by
      cases p with
      | none => simp [keysGo, h1, h3]
      | some q => simp [keysGo, h1, h2 q rfl, h3]
    rw [putL]
    split
    · rename_i hlt
      rw [List.map_cons]
      exact hfirst _ _ hgo.1 hgo.2.2 (putL_keys hs hlen hgo.2.1 (fun q e => by cases e; exact hlt))
    · rename_i hlt
      split
      · rename_i he
        have := (MapKept.bytes_beq k s).1 he
        subst this
        rw [List.map_cons, zip_fst _ _ hlen]
        exact hfirst _ _ hgo.1 hgo.2.2 hgo.2.1
      · rename_i he
        rw [List.map_cons, List.map_cons, zip_fst _ _ hlen]
        refine hfirst _ _ hs hq ?_
        have hsk : ltB s k = true := ltB_total (by simpa using hlt) (by simpa using he)
        simp [keysGo, hgo.1, hsk, hgo.2.1]

/-- A map as a tree. -/
def mapT (d : Nat) (ps : List (ByteArray × Tr d)) : Tr (d + 1) := (Nd.mk 6 0 ByteArray.empty (ps.map Prod.fst) (ps.map Prod.snd) : Nd (Tr d))
theorem zip_unzip {α : Type} : ∀ ps : List (ByteArray × α), (ps.map Prod.fst).zip (ps.map Prod.snd) = ps
  | [] => rfl
  | (k, x) :: r => by rw [List.map_cons, List.map_cons, zip_cons, zip_unzip r]
end Go.Proofs.YtoangpfmjohhmaaGreatDoor

/- What the loop of l2Put does, as a plain function. -/
namespace Go.Proofs.YtoangpfmjohhmaaGreatDoor

/-- One round: whether x is in by then, and what there is. -/
def stepP {α : Type} (s : ByteArray) (x : α) (st : Bool × List (ByteArray × α)) (p : ByteArray × α) : Bool × List (ByteArray × α) :=
  ((st.1 || !ltB p.1 s), (if (!st.1 && !ltB p.1 s) = true then st.2 ++ [(s, x)] else st.2) ++ (if (p.1 == s) = true then [] else [p]))
/-- The end. -/
def endP {α : Type} (s : ByteArray) (x : α) (st : Bool × List (ByteArray × α)) : List (ByteArray × α) := if st.1 = true then st.2 else st.2 ++ [(s, x)]

theorem bytes_ne {a b : ByteArray} (h : a ≠ b) : (a == b) = false := by
  cases hb : (a == b)
  · rfl
  · exact absurd ((MapKept.bytes_beq a b).1 hb) h
theorem bytes_self (a : ByteArray) : (a == a) = true := (MapKept.bytes_beq a a).2 rfl

/-- Once x is in, the rest comes behind it. -/
theorem foldP_done {α : Type} {s : ByteArray} {x : α} : ∀ (ps acc : List (ByteArray × α)), (∀ p ∈ ps, p.1 ≠ s) → ps.foldl (stepP s x) (true, acc) = (true, acc ++ ps)
  | [], acc, _ => by simp
  | p :: r, acc, h => by
    have h1 : stepP s x (true, acc) p = (true, acc ++ [p]) := by
      simp [stepP, bytes_ne (h p (by simp))]
    rw [List.foldl_cons, h1, foldP_done r (acc ++ [p]) (fun q hq => h q (by simp [hq])), List.append_assoc]
    rfl
theorem keysGo_tail {p : Option ByteArray} {k : ByteArray} {ks : List ByteArray} (h : keysGo p (k :: ks) = true) : keysGo (some k) ks = true := by
  cases p with
  | none => simp only [keysGo, Bool.and_eq_true] at h; exact h.2
  | some q => simp only [keysGo, Bool.and_eq_true] at h; exact h.2.2
theorem zip_key {α : Type} {ks : List ByteArray} {ys : List α} {p : ByteArray × α} (h : p ∈ ks.zip ys) : p.1 ∈ ks := (List.of_mem_zip (show (p.1, p.2) ∈ ks.zip ys from h)).1

/-- All rounds and the end: the keys and trees with x at s. -/
theorem foldP_put {α : Type} {s : ByteArray} {x : α} : ∀ {ks : List ByteArray} {xs : List α} {p : Option ByteArray} (acc : List (ByteArray × α)), ks.length = xs.length → keysGo p ks = true → endP s x ((ks.zip xs).foldl (stepP s x) (false, acc)) = acc ++ putL ks xs s x
  | [], [], _, acc, _, _ => by rw [putL]; rfl
  | [], _ :: _, _, _, h, _ => by simp at h
  | _ :: _, [], _, _, h, _ => by simp at h
  | k :: ks, y :: ys, p, acc, h, hk => by
    have hlen : ks.length = ys.length := by simpa using h
    have hgo := keysGo_tail hk
    have hall := keysGo_all ks k hgo
    rw [zip_cons, List.foldl_cons, putL]
    cases hlt : ltB k s with
    | true =>
      have hne := bytes_ne (ltB_ne hlt)
      have h1 : stepP s x (false, acc) (k, y) = (false, acc ++ [(k, y)]) := by simp [stepP, hlt, hne]
      rw [h1, foldP_put (acc ++ [(k, y)]) hlen hgo, List.append_assoc]
      rfl
    | false =>
      rw [if_neg (by simp)]
      cases he : (k == s) with
      | true =>
        have hks := (MapKept.bytes_beq k s).1 he
        have h1 : stepP s x (false, acc) (k, y) = (true, acc ++ [(s, x)]) := by simp [stepP, hlt, he]
        rw [h1, foldP_done (ks.zip ys) (acc ++ [(s, x)]) (fun q hq e => ltB_ne (hall q.1 (zip_key hq)) (by rw [hks, e]))]
        simp [endP]
      | false =>
        have hsk : ltB s k = true := ltB_total hlt he
        have h1 : stepP s x (false, acc) (k, y) = (true, acc ++ [(s, x)] ++ [(k, y)]) := by simp [stepP, hlt, he]
        rw [h1, foldP_done (ks.zip ys) (acc ++ [(s, x)] ++ [(k, y)]) (fun q hq e => ltB_ne (bytesLess_trans _ _ _ hsk (hall q.1 (zip_key hq))) e.symm)]
        simp [endP]
/-- What there is when k keys were looked at. -/
def putAt {α : Type} (s : ByteArray) (x : α) (ps : List (ByteArray × α)) (k : Nat) : Bool × List (ByteArray × α) := (ps.take k).foldl (stepP s x) (false, [])
theorem putAt_step {α : Type} {s : ByteArray} {x : α} {ps : List (ByteArray × α)} {k : Nat} {p : ByteArray × α} (h : ps[k]? = some p) : putAt s x ps (k + 1) = stepP s x (putAt s x ps k) p := by
  obtain ⟨hk, e⟩ := List.getElem?_eq_some_iff.1 h
  unfold putAt
  rw [List.take_succ_eq_append_getElem hk, List.foldl_append, e]
  rfl
theorem putAt_len {α : Type} {s : ByteArray} {x : α} {ps : List (ByteArray × α)} : ∀ k, (putAt s x ps k).2.length ≤ 2 * k
  | 0 => by simp [putAt]
  | k + 1 => by
    have ih := putAt_len (s := s) (x := x) (ps := ps) k
    cases h : ps[k]? with
    | none =>
      have hk : ps.length ≤ k := by simpa using h
      have : putAt s x ps (k + 1) = putAt s x ps k := by
        unfold putAt
        rw [List.take_of_length_le hk, List.take_of_length_le (by omega)]
      rw [this]
      omega
    | some p =>
      rw [putAt_step h]
      unfold stepP
      simp only [List.length_append]
      have h1 : (if (p.1 == s) = true then ([] : List (ByteArray × α)) else [p]).length ≤ 1 := by split <;> simp
      have h2 : (if (!(putAt s x ps k).1 && !ltB p.1 s) = true then (putAt s x ps k).2 ++ [(s, x)] else (putAt s x ps k).2).length ≤ (putAt s x ps k).2.length + 1 := by split <;> simp
      omega
end Go.Proofs.YtoangpfmjohhmaaGreatDoor

/- isNothing. -/
namespace Go.Proofs.YtoangpfmjohhmaaGreatDoor
open Go.RowKit Go.Deep

set_option maxRecDepth 100000 in
set_option maxHeartbeats 1000000 in
theorem isNothing_bare (k : Int) (w : World) : Calls Tryz.prog 77 #[.iface 163 (.agg #[.int .i64 k])] w fun e w' => e = .returned (.bool (k == 0)) ∧ Below w.heap.size w w' := by
  have hA := hide (below_alloc1 w (.cells #[.int .i64 k] 163))
  have hs := Tryz.asB_B
  go_enter Tryz.func77, Tryz.ntmps77
  go_wp2_with fail
  go_ret
  exact ⟨rfl, hA.out⟩
set_option maxRecDepth 100000 in
theorem isNothing_num (v : Value) (w : World) : Calls Tryz.prog 77 #[.iface 113 v] w fun e w' => e = .returned (.bool false) ∧ Below w.heap.size w w' := by
  have hs := Tryz.asB_N
  go_enter Tryz.func77, Tryz.ntmps77
  go_wp2_with fail
  go_ret
  exact ⟨rfl, below_alloc1 _ _⟩
set_option maxRecDepth 100000 in
theorem isNothing_str (v : Value) (w : World) : Calls Tryz.prog 77 #[.iface 116 v] w fun e w' => e = .returned (.bool false) ∧ Below w.heap.size w w' := by
  have hs := Tryz.asB_S
  go_enter Tryz.func77, Tryz.ntmps77
  go_wp2_with fail
  go_ret
  exact ⟨rfl, below_alloc1 _ _⟩
set_option maxRecDepth 100000 in
theorem isNothing_row (v : Value) (w : World) : Calls Tryz.prog 77 #[.iface 120 v] w fun e w' => e = .returned (.bool false) ∧ Below w.heap.size w w' := by
  have hs := Tryz.asB_R
  go_enter Tryz.func77, Tryz.ntmps77
  go_wp2_with fail
  go_ret
  exact ⟨rfl, below_alloc1 _ _⟩
set_option maxRecDepth 100000 in
theorem isNothing_map (v : Value) (w : World) : Calls Tryz.prog 77 #[.iface 125 v] w fun e w' => e = .returned (.bool false) ∧ Below w.heap.size w w' := by
  have hs := Tryz.asB_M
  go_enter Tryz.func77, Tryz.ntmps77
  go_wp2_with fail
  go_ret
  exact ⟨rfl, below_alloc1 _ _⟩
end Go.Proofs.YtoangpfmjohhmaaGreatDoor

/- PartGet of the program. -/
namespace Go.Proofs.YtoangpfmjohhmaaGreatDoor
open Go.RowKit Go.Deep

/-- The keys and parts of a tree of which a key may be asked. -/
def mapL (d : Nat) (t : Tr (d + 1)) (s : ByteArray) : Option (List ByteArray × List (Tr d)) := if okT (d + 1) t = true ∧ strOk s = true then (if Nd.kind t = 0 then some ([], []) else if Nd.kind t = 6 then some (Nd.keys t, Nd.list t) else none) else none
theorem mapL_ok {d : Nat} {t : Tr (d + 1)} {s : ByteArray} (h : okT (d + 1) t = true) (hs : strOk s = true) : mapL d t s = (if Nd.kind t = 0 then some ([], []) else if Nd.kind t = 6 then some (Nd.keys t, Nd.list t) else none) := if_pos ⟨h, hs⟩
theorem mapL_no {d : Nat} {t : Tr (d + 1)} {s : ByteArray} (h : okT (d + 1) t = false ∨ strOk s = false) : mapL d t s = none := if_neg (fun e => by rcases h with h | h <;> simp [h] at e)

/-- A map of the program's own trees, in blocks of S. -/
structure MapAt {d : Nat} (S : Nat → Prop) (w : World) (r : Nat) (es : Array MapEntry) (ps : List (ByteArray × Tr d)) (keys : List ByteArray) (xs : List (Tr d)) : Prop where
  len : xs.length ≤ 1000
  good : keysB keys = true
  same : keys.length = xs.length
  perm : ps.Perm (keys.zip xs)
  own : S r
  obj : w.heap[r]? = some (.map es ps.length)
  ent : MapG (TreeG S w d) es ps

/-- What partsByKeys is asked to give. -/
def MapQ (d : Nat) (t : Tr (d + 1)) (s : ByteArray) (w : World) (e : Ending) (w' : World) : Prop :=
  Below w.heap.size w w' ∧ ((∃ keys xs r es ps, mapL d t s = some (keys, xs) ∧ e = .returned (.tuple #[.map (some r), .nilIface]) ∧ MapAt (Fresh w w') w' r es ps keys xs) ∨ (mapL d t s = none ∧ ∃ why, e = .returned (.tuple #[.map none, faultV why])))

set_option maxRecDepth 100000 in
set_option maxHeartbeats 4000000 in
theorem partsByKeys_any (d : Nat) (S : Nat → Prop) (t : Tr (d + 1)) (v : Value) (s : ByteArray) (hs : s.size < 281474976710656) (w : World) (hv : ValAt S w (d + 1) t v) (hS : Within S w) :
    Calls Tryz.prog 120 #[v, .string s] w (MapQ d t s w) := by
  obtain ⟨k, n, z, ak, lk, ck, al, ll, cl, rfl⟩ := hv.shape
  have hA := below_alloc1 w (.cells #[.int .i64 k, .int .i64 n, .string z, .slice ak lk ck, .slice al ll cl] 26)
  have hAs := hA.size
  go_enter Tryz.func120, Tryz.ntmps120
  go_wp2_with fail
  refine (given_any (d + 1) S t _ _ (hv.same (hS.same hA)) (hS.later hA.size)).mono ?_
  rintro e w1 ⟨hb1, hq⟩
  have hB := below_trans hA hb1
  clear hb1 hA hv
  rcases hq with ⟨hok, u, rfl, hu⟩ | ⟨hok, why, rfl⟩
  · obtain ⟨T, u', rfl⟩ := hu.iface
    go_wp2_with fail
    refine (textOk_any s w1 hs).mono ?_
    rintro e w2 ⟨rfl, hb2⟩
    have hB2 := below_trans hB hb2
    have hsz := hb2.size
    have hu2 := hu.moved ((Fresh.within (w.alloc (.cells #[.int .i64 k, .int .i64 n, .string z, .slice ak lk ck, .slice al ll cl] 26)) w1).same hb2) (S' := Fresh w w2) (fun b hb => ⟨by have := hb.1; omega, by have := hb.2; omega⟩)
    clear hu hb2 hB
    cases hstr : strOk s with
    | false =>
      have HB := hide hB2
      clear hu2 hB2
      go_wp2_with fail
      go_ret2
      exact ⟨HB.out, Or.inr ⟨mapL_no (Or.inr hstr), _, rfl⟩⟩
    | true =>
      rcases hu2 with ⟨k', h1, rfl, hT⟩ | ⟨n', h1, rfl, hT⟩ | ⟨s', h1, rfl, hT⟩ | ⟨xs, sv, h1, rfl, hT, hr⟩ | ⟨keys, xs, ps, r, es, h1, h2, h3, h4, rfl, hT, hr, hm, he⟩
      · cases hT
        have a3 := Tryz.asM_B
        go_wp2_with fail
        refine (isNothing_bare k' w2).mono ?_
        rintro e w3 ⟨rfl, hb3⟩
        have hB3 := below_trans hB2 hb3
        clear hb3 hB2
        by_cases hk0 : k' = 0
        · have hkb : (k' == 0) = true := by simpa using hk0
          have hq : Hid (mapL d (Nd.mk k' 0 ByteArray.empty [] [] : Nd (Tr d)) s = some ([], [])) := by
            refine (mapL_ok hok hstr).trans ?_
            show (if k' = 0 then _ else _) = _
            rw [if_pos hk0]
          have hA4 := below_alloc1 w3 (.map #[] 0)
          have HB := hide (below_trans hB3 hA4)
          have HM : Hid (MapAt (d := d) (Fresh w (w3.alloc (.map #[] 0))) (w3.alloc (.map #[] 0)) w3.heap.size #[] [] [] []) := ⟨by show (0 : Nat) ≤ 1000; omega, rfl, rfl, List.Perm.nil, ⟨hB3.size, by simp⟩, heap_alloc_new _ _, rfl, fun i k x h => by simp at h⟩
          have hmk := fun w => run_makeMap (P := Tryz.prog) 123 w
          clear hk0 hB3 hA4
          go_wp2_with fail
          go_ret2
          exact ⟨HB.out, Or.inl ⟨[], [], _, _, _, hq.out, rfl, HM.out⟩⟩
        · have hkb : (k' == 0) = false := by simpa using hk0
          have hq : Hid (mapL d (Nd.mk k' 0 ByteArray.empty [] [] : Nd (Tr d)) s = none) := by
            refine (mapL_ok hok hstr).trans ?_
            show (if k' = 0 then _ else if k' = 6 then _ else _) = _
            rw [if_neg hk0, if_neg (by omega)]
          have HB := hide hB3
          clear hk0 hB3
          go_wp2_with fail
          go_ret2
          exact ⟨below_trans HB.out (below_alloc1 _ _), Or.inr ⟨hq.out, _, rfl⟩⟩
      · cases hT
        have a3 := Tryz.asM_N
        have hq : Hid (mapL d (Nd.mk 3 n' ByteArray.empty [] [] : Nd (Tr d)) s = none) := by
          exact (mapL_ok hok hstr).trans rfl
        go_wp2_with fail
        refine (isNothing_num _ w2).mono ?_
        rintro e w3 ⟨rfl, hb3⟩
        have HB := hide (below_trans hB2 hb3)
        clear hb3 hB2
        go_wp2_with fail
        go_ret2
        exact ⟨below_trans HB.out (below_alloc1 _ _), Or.inr ⟨hq.out, _, rfl⟩⟩
      · cases hT
        have a3 := Tryz.asM_S
        have hq : Hid (mapL d (Nd.mk 4 0 s' [] [] : Nd (Tr d)) s = none) := by
          exact (mapL_ok hok hstr).trans rfl
        go_wp2_with fail
        refine (isNothing_str _ w2).mono ?_
        rintro e w3 ⟨rfl, hb3⟩
        have HB := hide (below_trans hB2 hb3)
        clear hb3 hB2
        go_wp2_with fail
        go_ret2
        exact ⟨below_trans HB.out (below_alloc1 _ _), Or.inr ⟨hq.out, _, rfl⟩⟩
      · cases hT
        have a3 := Tryz.asM_R
        have hq : Hid (mapL d (Nd.mk 5 0 ByteArray.empty [] xs : Nd (Tr d)) s = none) := by
          exact (mapL_ok hok hstr).trans rfl
        go_wp2_with fail
        refine (isNothing_row _ w2).mono ?_
        rintro e w3 ⟨rfl, hb3⟩
        have HB := hide (below_trans hB2 hb3)
        clear hb3 hB2
        go_wp2_with fail
        go_ret2
        exact ⟨below_trans HB.out (below_alloc1 _ _), Or.inr ⟨hq.out, _, rfl⟩⟩
      · cases hT
        have a3 := Tryz.asM_M
        have hq : Hid (mapL d (Nd.mk 6 0 ByteArray.empty keys xs : Nd (Tr d)) s = some (keys, xs)) := by
          exact (mapL_ok hok hstr).trans rfl
        go_wp2_with fail
        refine (isNothing_map _ w2).mono ?_
        rintro e w3 ⟨rfl, hb3⟩
        have hA3 := below_alloc1 w3 (.cells #[.map (some r)] 125)
        have hb4 := below_trans hb3 hA3
        have HB := hide (below_trans hB2 hb4)
        have hmv := (Fresh.within w w2).same hb4
        have hsz4 := hb4.size
        have hfr : ∀ b, Fresh w w2 b → Fresh w (w3.alloc (.cells #[.map (some r)] 125)) b := fun b hb => ⟨hb.1, by have := hb.2; omega⟩
        have HM : Hid (MapAt (Fresh w (w3.alloc (.cells #[.map (some r)] 125))) (w3.alloc (.cells #[.map (some r)] 125)) r es ps keys xs) := ⟨h1, h2, h3, h4, hfr r hr, (hmv r hr).trans hm, he.moved (fun x u hx => TreeG.moved hmv hfr d x u hx)⟩
        clear hb3 hB2 hb4 hA3 hmv hfr he hm hr h4 h3 h2
        go_wp2_with fail
        go_ret2
        exact ⟨HB.out, Or.inl ⟨keys, xs, r, es, ps, hq.out, rfl, HM.out⟩⟩
  · unfold faultV
    go_wp2_with fail
    go_ret2
    exact ⟨hB, Or.inr ⟨mapL_no (Or.inl hok), why, rfl⟩⟩

theorem partGet_some {d : Nat} {t : Tr (d + 2)} {s : ByteArray} {keys : List ByteArray} {xs : List (Tr (d + 1))} (h : mapL (d + 1) t s = some (keys, xs)) : partGetT d t s = ((getL keys xs s).getD (zeroT d), true) ∧ ∀ x ∈ xs, okT (d + 1) x = true := by
  unfold mapL at h
  unfold partGetT
  split at h
  · rename_i hok
    rw [if_pos hok]
    split at h
    · rename_i h0
      rw [if_pos h0]
      cases h
      exact ⟨rfl, fun x hx => by cases hx⟩
    · rename_i h0
      rw [if_neg h0]
      split at h
      · rename_i h5
        rw [if_pos h5]
        cases h
        exact ⟨rfl, fun x hx => okT_part hok.1 hx⟩
      · cases h
  · cases h
theorem partGet_none {d : Nat} {t : Tr (d + 2)} {s : ByteArray} (h : mapL (d + 1) t s = none) : partGetT d t s = (zeroT d, false) := by
  unfold mapL at h
  unfold partGetT
  split at h
  · rename_i hok
    rw [if_pos hok]
    split at h
    · cases h
    · rename_i h0
      rw [if_neg h0]
      split at h
      · cases h
      · rename_i h5
        rw [if_neg h5]
  · rename_i hok
    rw [if_neg hok]
end Go.Proofs.YtoangpfmjohhmaaGreatDoor
