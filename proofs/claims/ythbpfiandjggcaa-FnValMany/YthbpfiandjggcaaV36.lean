/- Texts of the proof, put together by program: LValMany, LFnMany0. -/
import Derived.Test.YthbpfiandjggcaaV33
import Derived.Test.YthbpfiandjggcaaV5
import Derived.Test.YthbpfiandjggcaaV35
import Derived.Test.YthbpfiandjggcaaV10
import Derived.Deep.RegionHeld
import Derived.Test.YthbpfiandjggcaaV31
import Derived.Test.YthbpfiandjggcaaV15
import Derived.Test.YthbpfiandjggcaaV16
/- FnExactValMany: for every tree that lies in memory the law answers true. -/
namespace Go.Proofs.Ythbpfiandjggcaa
open Go.RowKit Go.Deep

theorem many_any : ∀ (d : Nat), ManyC d
  | 0 => fun _ _ _ _ h => h.elim
  | d + 1 => by
    intro S t u w hu hS hsm
    have ih := many_any d
    obtain ⟨kind, num, str, keys, list⟩ := t
    have hc : cntT (d + 1) (Nd.mk kind num str keys list) = 1 + (if kind = 5 ∨ kind = 6 then (list.map (cntT d)).sum else 0) := rfl
    rw [hc] at hsm ⊢
    rcases hu with ⟨hk, rfl⟩ | ⟨hk, rfl⟩ | ⟨hk, rfl⟩ | ⟨hk, sv, rfl, hr⟩ | ⟨hk, r, es, rfl, hr, hm, he⟩
    · rw [if_neg (by have : kind = 0 ∨ kind = 1 ∨ kind = 2 := hk; omega)]
      exact ⟨_, Or.inl ⟨rfl, bareMany_any _ w⟩⟩
    · rw [if_neg (by have : kind = 3 := hk; omega)]
      exact ⟨_, Or.inr (Or.inl ⟨rfl, numMany_any _ w⟩)⟩
    · rw [if_neg (by have : kind = 4 := hk; omega)]
      exact ⟨_, Or.inr (Or.inr (Or.inl ⟨rfl, strMany_any _ w⟩))⟩
    · have hk5 : kind = 5 ∨ kind = 6 := Or.inl hk
      rw [if_pos hk5] at hsm ⊢
      exact ⟨_, Or.inr (Or.inr (Or.inr (Or.inl ⟨rfl, rowMany_any d ih S list sv w hr hS hsm⟩)))⟩
    · have hk6 : kind = 5 ∨ kind = 6 := Or.inr hk
      rw [if_pos hk6] at hsm ⊢
      exact ⟨_, Or.inr (Or.inr (Or.inr (Or.inr ⟨rfl, mapMany_any d ih S keys list r es w hr hm he hS hsm⟩)))⟩

theorem cntT_le : ∀ (d : Nat) (t : Tr d), cntT d t ≤ nodes d t
  | 0, _ => Nat.le_refl _
  | d + 1, t => by
    rw [cntT, nodes]
    split
    · have := sum_map_le (cntT d) (nodes d) (cntT_le d) (Nd.list t)
      omega
    · omega
theorem sum_map_congr {α : Type} {f g : α → Nat} : ∀ {xs : List α}, (∀ x ∈ xs, f x = g x) → (xs.map f).sum = (xs.map g).sum
  | [], _ => rfl
  | x :: r, h => by
    simp only [List.map_cons, List.sum_cons]
    rw [h x (by simp), sum_map_congr (fun y hy => h y (by simp [hy]))]
/-- Of a tree of right form the two counts are one. -/
theorem cntT_many : ∀ (d : Nat) (t : Tr d) (deep : Int), formT d t deep = true → cntT d t = manyT d t deep
  | 0, _, _, h => by simp [formT] at h
  | d + 1, t, deep, h => by
    obtain ⟨kind, num, str, keys, list⟩ := t
    have hc : cntT (d + 1) (Nd.mk kind num str keys list) = 1 + (if kind = 5 ∨ kind = 6 then (list.map (cntT d)).sum else 0) := rfl
    have hm : manyT (d + 1) (Nd.mk kind num str keys list) deep = 1 + (if 0 < deep then (list.map (fun x => manyT d x (deep - 1))).sum else 0) := rfl
    cases hb : headBad kind num str keys.length list.length deep with
    | true => rw [formT_bad hb] at h; cases h
    | false =>
      rw [formT_good hb] at h
      have hg := head_good hb
      rw [hc, hm, if_pos (show 0 < deep by omega)]
      by_cases h56 : kind = 5 ∨ kind = 6
      · rw [if_pos h56]
        have hall : list.all (fun x => formT d x (deep - 1)) = true := by
          rcases h56 with rfl | rfl
          · simpa using h
          · simp at h
            simpa using h.2
        congr 1
        refine sum_map_congr (fun x hx => ?_)
        exact cntT_many d x (deep - 1) (List.all_eq_true.1 hall x hx)
      · rw [if_neg h56]
        have : list.length = 0 := by
          by_cases h5 : kind < 5
          · exact hg.2.2.2.2 h5
          · rw [if_neg (by omega), if_neg (by omega), if_neg (by omega), if_neg (by omega), if_neg (by omega)] at h
            cases h
        obtain rfl : list = [] := List.eq_nil_of_length_eq_zero this
        simp

/-- How many parts a tree has that is ok, 0 of one that is not. -/
def manyOk (d : Nat) (t : Tr d) : Nat := if okT d t = true then manyT d t 6 else 0

set_option maxRecDepth 100000 in
set_option maxHeartbeats 2000000 in
theorem specValMany_any (d : Nat) (S : Nat → Prop) (t : Tr d) (v : Value) (w : World) (hv : ValAt S w d t v) (hS : Within S w) (hsm : (nodes d t : Int) ≤ 4194304) :
    Calls Try.prog 14 #[v] w fun e w' => e = .returned (.int .i64 (manyOk d t)) ∧ Below w.heap.size w w' := by
  obtain ⟨k, n, s, ak, lk, ck, al, ll, cl, rfl⟩ := hv.shape
  have hba := below_alloc1 w (.cells #[.int .i64 k, .int .i64 n, .string s, .slice ak lk ck, .slice al ll cl] 26)
  go_enter Try.func14, Try.ntmps14
  go_wp2_with fail
  refine (specValOk_any d S t _ _ (hv.same (hS.same hba)) (hS.later hba.size) hsm).mono ?_
  rintro e w1 ⟨rfl, hb1⟩
  have hb2 := below_trans hba hb1
  have k0 : Blk5 w1 w.heap.size 26 (.int .i64 k) (.int .i64 n) (.string s) (.slice ak lk ck) (.slice al ll cl) := (Blk5.new w _ _ _ _ _ _).below hb1
  obtain ⟨x0, x1, x2, x3, x4⟩ := k0.cell
  clear k0 hb1 hba
  cases hf : okT d t with
  | false =>
    have hfin : Hid (manyOk d t = 0) := by
      show manyOk d t = 0
      rw [manyOk, hf]
      rfl
    go_wp2_with fail
    go_ret
    rw [hfin.out]
    exact ⟨rfl, hb2⟩
  | true =>
    have hfin : Hid (manyOk d t = manyT d t 6) := by
      show manyOk d t = _
      rw [manyOk, hf]
      rfl
    go_wp2_with fail
    refine (l1Many_any d S t _ 6 _ (hv.same (hS.same hb2)) (hS.later hb2.size) (by omega) (by omega) hsm).mono ?_
    rintro e w3 ⟨rfl, hb3⟩
    have hb4 := below_trans hb2 hb3
    clear hb3 hb2 x0 x1 x2 x3 x4 hv
    go_wp2_with fail
    go_ret
    rw [hfin.out]
    exact ⟨rfl, hb4⟩

set_option maxRecDepth 100000 in
set_option maxHeartbeats 2000000 in
theorem implValMany_any (d : Nat) (S : Nat → Prop) (t : Tr d) (v : Value) (w : World) (hv : ValAt S w d t v) (hS : Within S w) (hsm : (nodes d t : Int) ≤ 4194304) :
    Calls Try.prog 13 #[v] w fun e w' => e = .returned (.int .i64 (manyOk d t)) ∧ Below w.heap.size w w' := by
  obtain ⟨k, n, s, ak, lk, ck, al, ll, cl, rfl⟩ := hv.shape
  have hA := below_alloc1 w (.cells #[.int .i64 k, .int .i64 n, .string s, .slice ak lk ck, .slice al ll cl] 26)
  have hle := cntT_le d t
  go_enter Try.func13, Try.ntmps13
  go_wp2_with fail
  refine (treeOf_any d S t _ _ (hv.same (hS.same hA)) (hS.later hA.size)).mono ?_
  rintro e w1 ⟨u, rfl, hu, hb1⟩
  rw [treeP_okT] at hu ⊢
  have HB : Hid (Below w.heap.size w w1) := below_trans hA hb1
  cases hf : okT d t with
  | false =>
    have hfin : Hid (manyOk d t = 0) := by
      show manyOk d t = 0
      rw [manyOk, hf]
      rfl
    clear hu hb1 hA hv
    go_wp2_with fail
    go_ret
    rw [hfin.out]
    exact ⟨rfl, HB.out⟩
  | true =>
    have hform : formT d t 6 = true := by
      unfold okT at hf
      simp only [Bool.and_eq_true] at hf
      exact hf.1
    have hfin : Hid (manyOk d t = cntT d t) := by
      show manyOk d t = _
      rw [manyOk, hf, cntT_many d t 6 hform]
      rfl
    obtain ⟨v', hm⟩ := many_any d _ t u w1 (hu hf) (Fresh.within _ _) (by omega)
    clear hu hb1 hA hv hform
    rcases hm with ⟨rfl, hcall⟩ | ⟨rfl, hcall⟩ | ⟨rfl, hcall⟩ | ⟨rfl, hcall⟩ | ⟨rfl, hcall⟩
    all_goals
      have HC : Hid _ := hcall
      clear hcall
      go_wp2_with fail
      refine Calls.mono (R := ManyQ (cntT d t) w1) HC.out ?_
      rintro e w2 ⟨rfl, hb2⟩
      have HB2 : Hid (Below w.heap.size w w2) := below_trans HB.out hb2
      clear hb2 HC
      go_wp2_with fail
      go_ret
      rw [hfin.out]
      exact ⟨rfl, HB2.out⟩

end Go.Proofs.Ythbpfiandjggcaa

/- FnValMany: how many parts there are. -/
namespace Go.Proofs.Ythbpfiandjggcaa
open Go.RowKit Go.Deep

theorem okT_split {d : Nat} {t : Tr d} : okT d t = true ↔ formT d t 6 = true ∧ manyT d t 6 ≤ 60 := by
  unfold okT
  rw [Bool.and_eq_true, decide_eq_true_eq]
theorem many_pos {d : Nat} {t : Tr (d + 1)} (h : okT (d + 1) t = true) : 1 ≤ manyOk (d + 1) t ∧ manyOk (d + 1) t ≤ 60 := by
  have h2 := (okT_split.1 h).2
  unfold manyOk
  rw [if_pos h]
  exact ⟨by rw [manyT]; omega, h2⟩
theorem many_no {d : Nat} {t : Tr d} (h : okT d t = false) : manyOk d t = 0 := by
  unfold manyOk
  rw [if_neg (by rw [h]; simp)]
theorem form_parts {d : Nat} {t : Tr (d + 1)} (h : formT (d + 1) t 6 = true) : ∀ x ∈ Nd.list t, formT d x 5 = true := by
  obtain ⟨kind, num, str, keys, list⟩ := t
  intro x hx
  have hx : x ∈ list := hx
  cases hb : headBad kind num str keys.length list.length 6 with
  | true => rw [formT_bad hb] at h; cases h
  | false =>
    rw [formT_good hb] at h
    have hg := head_good hb
    by_cases h56 : kind = 5 ∨ kind = 6
    · have hall : list.all (fun x => formT d x 5) = true := by
        rcases h56 with rfl | rfl
        · simpa using h
        · simp at h
          simpa using h.2
      exact List.all_eq_true.1 hall x hx
    · have : list.length = 0 := by
        by_cases h5 : kind < 5
        · exact hg.2.2.2.2 h5
        · rw [if_neg (by omega), if_neg (by omega), if_neg (by omega), if_neg (by omega), if_neg (by omega)] at h
          cases h
      rw [List.eq_nil_of_length_eq_zero this] at hx
      cases hx
theorem many_part {d : Nat} {t : Tr (d + 1)} {x : Tr d} (h : okT (d + 1) t = true) (hx : x ∈ Nd.list t) : manyOk d x = manyT d x 5 := by
  have h1 := form_parts (okT_split.1 h).1 x hx
  unfold manyOk
  rw [if_pos (okT_part h hx)]
  exact (formT_up d x 5 h1).2
theorem many_parts {d : Nat} {t : Tr (d + 1)} (h : okT (d + 1) t = true) : manyOk (d + 1) t = 1 + ((Nd.list t).map (manyOk d)).sum := by
  have e : (Nd.list t).map (manyOk d) = (Nd.list t).map (fun x => manyT d x 5) := List.map_congr_left (fun x hx => many_part h hx)
  rw [e]
  unfold manyOk
  rw [if_pos h]
  rfl
end Go.Proofs.Ythbpfiandjggcaa
