/- FnExactValMany: for every tree that lies in memory the law answers true. -/
import Derived.Test.YtdmlpbkiomgloaaWManyM
import Derived.Test.YtdmlpbkiomgloaaPureOk
import Derived.Deep.RegionHeld
namespace Go.Proofs.Ytdmlpbkiomgloaa
open Go.RowKit Go.Deep

theorem many_any : ∀ (d : Nat), ManyC d
  | 0 => fun _ _ _ _ h => h.elim
  | d + 1 => by
    intro S t u w hu hS hsm
    have ih := many_any d
    obtain ⟨kind, num, str, keys, list⟩ := t
    have hc : cntT (d + 1) (Nd.mk kind num str keys list) = 1 + (if kind = 5 ∨ kind = 6 then (list.map (cntT d)).sum else 0) := rfl
    rw [hc] at hsm ⊢
    rcases hu with ⟨hk, rfl⟩ | ⟨hk, rfl⟩ | ⟨hk, rfl⟩ | ⟨hk, sv, rfl, hr⟩ | ⟨hk, r, es, rfl, hr, hm, he⟩
    · rw [if_neg (by have : kind = 0 ∨ kind = 1 ∨ kind = 2 := hk; omega)]
      exact ⟨_, Or.inl ⟨rfl, bareMany_any _ w⟩⟩
    · rw [if_neg (by have : kind = 3 := hk; omega)]
      exact ⟨_, Or.inr (Or.inl ⟨rfl, numMany_any _ w⟩)⟩
    · rw [if_neg (by have : kind = 4 := hk; omega)]
      exact ⟨_, Or.inr (Or.inr (Or.inl ⟨rfl, strMany_any _ w⟩))⟩
    · have hk5 : kind = 5 ∨ kind = 6 := Or.inl hk
      rw [if_pos hk5] at hsm ⊢
      exact ⟨_, Or.inr (Or.inr (Or.inr (Or.inl ⟨rfl, rowMany_any d ih S list sv w hr hS hsm⟩)))⟩
    · have hk6 : kind = 5 ∨ kind = 6 := Or.inr hk
      rw [if_pos hk6] at hsm ⊢
      exact ⟨_, Or.inr (Or.inr (Or.inr (Or.inr ⟨rfl, mapMany_any d ih S keys list r es w hr hm he hS hsm⟩)))⟩

theorem cntT_le : ∀ (d : Nat) (t : Tr d), cntT d t ≤ nodes d t
  | 0, _ => Nat.le_refl _
  | d + 1, t => by
    rw [cntT, nodes]
    split
    · have := sum_map_le (cntT d) (nodes d) (cntT_le d) (Nd.list t)
      omega
    · omega
theorem sum_map_congr {α : Type} {f g : α → Nat} : ∀ {xs : List α}, (∀ x ∈ xs, f x = g x) → (xs.map f).sum = (xs.map g).sum
  | [], _ => rfl
  | x :: r, h => by
    simp only [List.map_cons, List.sum_cons]
    rw [h x (by simp), sum_map_congr (fun y hy => h y (by simp [hy]))]
/-- Of a tree of right form the two counts are one. -/
theorem cntT_many : ∀ (d : Nat) (t : Tr d) (deep : Int), formT d t deep = true → cntT d t = manyT d t deep
  | 0, _, _, h => by simp [formT] at h
  | d + 1, t, deep, h => by
    obtain ⟨kind, num, str, keys, list⟩ := t
    have hc : cntT (d + 1) (Nd.mk kind num str keys list) = 1 + (if kind = 5 ∨ kind = 6 then (list.map (cntT d)).sum else 0) := rfl
    have hm : manyT (d + 1) (Nd.mk kind num str keys list) deep = 1 + (if 0 < deep then (list.map (fun x => manyT d x (deep - 1))).sum else 0) := rfl
    cases hb : headBad kind num str keys.length list.length deep with
    | true => rw [formT_bad hb] at h; cases h
    | false =>
      rw [formT_good hb] at h
      have hg := head_good hb
      rw [hc, hm, if_pos (show 0 < deep by omega)]
      by_cases h56 : kind = 5 ∨ kind = 6
      · rw [if_pos h56]
        have hall : list.all (fun x => formT d x (deep - 1)) = true := by
          rcases h56 with rfl | rfl
          · simpa using h
          · simp at h
            simpa using h.2
        congr 1
        refine sum_map_congr (fun x hx => ?_)
        exact cntT_many d x (deep - 1) (List.all_eq_true.1 hall x hx)
      · rw [if_neg h56]
        have : list.length = 0 := by
          by_cases h5 : kind < 5
          · exact hg.2.2.2.2 h5
          · rw [if_neg (by omega), if_neg (by omega), if_neg (by omega), if_neg (by omega), if_neg (by omega)] at h
            cases h
        obtain rfl : list = [] := List.eq_nil_of_length_eq_zero this
        simp

/-- How many parts a tree has that is ok, 0 of one that is not. -/
def manyOk (d : Nat) (t : Tr d) : Nat := if okT d t = true then manyT d t 6 else 0

set_option maxRecDepth 100000 in
set_option maxHeartbeats 2000000 in
theorem specValMany_any (d : Nat) (S : Nat → Prop) (t : Tr d) (v : Value) (w : World) (hv : ValAt S w d t v) (hS : Within S w) (hsm : (nodes d t : Int) ≤ 4194304) :
    Calls Try.prog 17 #[v] w fun e w' => e = .returned (.int .i64 (manyOk d t)) ∧ Below w.heap.size w w' := by
  obtain ⟨k, n, s, ak, lk, ck, al, ll, cl, rfl⟩ := hv.shape
  have hba := below_alloc1 w (.cells #[.int .i64 k, .int .i64 n, .string s, .slice ak lk ck, .slice al ll cl] 30)
  go_enter Try.func17, Try.ntmps17
  go_wp2_with fail
  refine (specValOk_any d S t _ _ (hv.same (hS.same hba)) (hS.later hba.size) hsm).mono ?_
  rintro e w1 ⟨rfl, hb1⟩
  have hb2 := below_trans hba hb1
  have k0 : Blk5 w1 w.heap.size 30 (.int .i64 k) (.int .i64 n) (.string s) (.slice ak lk ck) (.slice al ll cl) := (Blk5.new w _ _ _ _ _ _).below hb1
  obtain ⟨x0, x1, x2, x3, x4⟩ := k0.cell
  clear k0 hb1 hba
  cases hf : okT d t with
  | false =>
    have hfin : Hid (manyOk d t = 0) := by
      show manyOk d t = 0
      rw [manyOk, hf]
      rfl
    go_wp2_with fail
    go_ret
    rw [hfin.out]
    exact ⟨rfl, hb2⟩
  | true =>
    have hfin : Hid (manyOk d t = manyT d t 6) := by
      show manyOk d t = _
      rw [manyOk, hf]
      rfl
    go_wp2_with fail
    refine (l1Many_any d S t _ 6 _ (hv.same (hS.same hb2)) (hS.later hb2.size) (by omega) (by omega) hsm).mono ?_
    rintro e w3 ⟨rfl, hb3⟩
    have hb4 := below_trans hb2 hb3
    clear hb3 hb2 x0 x1 x2 x3 x4 hv
    go_wp2_with fail
    go_ret
    rw [hfin.out]
    exact ⟨rfl, hb4⟩

set_option maxRecDepth 100000 in
set_option maxHeartbeats 2000000 in
theorem implValMany_any (d : Nat) (S : Nat → Prop) (t : Tr d) (v : Value) (w : World) (hv : ValAt S w d t v) (hS : Within S w) (hsm : (nodes d t : Int) ≤ 4194304) :
    Calls Try.prog 18 #[v] w fun e w' => e = .returned (.int .i64 (manyOk d t)) ∧ Below w.heap.size w w' := by
  obtain ⟨k, n, s, ak, lk, ck, al, ll, cl, rfl⟩ := hv.shape
  have hA := below_alloc1 w (.cells #[.int .i64 k, .int .i64 n, .string s, .slice ak lk ck, .slice al ll cl] 30)
  have hle := cntT_le d t
  go_enter Try.func18, Try.ntmps18
  go_wp2_with fail
  refine (treeOf_any d S t _ _ (hv.same (hS.same hA)) (hS.later hA.size)).mono ?_
  rintro e w1 ⟨u, rfl, hu, hb1⟩
  rw [treeP_okT] at hu ⊢
  have HB : Hid (Below w.heap.size w w1) := below_trans hA hb1
  cases hf : okT d t with
  | false =>
    have hfin : Hid (manyOk d t = 0) := by
      show manyOk d t = 0
      rw [manyOk, hf]
      rfl
    clear hu hb1 hA hv
    go_wp2_with fail
    go_ret
    rw [hfin.out]
    exact ⟨rfl, HB.out⟩
  | true =>
    have hform : formT d t 6 = true := by
      unfold okT at hf
      simp only [Bool.and_eq_true] at hf
      exact hf.1
    have hfin : Hid (manyOk d t = cntT d t) := by
      show manyOk d t = _
      rw [manyOk, hf, cntT_many d t 6 hform]
      rfl
    obtain ⟨v', hm⟩ := many_any d _ t u w1 (hu hf) (Fresh.within _ _) (by omega)
    clear hu hb1 hA hv hform
    rcases hm with ⟨rfl, hcall⟩ | ⟨rfl, hcall⟩ | ⟨rfl, hcall⟩ | ⟨rfl, hcall⟩ | ⟨rfl, hcall⟩
    all_goals
      have HC : Hid _ := hcall
      clear hcall
      go_wp2_with fail
      refine Calls.mono (R := ManyQ (cntT d t) w1) HC.out ?_
      rintro e w2 ⟨rfl, hb2⟩
      have HB2 : Hid (Below w.heap.size w w2) := below_trans HB.out hb2
      clear hb2 HC
      go_wp2_with fail
      go_ret
      rw [hfin.out]
      exact ⟨rfl, HB2.out⟩

set_option maxRecDepth 100000 in
set_option maxHeartbeats 4000000 in
theorem lawValMany (d : Nat) (S : Nat → Prop) (t : Tr d) (v : Value) (w : World) (hv : ValAt S w d t v) (hS : Within S w) :
    Calls Try.prog 6 #[v] w fun e w' => e = .returned (.bool true) ∧ Below w.heap.size w w' := by
  obtain ⟨k, n, s, ak, lk, ck, al, ll, cl, rfl⟩ := hv.shape
  have hA := below_alloc1 w (.cells #[.int .i64 k, .int .i64 n, .string s, .slice ak lk ck, .slice al ll cl] 25)
  have k0 := Blk5.new w 25 (.int .i64 k) (.int .i64 n) (.string s) (.slice ak lk ck) (.slice al ll cl)
  go_enter Try.func6, Try.ntmps6
  go_wp2_with fail
  refine (szVal_any d S t _ 1048576 _ (hv.same (hS.same hA)) (hS.later hA.size) (by omega) (by omega)).mono ?_
  rintro e w1 ⟨rfl, hb1⟩
  replace k0 := k0.below hb1
  have hB1 := below_trans hA hb1
  clear hb1 hA
  by_cases hneg : szT d t 1048576 < 0
  · clear k0
    go_wp2_with fail
    go_ret
    exact ⟨rfl, hB1⟩
  have hnodes := szT_nodes d t 1048576 (by omega) (by omega)
  obtain ⟨x0, x1, x2, x3, x4⟩ := k0.cell
  go_wp2_with fail
  refine (toVal_any d S t _ _ (hv.same (hS.same hB1)) (hS.later hB1.size)).mono ?_
  rintro e w2 ⟨u2, rfl, hu2, hb2⟩
  replace k0 := k0.below hb2
  have hB2 := below_trans hB1 hb2
  clear hb2 hB1 x0 x1 x2 x3 x4
  go_wp2_with fail
  refine (specValMany_any d _ t _ _ hu2 (Fresh.within _ _) (by omega)).mono ?_
  rintro e w3 ⟨rfl, hb3⟩
  replace k0 := k0.below hb3
  have hB3 := below_trans hB2 hb3
  clear hb3 hB2 hu2
  obtain ⟨x0, x1, x2, x3, x4⟩ := k0.cell
  go_wp2_with fail
  refine (toVal_any d S t _ _ (hv.same (hS.same hB3)) (hS.later hB3.size)).mono ?_
  rintro e w4 ⟨u4, rfl, hu4, hb4⟩
  replace k0 := k0.below hb4
  have hB4 := below_trans hB3 hb4
  clear hb4 hB3 x0 x1 x2 x3 x4
  obtain ⟨k', n', s', ak', lk', ck', al', ll', cl', rfl⟩ := hu4.shape
  have hA5 := below_alloc1 w4 (.cells #[.int .i64 k', .int .i64 n', .string s', .slice ak' lk' ck', .slice al' ll' cl'] 30)
  have m0 := Blk5.new w4 30 (.int .i64 k') (.int .i64 n') (.string s') (.slice ak' lk' ck') (.slice al' ll' cl')
  replace k0 := k0.below hA5
  have hB5 := below_trans hB4 hA5
  have hW4 := Fresh.within w3 w4
  have hu5 := hu4.same (hW4.same hA5)
  have hW5 := hW4.later hA5.size
  clear hA5 hB4 hu4 hW4
  go_wp2_with fail
  refine (implValMany_any d _ t _ _ hu5 hW5 (by omega)).mono ?_
  rintro e w6 ⟨rfl, hb6⟩
  replace k0 := k0.below hb6
  replace m0 := m0.below hb6
  have hB6 := below_trans hB5 hb6
  have hu6 := hu5.same (hW5.same hb6)
  have hW6 := hW5.later hb6.size
  clear hb6 hu5 hW5 hB5
  obtain ⟨x0, x1, x2, x3, x4⟩ := k0.cell
  obtain ⟨y0, y1, y2, y3, y4⟩ := m0.cell
  have hNN := k0.lt
  have hMM := m0.lt
  have hv6 := hv.same (hS.same hB6)
  have hS6 := hS.later hB6.size
  go_wp2_with fail
  go_region_held (fun w' => (w'.cell? ⟨w.heap.size, 0, none⟩ = some (.int .i64 k) ∧ w'.cell? ⟨w.heap.size, 1, none⟩ = some (.int .i64 n) ∧ w'.cell? ⟨w.heap.size, 2, none⟩ = some (.string s) ∧ w'.cell? ⟨w.heap.size, 3, none⟩ = some (.slice ak lk ck) ∧ w'.cell? ⟨w.heap.size, 4, none⟩ = some (.slice al ll cl)) ∧
      w'.cell? ⟨w4.heap.size, 0, none⟩ = some (.int .i64 k') ∧ w'.cell? ⟨w4.heap.size, 1, none⟩ = some (.int .i64 n') ∧ w'.cell? ⟨w4.heap.size, 2, none⟩ = some (.string s') ∧ w'.cell? ⟨w4.heap.size, 3, none⟩ = some (.slice ak' lk' ck') ∧ w'.cell? ⟨w4.heap.size, 4, none⟩ = some (.slice al' ll' cl'))
    (first | go_keep | exact ⟨k7.cell, m7.cell⟩ | exact ⟨k8.cell, m8.cell⟩)
    (first
      | (go_at_call 10; refine (toVal_any d S t _ _ ?_ ?_).mono ?_; exact hv6.same (fun _ _ => rfl); exact hS6; rintro e w7 ⟨u7, rfl, hu7, hb7⟩; have k7 := k0.of_block (hb7.block _ hNN); have m7 := m0.of_block (hb7.block _ hMM))
      | (go_at_call 12; refine (eqVal_any d (Fresh w3 w4) (Fresh w6.drew w7) t t _ _ _ ?_ ?_ ?_ ?_).mono ?_; exact hu6.same (fun b hb => hb7.block b (hW6 b hb)); exact hu7; exact hW6.later hb7.size; exact Fresh.within _ _; rintro e w8 ⟨rfl, hb8⟩; have k8 := k7.of_block (hb8.block _ k7.lt); have m8 := m7.of_block (hb8.block _ m7.lt)))
  rw [eqT_refl]
  have hB7 : Below w6.heap.size w6 w7 := ⟨hb7.os, hb7.tape, hb7.output, hb7.size, hb7.block⟩
  have HB : Hid (Below w.heap.size w w8) := below_trans (below_trans hB6 hB7) hb8
  clear hb7 hb8 k7 m7 k8 m8 hu7 hu6 hv6 hB6 hB7 hv x0 x1 x2 x3 x4 y0 y1 y2 y3 y4
  go_wp2_with fail
  go_ret
  exact ⟨rfl, HB.out⟩
end Go.Proofs.Ytdmlpbkiomgloaa
