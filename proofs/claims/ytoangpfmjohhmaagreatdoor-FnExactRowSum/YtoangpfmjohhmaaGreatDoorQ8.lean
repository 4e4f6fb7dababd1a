/- Texts of the proof, put together by program: WPutP, WAt, WTopR, WSetP, PPart, PSet. -/
import Derived.Test.YtoangpfmjohhmaaGreatDoorQ7
import Derived.Test.YtoangpfmjohhmaaGreatDoorQ6
/- A tree put at a key of a map. -/
namespace Go.Proofs.YtoangpfmjohhmaaGreatDoor
open Go.RowKit Go.Deep

/-- What PartPut tells. -/
def partPutT (d : Nat) (t : Tr (d + 2)) (s : ByteArray) (x : Tr (d + 1)) : Tr (d + 2) × Bool :=
  match mapL (d + 1) t s with
  | none => (zeroT (d + 1), false)
  | some (keys, xs) =>
    if okT (d + 1) x = true then (toldT (d + 1) (mapT (d + 1) (putL keys xs s x)), okT (d + 2) (mapT (d + 1) (putL keys xs s x)))
    else (zeroT (d + 1), false)
theorem okT_partPut (d : Nat) (t : Tr (d + 2)) (s : ByteArray) (x : Tr (d + 1)) : okT (d + 2) (partPutT d t s x).1 = true := by
  unfold partPutT
  split
  · exact okT_zero _
  · split
    · exact okT_told _ _
    · exact okT_zero _
end Go.Proofs.YtoangpfmjohhmaaGreatDoor

/- PartAt of the program. -/
namespace Go.Proofs.YtoangpfmjohhmaaGreatDoor
open Go.RowKit Go.Deep

theorem fromStart_any (i : Int) (n : Nat) (hi : I64 i) (hn : n ≤ 60) (w : World) : Calls Tryz.prog 123 #[.int .i64 i, .int .i64 n] w fun e w' => e = .returned (.int .i64 (if i < 0 then i + n else i)) ∧ w' = w := by
  obtain ⟨hi1, hi2⟩ := hi
  by_cases h3 : i < 0
  · have hm : Hid ((if i < 0 then i + (n : Int) else i) = i + n) := if_pos h3
    go_enter Tryz.func123, Tryz.ntmps123
    go_wp2_with fail
    go_ret
    exact ⟨rfl, rfl⟩
  · have hm : Hid ((if i < 0 then i + (n : Int) else i) = i) := if_neg h3
    go_enter Tryz.func123, Tryz.ntmps123
    go_wp2_with fail
    go_ret
    exact ⟨rfl, rfl⟩

/-- The list of a tree of which a place may be asked. -/
def rowL (d : Nat) (t : Tr (d + 1)) : Option (List (Tr d)) := if okT (d + 1) t = true then (if Nd.kind t = 0 then some [] else if Nd.kind t = 5 then some (Nd.list t) else none) else none

theorem rowL_ok {d : Nat} {t : Tr (d + 1)} (h : okT (d + 1) t = true) : rowL d t = (if Nd.kind t = 0 then some [] else if Nd.kind t = 5 then some (Nd.list t) else none) := if_pos h
/-- What partsInRow is asked to give. -/
def RowQ (d : Nat) (t : Tr (d + 1)) (w : World) (e : Ending) (w' : World) : Prop :=
  Below w.heap.size w w' ∧ ((∃ xs a cap, rowL d t = some xs ∧ e = .returned (.tuple #[.slice a xs.length cap, .nilIface]) ∧ Row1At (Fresh w w') w' (TreeG (Fresh w w') w' d) (.slice a xs.length cap) xs) ∨ (rowL d t = none ∧ ∃ why, e = .returned (.tuple #[.slice none 0 0, faultV why])))

set_option maxRecDepth 100000 in
set_option maxHeartbeats 4000000 in
theorem partsInRow_any (d : Nat) (S : Nat → Prop) (t : Tr (d + 1)) (v : Value) (w : World) (hv : ValAt S w (d + 1) t v) (hS : Within S w) :
    Calls Tryz.prog 121 #[v] w (RowQ d t w) := by
  obtain ⟨k, n, s, ak, lk, ck, al, ll, cl, rfl⟩ := hv.shape
  have hA := below_alloc1 w (.cells #[.int .i64 k, .int .i64 n, .string s, .slice ak lk ck, .slice al ll cl] 26)
  have hAs := hA.size
  go_enter Tryz.func121, Tryz.ntmps121
  go_wp2_with fail
  refine (given_any (d + 1) S t _ _ (hv.same (hS.same hA)) (hS.later hA.size)).mono ?_
  rintro e w1 ⟨hb1, hq⟩
  have hB := below_trans hA hb1
  clear hb1 hA hv
  rcases hq with ⟨hok, u, rfl, hu⟩ | ⟨hok, why, rfl⟩
  · rcases hu with ⟨k', h1, rfl, rfl⟩ | ⟨n', h1, rfl, rfl⟩ | ⟨s', h1, rfl, rfl⟩ | ⟨xs, sv, h1, rfl, rfl, hr⟩ | ⟨keys, xs, ps, r, es, h1, h2, h3, h4, rfl, rfl, hr, hm, he⟩
    · have a3 := Tryz.asR_B
      go_wp2_with fail
      refine (isNothing_bare k' w1).mono ?_
      rintro e w2 ⟨rfl, hb2⟩
      have HB2 := hide (below_trans hB hb2)
      clear hb2 hB
      by_cases hk0 : k' = 0
      · have hkb : (k' == 0) = true := by simpa using hk0
        have hq : Hid (rowL d (Nd.mk k' 0 ByteArray.empty [] [] : Nd (Tr d)) = some []) := by
          refine (rowL_ok hok).trans ?_
          show (if k' = 0 then _ else _) = _
          rw [if_pos hk0]
        clear hk0
        go_wp2_with fail
        go_ret2
        exact ⟨HB2.out, Or.inl ⟨[], none, 0, hq.out, rfl, ⟨by show (0 : Nat) < 17592186044416; omega, none, 0, rfl, Or.inl rfl⟩⟩⟩
      · have hkb : (k' == 0) = false := by simpa using hk0
        have hq : Hid (rowL d (Nd.mk k' 0 ByteArray.empty [] [] : Nd (Tr d)) = none) := by
          refine (rowL_ok hok).trans ?_
          show (if k' = 0 then _ else if k' = 5 then _ else _) = _
          rw [if_neg hk0, if_neg (by omega)]
        clear hk0
        go_wp2_with fail
        go_ret2
        exact ⟨below_trans HB2.out (below_alloc1 _ _), Or.inr ⟨hq.out, _, rfl⟩⟩
    · have a3 := Tryz.asR_N
      have hq : Hid (rowL d (Nd.mk 3 n' ByteArray.empty [] [] : Nd (Tr d)) = none) := by
        exact (rowL_ok hok).trans rfl
      go_wp2_with fail
      refine (isNothing_num _ w1).mono ?_
      rintro e w2 ⟨rfl, hb2⟩
      have HB2 := hide (below_trans hB hb2)
      clear hb2 hB
      go_wp2_with fail
      go_ret2
      exact ⟨below_trans HB2.out (below_alloc1 _ _), Or.inr ⟨hq.out, _, rfl⟩⟩
    · have a3 := Tryz.asR_S
      have hq : Hid (rowL d (Nd.mk 4 0 s' [] [] : Nd (Tr d)) = none) := by
        exact (rowL_ok hok).trans rfl
      go_wp2_with fail
      refine (isNothing_str _ w1).mono ?_
      rintro e w2 ⟨rfl, hb2⟩
      have HB2 := hide (below_trans hB hb2)
      clear hb2 hB
      go_wp2_with fail
      go_ret2
      exact ⟨below_trans HB2.out (below_alloc1 _ _), Or.inr ⟨hq.out, _, rfl⟩⟩
    · have a3 := Tryz.asR_R
      obtain ⟨sa, sc, rfl, _⟩ := hr.open'
      have hq : Hid (rowL d (Nd.mk 5 0 ByteArray.empty [] xs : Nd (Tr d)) = some xs) := by
        exact (rowL_ok hok).trans rfl
      go_wp2_with fail
      refine (isNothing_row _ w1).mono ?_
      rintro e w2 ⟨rfl, hb2⟩
      have hA2 := below_alloc1 w2 (.cells #[.slice sa xs.length sc] 120)
      have hb3 := below_trans hb2 hA2
      have HB2 := hide (below_trans hB hb3)
      have hmv := (Fresh.within (w.alloc (.cells #[.int .i64 k, .int .i64 n, .string s, .slice ak lk ck, .slice al ll cl] 26)) w1).same hb3
      have hsz := hb3.size
      have hfr : ∀ b, Fresh (w.alloc (.cells #[.int .i64 k, .int .i64 n, .string s, .slice ak lk ck, .slice al ll cl] 26)) w1 b → Fresh w (w2.alloc (.cells #[.slice sa xs.length sc] 120)) b := fun b hb => ⟨by have := hb.1; omega, by have := hb.2; omega⟩
      have HR := hide (hr.moved hmv hfr (fun x u hx => TreeG.moved hmv hfr d x u hx))
      clear hb2 hB hb3 hA2 hmv hr hfr
      go_wp2_with fail
      go_ret2
      exact ⟨HB2.out, Or.inl ⟨xs, sa, sc, hq.out, rfl, HR.out⟩⟩
    · have a3 := Tryz.asR_M
      have hq : Hid (rowL d (Nd.mk 6 0 ByteArray.empty keys xs : Nd (Tr d)) = none) := by
        exact (rowL_ok hok).trans rfl
      clear he hm hr h4 h3 h2
      go_wp2_with fail
      refine (isNothing_map _ w1).mono ?_
      rintro e w2 ⟨rfl, hb2⟩
      have HB2 := hide (below_trans hB hb2)
      clear hb2 hB
      go_wp2_with fail
      go_ret2
      exact ⟨below_trans HB2.out (below_alloc1 _ _), Or.inr ⟨hq.out, _, rfl⟩⟩
  · unfold faultV
    go_wp2_with fail
    go_ret2
    refine ⟨hB, Or.inr ⟨?_, why, rfl⟩⟩
    rw [rowL, if_neg (by rw [hok]; simp)]

theorem partAt_some {d : Nat} {t : Tr (d + 2)} {i : Int} {xs : List (Tr (d + 1))} (h : rowL (d + 1) t = some xs) : partAtT d t i = ((placeL xs i).getD (zeroT d), true) ∧ xs.length ≤ 60 ∧ ∀ x ∈ xs, okT (d + 1) x = true := by
  unfold rowL at h
  unfold partAtT
  split at h
  · rename_i hok
    rw [if_pos hok]
    split at h
    · rename_i h0
      rw [if_pos h0]
      cases h
      refine ⟨?_, by show (0 : Nat) ≤ 60; omega, fun x hx => by cases hx⟩
      have : placeL ([] : List (Tr (d + 1))) i = none := by
        unfold placeL
        split <;> simp
      rw [this]
      rfl
    · rename_i h0
      rw [if_neg h0]
      split at h
      · rename_i h5
        rw [if_pos h5]
        cases h
        exact ⟨rfl, (okT_kinds hok).2.1, fun x hx => okT_part hok hx⟩
      · cases h
  · cases h
theorem partAt_none {d : Nat} {t : Tr (d + 2)} {i : Int} (h : rowL (d + 1) t = none) : partAtT d t i = (zeroT d, false) := by
  unfold rowL at h
  unfold partAtT
  split at h
  · rename_i hok
    rw [if_pos hok]
    split at h
    · cases h
    · rename_i h0
      rw [if_neg h0]
      split at h
      · cases h
      · rename_i h5
        rw [if_neg h5]
  · rename_i hok
    rw [if_neg hok]
theorem place_out {α : Type} {xs : List α} {i j : Int} (hj : j = if i < 0 then i + (xs.length : Int) else i) (h : j < 0 ∨ (xs.length : Int) ≤ j) : placeL xs i = none := by
  unfold placeL placeI
  rw [if_pos (c := i < -(xs.length : Int) ∨ (xs.length : Int) ≤ i) (by split at hj <;> omega), if_pos (by omega)]
theorem place_in {α : Type} {xs : List α} {i : Int} {k : Nat} (hj : (k : Int) = if i < 0 then i + (xs.length : Int) else i) (h : k < xs.length) : placeL xs i = xs[k]? := by
  unfold placeL placeI
  rw [if_neg (c := i < -(xs.length : Int) ∨ (xs.length : Int) ≤ i) (by split at hj <;> omega), ← hj, if_neg (by omega), Int.toNat_natCast]

theorem bareTree_at (d : Nat) (S : Nat → Prop) (w : World) : TreeG S w (d + 1) (zeroT d) (.iface 163 (.agg #[.int .i64 0])) := Or.inl ⟨0, by omega, rfl, rfl⟩

set_option maxRecDepth 100000 in
set_option maxHeartbeats 4000000 in
theorem implPartAt_any (d : Nat) (S : Nat → Prop) (t : Tr (d + 2)) (v : Value) (i : Int) (hi : I64 i) (w : World) (hv : ValAt S w (d + 2) t v) (hS : Within S w) (hg : ErrType w) :
    Calls Tryz.prog 119 #[v, .int .i64 i] w (TellQ d (partAtT d t i).1 (partAtT d t i).2 w) := by
  obtain ⟨k, n, s, ak, lk, ck, al, ll, cl, rfl⟩ := hv.shape
  obtain ⟨W0, hW⟩ : ∃ W0, W0 = (w.alloc (.cells #[.int .i64 k, .int .i64 n, .string s, .slice ak lk ck, .slice al ll cl] 26)).alloc (.cells #[.int .i64 0, .int .i64 0, .string { data := #[] }, .slice none 0 0, .slice none 0 0] 26) := ⟨_, rfl⟩
  have hW0 : Below w.heap.size w W0 := by rw [hW]; exact below_trans (below_alloc1 _ _) (below_alloc1 _ _)
  have k1 : Blk5 W0 (w.heap.size + 1) 26 (.int .i64 0) (.int .i64 0) (.string { data := #[] }) (.slice none 0 0) (.slice none 0 0) := by
    have := Blk5.new (w.alloc (.cells #[.int .i64 k, .int .i64 n, .string s, .slice ak lk ck, .slice al ll cl] 26)) 26 (.int .i64 0) (.int .i64 0) (.string { data := #[] }) (.slice none 0 0) (.slice none 0 0)
    rw [World.size_alloc] at this
    rw [hW]
    exact this
  have HW := hide hW
  clear hW
  go_enter Tryz.func119, Tryz.ntmps119
  go_wp2_with fail
  rw [← HW.out]
  clear HW
  refine (partsInRow_any (d + 1) S t _ W0 (hv.same (hS.same hW0)) (hS.later hW0.size)).mono ?_
  rintro e w1 ⟨hb1, hq⟩
  have hB1 := below_trans hW0 hb1
  have k2 := k1.below hb1
  have hg1 := hg.below hB1
  have hlt := k2.lt
  -- what is told, however it is
  have hfin : ∀ (w1' : World), Below w1.heap.size w1 w1' → ∀ (x : Tr (d + 1)) (ok : Bool), Hid (∀ e w2, TellQ d x ok w1' e w2 → ∃ v0 v1 v2 v3 v4 v5 v6 v7 v8, e = .returned (.tuple #[.agg #[.int .i64 v0, .int .i64 v1, .string v2, .slice v3 v4 v5, .slice v6 v7 v8], .bool ok]) ∧
      Blk5 w2 (w.heap.size + 1) 26 (.int .i64 0) (.int .i64 0) (.string { data := #[] }) (.slice none 0 0) (.slice none 0 0) ∧
      ∀ wF, wF = set5 w2 (w.heap.size + 1) 0 (.int .i64 v0) (.int .i64 v1) (.string v2) (.slice v3 v4 v5) (.slice v6 v7 v8) → ValOwn wF (d + 1) (Fresh w wF) x (.agg #[.int .i64 v0, .int .i64 v1, .string v2, .slice v3 v4 v5, .slice v6 v7 v8]) ∧ Below w.heap.size w wF) := fun w1' hb' x ok => by
    intro e w2 ⟨v, he, hv, hb2⟩
    obtain ⟨v0, v1, v2, v3, v4, v5, v6, v7, v8, rfl⟩ := (ValOwn.at _ _ _ _ hv).shape
    exact ⟨v0, v1, v2, v3, v4, v5, v6, v7, v8, he, (k2.below hb').below hb2, tell_end hv (below_trans (below_trans hB1 hb') hb2) (by omega) (Nat.lt_of_lt_of_le hlt hb'.size)⟩
  clear hv hW0 k1 k2
  rcases hq with ⟨xs, xa, xc, hrow, rfl, hxs⟩ | ⟨hrow, why, rfl⟩
  · obtain ⟨hR, hx60, hxok⟩ := partAt_some (i := i) hrow
    obtain ⟨j, hj⟩ : ∃ j : Int, j = if i < 0 then i + (xs.length : Int) else i := ⟨_, rfl⟩
    have HJ := hide hj
    have hf0 : 0 ≤ xs.length := Nat.zero_le _
    by_cases hout : j < 0 ∨ (xs.length : Int) ≤ j
    · have HR : Hid (partAtT d t i = (toldT d (zeroT d), okT (d + 1) (zeroT d))) := by
        show partAtT d t i = _
        rw [hR, place_out hj hout, okT_zero d, toldT, if_pos (okT_zero d)]
        rfl
      have hcall := hide (fun w' => told_tree d (fun _ => False) (zeroT d) (.iface 163 (.agg #[.int .i64 0])) w' (bareTree_at d _ _) (fun _ h => h.elim))
      clear hR hj hrow hxs hxok
      go_wp2_with fail
      refine (fromStart_any i xs.length hi hx60 w1).mono ?_
      rintro e w1' ⟨rfl, rfl⟩
      rw [← HJ.out]
      go_wp2_with fail
      all_goals
        refine Calls.mono (hcall.out w1') ?_
        intro e w2 hq
        obtain ⟨v0, v1, v2, v3, v4, v5, v6, v7, v8, rfl, k3, hF⟩ := (hfin w1' (Below.refl _ _) _ _).out e w2 hq
        have HF := hide hF
        obtain ⟨y0, y1, y2, y3, y4⟩ := k3.cell
        have yf := k3.frozen
        clear hF hq hfin hcall k3
        go_wp2_with fail
        refine bodyPost_ret (v := .tuple #[.agg #[.int .i64 v0, .int .i64 v1, .string v2, .slice v3 v4 v5, .slice v6 v7 v8], .bool (okT (d + 1) (zeroT d))]) (by simp [results, Tryz.results119, go_sem, y0, y1, y2, y3, y4]) rfl ⟨_, by rw [HR.out], by rw [HR.out]; exact (HF.out _ rfl).1, (HF.out _ rfl).2⟩
    · obtain ⟨k, rfl⟩ : ∃ k : Nat, j = (k : Int) := ⟨j.toNat, by omega⟩
      have hkl : k < xs.length := by omega
      obtain ⟨b, o, x, u, rfl, hbS, hx, hc, hu⟩ := hxs.cell hkl
      obtain ⟨T, u', rfl⟩ := hu.iface
      have hxo := hxok x (List.mem_of_getElem? hx)
      have HR : Hid (partAtT d t i = (toldT d x, okT (d + 1) x)) := by
        show partAtT d t i = _
        rw [hR, place_in hj hkl, hx, hxo, toldT, if_pos hxo]
        rfl
      have hki : (k : Int) < (xs.length : Int) := by omega
      have hcall := hide (told_tree d _ x _ w1 hu (Fresh.within _ _))
      clear hR hj hrow hxs hxok hx hu hout hxo
      go_wp2_with fail
      refine (fromStart_any i xs.length hi hx60 w1).mono ?_
      rintro e w1' ⟨rfl, rfl⟩
      rw [← HJ.out]
      go_wp2_with fail
      refine Calls.mono hcall.out ?_
      intro e w2 hq
      obtain ⟨v0, v1, v2, v3, v4, v5, v6, v7, v8, rfl, k3, hF⟩ := (hfin w1' (Below.refl _ _) _ _).out e w2 hq
      have HF := hide hF
      obtain ⟨y0, y1, y2, y3, y4⟩ := k3.cell
      have yf := k3.frozen
      clear hF hq hfin hcall k3
      go_wp2_with fail
      refine bodyPost_ret (v := .tuple #[.agg #[.int .i64 v0, .int .i64 v1, .string v2, .slice v3 v4 v5, .slice v6 v7 v8], .bool (okT (d + 1) x)]) (by simp [results, Tryz.results119, go_sem, y0, y1, y2, y3, y4]) rfl ⟨_, by rw [HR.out], by rw [HR.out]; exact (HF.out _ rfl).1, (HF.out _ rfl).2⟩
  · have HR := hide (partAt_none (i := i) hrow)
    have hcall := hide (told_fault d .nilIface why w1 hg1)
    unfold faultV
    clear hrow
    go_wp2_with fail
    refine Calls.mono hcall.out ?_
    intro e w2 hq
    obtain ⟨v0, v1, v2, v3, v4, v5, v6, v7, v8, rfl, k3, hF⟩ := (hfin w1 (Below.refl _ _) _ _).out e w2 hq
    have HF := hide hF
    obtain ⟨y0, y1, y2, y3, y4⟩ := k3.cell
    have yf := k3.frozen
    clear hF hq hfin hcall k3
    go_wp2_with fail
    refine bodyPost_ret (v := .tuple #[.agg #[.int .i64 v0, .int .i64 v1, .string v2, .slice v3 v4 v5, .slice v6 v7 v8], .bool false]) (by simp [results, Tryz.results119, go_sem, y0, y1, y2, y3, y4]) rfl ⟨_, by rw [HR.out], by rw [HR.out]; exact (HF.out _ rfl).1, (HF.out _ rfl).2⟩
end Go.Proofs.YtoangpfmjohhmaaGreatDoor

/- partsInRow: the row owns its memory. -/
namespace Go.Proofs.YtoangpfmjohhmaaGreatDoor
open Go.RowKit Go.Deep

/-- What partsInRow is asked to give. -/
def RowOQ (d : Nat) (t : Tr (d + 1)) (w : World) (e : Ending) (w' : World) : Prop :=
  Below w.heap.size w w' ∧ ((∃ xs a cap vs, rowL d t = some xs ∧ e = .returned (.tuple #[.slice a xs.length cap, .nilIface]) ∧ GTo w.heap.size w' (.slice a xs.length cap) xs vs) ∨ (rowL d t = none ∧ ∃ why, e = .returned (.tuple #[.slice none 0 0, faultV why])))

set_option maxRecDepth 100000 in
set_option maxHeartbeats 4000000 in
theorem partsInRow_own (d : Nat) (S : Nat → Prop) (t : Tr (d + 1)) (v : Value) (w : World) (hv : ValAt S w (d + 1) t v) (hS : Within S w) :
    Calls Tryz.prog 121 #[v] w (RowOQ d t w) := by
  obtain ⟨k, n, s, ak, lk, ck, al, ll, cl, rfl⟩ := hv.shape
  have hA := below_alloc1 w (.cells #[.int .i64 k, .int .i64 n, .string s, .slice ak lk ck, .slice al ll cl] 26)
  have hAs := hA.size
  go_enter Tryz.func121, Tryz.ntmps121
  go_wp2_with fail
  refine (given_own d S t _ _ (hv.same (hS.same hA)) (hS.later hA.size)).mono ?_
  rintro e w1 ⟨hb1, hq⟩
  have hB := below_trans hA hb1
  clear hb1 hA hv
  rcases hq with ⟨hok, u, rfl, hu, htop⟩ | ⟨hok, why, rfl⟩
  · rcases hu with ⟨k', h1, rfl, rfl⟩ | ⟨n', h1, rfl, rfl⟩ | ⟨s', h1, rfl, rfl⟩ | ⟨xs, sv, h1, rfl, rfl, hr⟩ | ⟨keys, xs, ps, r, es, h1, h2, h3, h4, rfl, rfl, hr, hm, he⟩
    · have a3 := Tryz.asR_B
      go_wp2_with fail
      refine (isNothing_bare k' w1).mono ?_
      rintro e w2 ⟨rfl, hb2⟩
      have HB2 := hide (below_trans hB hb2)
      clear hb2 hB
      by_cases hk0 : k' = 0
      · have hkb : (k' == 0) = true := by simpa using hk0
        have hq : Hid (rowL d (Nd.mk k' 0 ByteArray.empty [] [] : Nd (Tr d)) = some []) := by
          refine (rowL_ok hok).trans ?_
          show (if k' = 0 then _ else _) = _
          rw [if_pos hk0]
        clear hk0
        go_wp2_with fail
        go_ret2
        exact ⟨HB2.out, Or.inl ⟨[], none, 0, [], hq.out, rfl, gto_nil _ _⟩⟩
      · have hkb : (k' == 0) = false := by simpa using hk0
        have hq : Hid (rowL d (Nd.mk k' 0 ByteArray.empty [] [] : Nd (Tr d)) = none) := by
          refine (rowL_ok hok).trans ?_
          show (if k' = 0 then _ else if k' = 5 then _ else _) = _
          rw [if_neg hk0, if_neg (by omega)]
        clear hk0
        go_wp2_with fail
        go_ret2
        exact ⟨below_trans HB2.out (below_alloc1 _ _), Or.inr ⟨hq.out, _, rfl⟩⟩
    · have a3 := Tryz.asR_N
      have hq : Hid (rowL d (Nd.mk 3 n' ByteArray.empty [] [] : Nd (Tr d)) = none) := by
        exact (rowL_ok hok).trans rfl
      go_wp2_with fail
      refine (isNothing_num _ w1).mono ?_
      rintro e w2 ⟨rfl, hb2⟩
      have HB2 := hide (below_trans hB hb2)
      clear hb2 hB
      go_wp2_with fail
      go_ret2
      exact ⟨below_trans HB2.out (below_alloc1 _ _), Or.inr ⟨hq.out, _, rfl⟩⟩
    · have a3 := Tryz.asR_S
      have hq : Hid (rowL d (Nd.mk 4 0 s' [] [] : Nd (Tr d)) = none) := by
        exact (rowL_ok hok).trans rfl
      go_wp2_with fail
      refine (isNothing_str _ w1).mono ?_
      rintro e w2 ⟨rfl, hb2⟩
      have HB2 := hide (below_trans hB hb2)
      clear hb2 hB
      go_wp2_with fail
      go_ret2
      exact ⟨below_trans HB2.out (below_alloc1 _ _), Or.inr ⟨hq.out, _, rfl⟩⟩
    · have a3 := Tryz.asR_R
      obtain ⟨sa, sc, rfl, _⟩ := hr.open'
      have hq : Hid (rowL d (Nd.mk 5 0 ByteArray.empty [] xs : Nd (Tr d)) = some xs) := by
        exact (rowL_ok hok).trans rfl
      go_wp2_with fail
      refine (isNothing_row _ w1).mono ?_
      rintro e w2 ⟨rfl, hb2⟩
      have hA2 := below_alloc1 w2 (.cells #[.slice sa xs.length sc] 120)
      have hb3 := below_trans hb2 hA2
      have HB2 := hide (below_trans hB hb3)
      have hsz := hb3.size
      have HR : Hid (∃ vs, GTo w.heap.size (w2.alloc (.cells #[.slice sa xs.length sc] 120)) (.slice sa xs.length sc) xs vs) := by
        obtain ⟨sv', vs, he, hto⟩ := htop.1 rfl
        cases he
        exact ⟨vs, (gto_of (hto.moved hb3 (by omega)) (okT_row hok))⟩
      clear hb2 hB hb3 hA2 hr htop
      go_wp2_with fail
      go_ret2
      obtain ⟨vs, hvs⟩ := HR.out
      exact ⟨HB2.out, Or.inl ⟨xs, sa, sc, vs, hq.out, rfl, hvs⟩⟩
    · have a3 := Tryz.asR_M
      have hq : Hid (rowL d (Nd.mk 6 0 ByteArray.empty keys xs : Nd (Tr d)) = none) := by
        exact (rowL_ok hok).trans rfl
      clear he hm hr h4 h3 h2
      go_wp2_with fail
      refine (isNothing_map _ w1).mono ?_
      rintro e w2 ⟨rfl, hb2⟩
      have HB2 := hide (below_trans hB hb2)
      clear hb2 hB
      go_wp2_with fail
      go_ret2
      exact ⟨below_trans HB2.out (below_alloc1 _ _), Or.inr ⟨hq.out, _, rfl⟩⟩
  · unfold faultV
    go_wp2_with fail
    go_ret2
    refine ⟨hB, Or.inr ⟨?_, why, rfl⟩⟩
    rw [rowL, if_neg (by rw [hok]; simp)]

end Go.Proofs.YtoangpfmjohhmaaGreatDoor

/- A tree put at a place of a row. -/
namespace Go.Proofs.YtoangpfmjohhmaaGreatDoor
open Go.RowKit Go.Deep

/-- A row of at least n, with z at those that are not there. -/
def padL {α : Type} (xs : List α) (z : α) (n : Nat) : List α := xs ++ List.replicate (n - xs.length) z
/-- What becomes of a row when x is put at place k. -/
def setL {α : Type} (xs : List α) (z : α) (k : Nat) (x : α) : List α := (padL xs z (k + 1)).set k x

theorem padL_length {α : Type} (xs : List α) (z : α) (n : Nat) : (padL xs z n).length = max xs.length n := by
  unfold padL
  rw [List.length_append, List.length_replicate]
  omega
theorem setL_length {α : Type} (xs : List α) (z : α) (k : Nat) (x : α) : (setL xs z k x).length = max xs.length (k + 1) := by
  unfold setL
  rw [List.length_set, padL_length]
theorem padL_step {α : Type} (xs : List α) (z : α) (m : Nat) : xs ++ List.replicate (m + 1) z = (xs ++ List.replicate m z) ++ [z] := by
  rw [List.replicate_succ', List.append_assoc]

/-- What PartSet tells. -/
def partSetT (d : Nat) (t : Tr (d + 2)) (i : Int) (x : Tr (d + 1)) : Tr (d + 2) × Bool :=
  match rowL (d + 1) t with
  | none => (zeroT (d + 1), false)
  | some xs =>
    if okT (d + 1) x = true ∧ -(xs.length : Int) ≤ i ∧ i < 60 then
      (toldT (d + 1) (rowT (d + 1) (setL xs (zeroT d) (if i < 0 then i + xs.length else i).toNat x)), okT (d + 2) (rowT (d + 1) (setL xs (zeroT d) (if i < 0 then i + xs.length else i).toNat x)))
    else (zeroT (d + 1), false)

theorem okT_partSet (d : Nat) (t : Tr (d + 2)) (i : Int) (x : Tr (d + 1)) : okT (d + 2) (partSetT d t i x).1 = true := by
  unfold partSetT
  split
  · exact okT_zero _
  · split
    · exact okT_told _ _
    · exact okT_zero _

/-- One tree more at the end of a row, which lies in no block. -/
theorem GTo.step {d N : Nat} {wr w2 : World} {sv sv' u : Value} {xs : List (Tr d)} {vs : List Value} {x : Tr d} {o : Obj} (h : GTo N wr sv xs vs) (hu : TreeG (fun _ => False) wr d x u) (hown : w2.ownsRow N 58 1 sv' (xs.length + 1) (vs ++ [u]))
    (hg : (wr.alloc o).grownBy w2 sv.ownBlock) (hw : sv'.ownBlock = sv.ownBlock ∨ sv'.ownBlock = some (wr.alloc o).heap.size) : GTo N w2 sv' (xs ++ [x]) (vs ++ [u]) := by
  obtain ⟨h1, h2⟩ := h
  have hlen : vs.length = xs.length := by have := h1.1; omega
  have hs3 := hg.size
  have hz : (wr.alloc o).heap.size = wr.heap.size + 1 := by simp
  rw [hz] at hs3 hw
  have hlast : ∀ b, b < wr.heap.size → some b ≠ sv.ownBlock → w2.heap[b]? = wr.heap[b]? := fun b hb1 hb2 =>
    (hg.block b (by omega) hb2).trans (Below.heap_alloc _ _ _ hb1)
  have hne : ∀ b, b < wr.heap.size → some b ≠ sv.ownBlock → some b ≠ sv'.ownBlock := fun b hb1 hb2 => by
    rcases hw with e | e
    · rw [e]; exact hb2
    · rw [e]; intro e2; cases e2; omega
  refine ⟨by rw [List.length_append]; exact hown, fun j y v hy hv => ?_⟩
  by_cases e : j < xs.length
  · rw [List.getElem?_append_left e] at hy
    rw [List.getElem?_append_left (by omega)] at hv
    refine TreeG.moved (fun b hB => hlast b hB.2.1 hB.2.2) (fun b hB => ⟨hB.1, by have := hB.2.1; omega, hne b hB.2.1 hB.2.2⟩) d y v (h2 j y v hy hv)
  · have hj : j = xs.length := by
      have := (List.getElem?_eq_some_iff.1 hy).1
      rw [List.length_append, List.length_singleton] at this
      omega
    subst hj
    rw [List.getElem?_append_right (Nat.le_refl _), Nat.sub_self] at hy
    rw [List.getElem?_append_right (by omega), hlen, Nat.sub_self] at hv
    cases hy
    cases hv
    exact TreeG.moved (fun b hB => hB.elim) (fun b hB => hB.elim) d x u hu

/-- Another tree at a place of a row. -/
theorem GTo.put {d N g n cap k : Nat} {w : World} {u : Value} {xs : List (Tr d)} {vs : List Value} {x : Tr d} {S : Nat → Prop} (h : GTo N w (.slice (some ⟨g, 0, none⟩) n cap) xs vs) (hn : n = xs.length) (hk : k < xs.length) (hu : TreeG S w d x u) (hS : ∀ b, S b → N ≤ b ∧ b < w.heap.size ∧ b ≠ g) :
    GTo N (w.setCell ⟨g, k, none⟩ u) (.slice (some ⟨g, 0, none⟩) n cap) (xs.set k x) (vs.set k u) ∧ Below N w (w.setCell ⟨g, k, none⟩ u) := by
  subst hn
  obtain ⟨h1, h2⟩ := h
  have hlen : vs.length = xs.length := by have := h1.1; omega
  obtain ⟨ho, hgr⟩ := h1.stored k u
  have hsame : ∀ b, b ≠ g → (w.setCell ⟨g, k, none⟩ u).heap[b]? = w.heap[b]? := fun b hb => Below.heap_setCell _ _ _ _ hb
  have hz : (w.setCell ⟨g, k, none⟩ u).heap.size = w.heap.size := size_setCell1 _ _ _
  have hgN := (h1.lt g rfl).1
  refine ⟨⟨by rw [List.length_set]; exact ho, fun j y v hy hv => ?_⟩, (Below.refl _ _).setCell hgN _⟩
  by_cases e : k = j
  · subst e
    rw [List.getElem?_set_self hk] at hy
    rw [List.getElem?_set_self (by omega)] at hv
    cases hy
    cases hv
    exact TreeG.moved (fun b hb => hsame b (hS b hb).2.2) (fun b hb => ⟨(hS b hb).1, by rw [hz]; exact (hS b hb).2.1, fun e => (hS b hb).2.2 (by cases e; rfl)⟩) d x u hu
  · rw [List.getElem?_set_ne e] at hy hv
    exact TreeG.moved (fun b hb => hsame b (fun e => hb.2.2 (by rw [e]; rfl))) (fun b hb => ⟨hb.1, by rw [hz]; exact hb.2.1, hb.2.2⟩) d y v (h2 j y v hy hv)
end Go.Proofs.YtoangpfmjohhmaaGreatDoor

/- What is put and got in plain trees: the facts that the laws of chapter 2 ask for. -/
namespace Go.Proofs.YtoangpfmjohhmaaGreatDoor
open Go.RowKit Go.Deep

theorem getL_cons {α : Type} (k : ByteArray) (ks : List ByteArray) (x : α) (xs : List α) (s : ByteArray) : getL (k :: ks) (x :: xs) s = if (k == s) = true then some x else getL ks xs s := by rw [getL]
theorem getL_nil {α : Type} (xs : List α) (s : ByteArray) : getL ([] : List ByteArray) xs s = none := getL_miss (by simp)
theorem putL_nil {α : Type} (xs : List α) (s : ByteArray) (x : α) : putL [] xs s x = [(s, x)] := by rw [putL]
theorem putL_cons {α : Type} (k : ByteArray) (ks : List ByteArray) (y : α) (ys : List α) (s : ByteArray) (x : α) : putL (k :: ks) (y :: ys) s x = if ltB k s = true then (k, y) :: putL ks ys s x else if (k == s) = true then (s, x) :: ks.zip ys else (s, x) :: (k, y) :: ks.zip ys := by rw [putL]
theorem zip_snd' {α : Type} (ks : List ByteArray) (xs : List α) (h : ks.length = xs.length) : (ks.zip xs).map Prod.snd = xs := by
  rw [List.map_snd_zip (by omega)]

/-- What was put is got. -/
theorem getL_put_same {α : Type} (s : ByteArray) (x : α) : ∀ (ks : List ByteArray) (xs : List α), ks.length = xs.length → getL ((putL ks xs s x).map Prod.fst) ((putL ks xs s x).map Prod.snd) s = some x
  | [], xs, _ => by rw [putL_nil]; show getL [s] [x] s = some x; rw [getL_cons, if_pos (bytes_self s)]
  | _ :: _, [], h => by simp at h
  | k :: ks, y :: ys, h => by
    rw [putL_cons]
    split
    · rename_i hlt
      rw [List.map_cons, List.map_cons, getL_cons, if_neg (by rw [bytes_ne (ltB_ne hlt)]; simp)]
      exact getL_put_same s x ks ys (by simpa using h)
    · split
      · show getL (s :: (ks.zip ys).map Prod.fst) (x :: (ks.zip ys).map Prod.snd) s = some x
        rw [getL_cons, if_pos (bytes_self s)]
      · show getL (s :: k :: (ks.zip ys).map Prod.fst) (x :: y :: (ks.zip ys).map Prod.snd) s = some x
        rw [getL_cons, if_pos (bytes_self s)]
/-- What was there at another key stays. -/
theorem getL_put_other {α : Type} {s s' : ByteArray} (x : α) (hne : s' ≠ s) : ∀ (ks : List ByteArray) (xs : List α), ks.length = xs.length → getL ((putL ks xs s x).map Prod.fst) ((putL ks xs s x).map Prod.snd) s' = getL ks xs s'
  | [], xs, _ => by
    rw [putL_nil]
    show getL [s] [x] s' = _
    rw [getL_cons, if_neg (by rw [bytes_ne (Ne.symm hne)]; simp), getL_nil, getL_nil]
  | _ :: _, [], h => by simp at h
  | k :: ks, y :: ys, h => by
    have hl : ks.length = ys.length := by simpa using h
    rw [putL_cons]
    split
    · show getL (k :: (putL ks ys s x).map Prod.fst) (y :: (putL ks ys s x).map Prod.snd) s' = _
      rw [getL_cons, getL_cons, getL_put_other x hne ks ys hl]
    · split
      · rename_i he
        have e := (MapKept.bytes_beq k s).1 he
        subst e
        show getL (k :: (ks.zip ys).map Prod.fst) (x :: (ks.zip ys).map Prod.snd) s' = _
        rw [getL_cons, getL_cons, if_neg (by rw [bytes_ne (Ne.symm hne)]; simp), if_neg (by rw [bytes_ne (Ne.symm hne)]; simp), zip_fst _ _ hl, zip_snd' _ _ hl]
      · show getL (s :: k :: (ks.zip ys).map Prod.fst) (x :: y :: (ks.zip ys).map Prod.snd) s' = _
        rw [getL_cons, if_neg (by rw [bytes_ne (Ne.symm hne)]; simp), getL_cons, getL_cons, zip_fst _ _ hl, zip_snd' _ _ hl]

theorem ltB_asymm {a b : ByteArray} (h : ltB a b = true) (h' : ltB b a = true) : False := by
  have := bytesLess_trans _ _ _ h h'
  rw [bytesLess_irrefl] at this
  cases this
/-- Keys in order, with what is at each: nothing else. -/
theorem assoc_ext {α : Type} : ∀ (ps qs : List (ByteArray × α)) (p q : Option ByteArray), keysGo p (ps.map Prod.fst) = true → keysGo q (qs.map Prod.fst) = true → (∀ s, getL (ps.map Prod.fst) (ps.map Prod.snd) s = getL (qs.map Prod.fst) (qs.map Prod.snd) s) → ps = qs
  | [], [], _, _, _, _, _ => rfl
  | [], (k, x) :: r, _, _, _, _, h => by
    have := h k
    simp only [List.map_cons, List.map_nil, getL_cons, getL_nil, bytes_self, if_true] at this
    cases this
  | (k, x) :: r, [], _, _, _, _, h => by
    have := h k
    simp only [List.map_cons, List.map_nil, getL_cons, getL_nil, bytes_self, if_true] at this
    cases this
  | (k, x) :: r, (k', x') :: r', p, q, h1, h2, h => by
    have a1 := keysGo_all _ k (keysGo_tail h1)
    have a2 := keysGo_all _ k' (keysGo_tail h2)
    have hg : ∀ s, (if (k == s) = true then some x else getL (r.map Prod.fst) (r.map Prod.snd) s) = (if (k' == s) = true then some x' else getL (r'.map Prod.fst) (r'.map Prod.snd) s) := fun s => by
      have := h s
      simp only [List.map_cons, getL_cons] at this
      exact this
    by_cases e : k = k'
    · subst e
      have hx := hg k
      rw [if_pos (bytes_self k), if_pos (bytes_self k)] at hx
      cases hx
      rw [assoc_ext r r' _ _ (keysGo_tail h1) (keysGo_tail h2) (fun s => ?_)]
      by_cases es : k = s
      · subst es
        rw [getL_miss (fun hm => ltB_ne (a1 _ hm) rfl), getL_miss (fun hm => ltB_ne (a2 _ hm) rfl)]
      · have hs := hg s
        rw [if_neg (by rw [bytes_ne es]; simp), if_neg (by rw [bytes_ne es]; simp)] at hs
        exact hs
    · exfalso
      cases hlt : ltB k k' with
      | true =>
        have hx := hg k
        rw [if_pos (bytes_self k), if_neg (by rw [bytes_ne (Ne.symm e)]; simp), getL_miss (fun hm => ltB_asymm hlt (a2 _ hm))] at hx
        cases hx
      | false =>
        have hlt' := ltB_total hlt (bytes_ne e)
        have hx := hg k'
        rw [if_pos (bytes_self k'), if_neg (by rw [bytes_ne e]; simp), getL_miss (fun hm => ltB_asymm hlt' (a1 _ hm))] at hx
        cases hx
theorem keysGo_ok : ∀ (ks : List ByteArray) (p : Option ByteArray), keysGo p ks = true → ∀ s ∈ ks, strOk s = true
  | [], _, _, _, h => by cases h
  | a :: r, p, h, s, hs => by
    have h0 : strOk a = true := by
      cases p with
      | none => simp only [keysGo, Bool.and_eq_true] at h; exact h.1
      | some q => simp only [keysGo, Bool.and_eq_true] at h; exact h.1
    cases hs with
    | head => exact h0
    | tail _ hs => exact keysGo_ok r _ (keysGo_tail h) s hs
theorem getL_key {α : Type} {ks : List ByteArray} {xs : List α} {i : Nat} {k : ByteArray} {y : α} (h : keysB ks = true) (hk : ks[i]? = some k) (hy : xs[i]? = some y) : getL ks xs k = some y :=
  getL_at hk hy (fun _ hj e => keysB_ne h hj e hk rfl)

theorem putL_len2 {α : Type} (ps : List (ByteArray × α)) : (ps.map Prod.fst).length = (ps.map Prod.snd).length := by rw [List.length_map, List.length_map]

/-- The keys and trees of a tree of which a key may be asked. -/
theorem mapL_some {d : Nat} {t : Tr (d + 1)} {s : ByteArray} {keys : List ByteArray} {xs : List (Tr d)} (h : mapL d t s = some (keys, xs)) :
    okT (d + 1) t = true ∧ strOk s = true ∧ keys.length = xs.length ∧ keysB keys = true ∧ ((Nd.kind t = 0 ∧ keys = [] ∧ xs = []) ∨ (Nd.kind t = 6 ∧ keys = Nd.keys t ∧ xs = Nd.list t)) := by
  unfold mapL at h
  split at h
  · rename_i hh
    split at h
    · cases h
      exact ⟨hh.1, hh.2, rfl, rfl, Or.inl ⟨by assumption, rfl, rfl⟩⟩
    split at h
    · rename_i h6
      cases h
      refine ⟨hh.1, hh.2, okT_keys hh.1 h6, ?_, Or.inr ⟨h6, rfl, rfl⟩⟩
      obtain ⟨hf, _⟩ := okT_form hh.1
      obtain ⟨kind, num, str, keys, list⟩ := t
      have h6 : kind = 6 := h6
      cases hb : headBad kind num str keys.length list.length 6 with
      | true => rw [formT_bad hb] at hf; cases hf
      | false =>
        rw [formT_good hb, if_neg (by omega), if_neg (by omega), if_neg (by omega), if_pos h6] at hf
        simp only [Bool.and_eq_true] at hf
        exact hf.1.2
    · cases h
  · cases h
theorem mapL_mapT {d : Nat} {ps : List (ByteArray × Tr d)} {s : ByteArray} (h : okT (d + 1) (mapT d ps) = true) (hs : strOk s = true) : mapL d (mapT d ps) s = some (ps.map Prod.fst, ps.map Prod.snd) := by
  rw [mapL_ok h hs]
  rfl
theorem partGet_mapT {d : Nat} {ps : List (ByteArray × Tr (d + 1))} {s : ByteArray} (h : okT (d + 2) (mapT (d + 1) ps) = true) (hs : strOk s = true) : partGetT d (mapT (d + 1) ps) s = ((getL (ps.map Prod.fst) (ps.map Prod.snd) s).getD (zeroT d), true) := by
  unfold partGetT
  rw [if_pos ⟨h, hs⟩]
  rfl
/-- PartPut that can be done. -/
theorem put_ok {d : Nat} {t : Tr (d + 2)} {s : ByteArray} {x : Tr (d + 1)} (h : (partPutT d t s x).2 = true) :
    ∃ keys xs, mapL (d + 1) t s = some (keys, xs) ∧ okT (d + 1) x = true ∧ (partPutT d t s x).1 = mapT (d + 1) (putL keys xs s x) ∧ okT (d + 2) (mapT (d + 1) (putL keys xs s x)) = true := by
  unfold partPutT at h ⊢
  cases hm : mapL (d + 1) t s with
  | none => rw [hm] at h; cases h
  | some kx =>
    obtain ⟨keys, xs⟩ := kx
    rw [hm] at h
    by_cases hx : okT (d + 1) x = true
    · have h' : okT (d + 2) (mapT (d + 1) (putL keys xs s x)) = true := by simpa [hx] using h
      refine ⟨keys, xs, rfl, hx, ?_, h'⟩
      show (if okT (d + 1) x = true then _ else _ : Tr (d + 2) × Bool).1 = _
      rw [if_pos hx]
      show toldT (d + 1) _ = _
      unfold toldT
      rw [if_pos h']
    · have : (if okT (d + 1) x = true then (toldT (d + 1) (mapT (d + 1) (putL keys xs s x)), okT (d + 2) (mapT (d + 1) (putL keys xs s x))) else (zeroT (d + 1), false) : Tr (d + 2) × Bool).2 = true := h
      rw [if_neg hx] at this
      cases this
theorem get_put {d : Nat} {t : Tr (d + 2)} {s : ByteArray} {x : Tr (d + 1)} (h : (partPutT d t s x).2 = true) : partGetT d (partPutT d t s x).1 s = (x, true) := by
  obtain ⟨keys, xs, hm, hx, he, ho⟩ := put_ok h
  obtain ⟨_, hs, hl, _, _⟩ := mapL_some hm
  rw [he, partGet_mapT ho hs, getL_put_same s x keys xs hl]
  rfl
theorem okT_nokeys {d : Nat} {t : Tr (d + 1)} (h : okT (d + 1) t = true) (h6 : Nd.kind t ≠ 6) : Nd.keys t = [] := by
  obtain ⟨hf, _⟩ := okT_form h
  obtain ⟨kind, num, str, keys, list⟩ := t
  cases hb : headBad kind num str keys.length list.length 6 with
  | true => rw [formT_bad hb] at hf; cases hf
  | false => exact List.eq_nil_of_length_eq_zero ((headBad_iff.1 hb).2.2.2.1 h6)
theorem okT_nolist {d : Nat} {t : Tr (d + 1)} (h : okT (d + 1) t = true) (h6 : Nd.kind t < 5) : Nd.list t = [] := by
  obtain ⟨hf, _⟩ := okT_form h
  obtain ⟨kind, num, str, keys, list⟩ := t
  cases hb : headBad kind num str keys.length list.length 6 with
  | true => rw [formT_bad hb] at hf; cases hf
  | false => exact List.eq_nil_of_length_eq_zero ((headBad_iff.1 hb).2.2.2.2 h6)
theorem get_put_other {d : Nat} {t : Tr (d + 2)} {s k : ByteArray} {x y : Tr (d + 1)} {i : Nat} (h : (partPutT d t s x).2 = true) (hk : (Nd.keys t)[i]? = some k) (hy : (Nd.list t)[i]? = some y) (hne : k ≠ s) : partGetT d (partPutT d t s x).1 k = (y, true) := by
  obtain ⟨keys, xs, hm, hx, he, ho⟩ := put_ok h
  obtain ⟨hok, hs, hl, hkb, hc⟩ := mapL_some hm
  rcases hc with ⟨h0, rfl, rfl⟩ | ⟨h6, rfl, rfl⟩
  · rw [okT_nokeys hok (by omega)] at hk
    simp at hk
  · rw [he, partGet_mapT ho (keysGo_ok _ _ hkb k (List.mem_of_getElem? hk)), getL_put_other x hne _ _ hl, getL_key hkb hk hy]
    rfl
/-- PartPut behind PartPut. -/
theorem put_put {d : Nat} {a b : ByteArray} {x y : Tr (d + 1)} {keys : List ByteArray} {xs : List (Tr (d + 1))} (ho : okT (d + 2) (mapT (d + 1) (putL keys xs a x)) = true) (hb : strOk b = true) :
    partPutT d (mapT (d + 1) (putL keys xs a x)) b y = if okT (d + 1) y = true then (toldT (d + 1) (mapT (d + 1) (putL ((putL keys xs a x).map Prod.fst) ((putL keys xs a x).map Prod.snd) b y)), okT (d + 2) (mapT (d + 1) (putL ((putL keys xs a x).map Prod.fst) ((putL keys xs a x).map Prod.snd) b y))) else (zeroT (d + 1), false) := by
  unfold partPutT
  rw [mapL_mapT ho hb]
theorem putL_order {α : Type} {s : ByteArray} {x : α} {ks : List ByteArray} {xs : List α} (hs : strOk s = true) (hl : ks.length = xs.length) (hk : keysGo none ks = true) : keysGo none ((putL ks xs s x).map Prod.fst) = true :=
  putL_keys hs hl hk (fun q h => by cases h)
/-- What is put at one key last is there. -/
theorem putL_again {α : Type} {s : ByteArray} {x y : α} {ks : List ByteArray} {xs : List α} (hs : strOk s = true) (hl : ks.length = xs.length) (hk : keysGo none ks = true) :
    putL ((putL ks xs s x).map Prod.fst) ((putL ks xs s x).map Prod.snd) s y = putL ks xs s y := by
  refine assoc_ext _ _ none none (putL_order hs (putL_len2 _) (putL_order hs hl hk)) (putL_order hs hl hk) (fun k => ?_)
  by_cases e : k = s
  · subst e
    rw [getL_put_same _ _ _ _ (putL_len2 _), getL_put_same _ _ _ _ hl]
  · rw [getL_put_other _ e _ _ (putL_len2 _), getL_put_other _ e _ _ hl, getL_put_other _ e _ _ hl]
theorem putL_swap {α : Type} {a b : ByteArray} {x y : α} {ks : List ByteArray} {xs : List α} (ha : strOk a = true) (hb : strOk b = true) (hne : a ≠ b) (hl : ks.length = xs.length) (hk : keysGo none ks = true) :
    putL ((putL ks xs a x).map Prod.fst) ((putL ks xs a x).map Prod.snd) b y = putL ((putL ks xs b y).map Prod.fst) ((putL ks xs b y).map Prod.snd) a x := by
  refine assoc_ext _ _ none none (putL_order hb (putL_len2 _) (putL_order ha hl hk)) (putL_order ha (putL_len2 _) (putL_order hb hl hk)) (fun k => ?_)
  by_cases e : k = a
  · subst e
    rw [getL_put_other _ hne _ _ (putL_len2 _), getL_put_same _ _ _ _ hl, getL_put_same _ _ _ _ (putL_len2 _)]
  · by_cases e' : k = b
    · subst e'
      rw [getL_put_same _ _ _ _ (putL_len2 _), getL_put_other _ e _ _ (putL_len2 _), getL_put_same _ _ _ _ hl]
    · rw [getL_put_other _ e' _ _ (putL_len2 _), getL_put_other _ e _ _ hl, getL_put_other _ e _ _ (putL_len2 _), getL_put_other _ e' _ _ hl]
/-- At one key the last one counts. -/
theorem put_twice {d : Nat} {t : Tr (d + 2)} {a : ByteArray} {x : Tr (d + 1)} (h : (partPutT d t a x).2 = true) (y : Tr (d + 1)) : partPutT d (partPutT d t a x).1 a y = partPutT d t a y := by
  obtain ⟨keys, xs, hm, hx, he, ho⟩ := put_ok h
  obtain ⟨_, hs, hl, hkb, _⟩ := mapL_some hm
  rw [he, put_put ho hs, putL_again hs hl hkb]
  unfold partPutT
  rw [hm]
theorem put_same {d : Nat} {t : Tr (d + 2)} {a : ByteArray} {x : Tr (d + 1)} (h : (partPutT d t a x).2 = true) : partPutT d (partPutT d t a x).1 a x = ((partPutT d t a x).1, true) := by
  rw [put_twice h, ← h]
theorem put_swap {d : Nat} {t : Tr (d + 2)} {a b : ByteArray} {x y : Tr (d + 1)} (h1 : (partPutT d t a x).2 = true) (h3 : (partPutT d t b y).2 = true) (hne : a ≠ b) :
    (partPutT d (partPutT d t a x).1 b y).1 = (partPutT d (partPutT d t b y).1 a x).1 := by
  obtain ⟨keys, xs, hm, hx, he, ho⟩ := put_ok h1
  obtain ⟨_, ha, hl, hkb, hc⟩ := mapL_some hm
  obtain ⟨keys', xs', hm', hx', he', ho'⟩ := put_ok h3
  obtain ⟨_, hb, hl', _, hc'⟩ := mapL_some hm'
  obtain ⟨rfl, rfl⟩ : keys' = keys ∧ xs' = xs := by
    rcases hc with ⟨h0, rfl, rfl⟩ | ⟨h0, rfl, rfl⟩ <;> rcases hc' with ⟨h0', rfl, rfl⟩ | ⟨h0', rfl, rfl⟩ <;> first | exact ⟨rfl, rfl⟩ | omega
  rw [he, put_put ho hb, he', put_put ho' ha, if_pos hx, if_pos hx', putL_swap ha hb hne hl hkb]
end Go.Proofs.YtoangpfmjohhmaaGreatDoor

/- What is set at a place of a plain row: the facts that the laws of chapter 2 ask for. -/
namespace Go.Proofs.YtoangpfmjohhmaaGreatDoor
open Go.RowKit Go.Deep

theorem okT_iff {d : Nat} {t : Tr d} : okT d t = true ↔ formT d t 6 = true ∧ manyT d t 6 ≤ 60 := by
  unfold okT
  rw [Bool.and_eq_true, decide_eq_true_eq]
theorem okT_rowT_iff {d : Nat} {xs : List (Tr d)} : okT (d + 1) (rowT d xs) = true ↔ (∀ x ∈ xs, formT d x 5 = true) ∧ 1 + (xs.map (fun x => manyT d x 5)).sum ≤ 60 := by
  have hb : headBad 5 0 ByteArray.empty ([] : List ByteArray).length xs.length 6 = false := headBad_iff.2 ⟨by omega, fun _ => rfl, fun _ => empty_toList, fun _ => rfl, fun h => by omega⟩
  have h1 : formT (d + 1) (rowT d xs) 6 = xs.all (fun x => formT d x 5) := by
    show formT (d + 1) (Nd.mk 5 0 ByteArray.empty [] xs : Nd (Tr d)) 6 = _
    rw [formT_good hb]
    rfl
  have h2 : manyT (d + 1) (rowT d xs) 6 = 1 + (xs.map (fun x => manyT d x 5)).sum := rfl
  rw [okT_iff, h1, h2, List.all_eq_true]
theorem okT_mapT_iff {d : Nat} {ps : List (ByteArray × Tr d)} : okT (d + 1) (mapT d ps) = true ↔ keysB (ps.map Prod.fst) = true ∧ (∀ x ∈ ps.map Prod.snd, formT d x 5 = true) ∧ 1 + ((ps.map Prod.snd).map (fun x => manyT d x 5)).sum ≤ 60 := by
  have hb : headBad 6 0 ByteArray.empty (ps.map Prod.fst).length (ps.map Prod.snd).length 6 = false := headBad_iff.2 ⟨by omega, fun _ => rfl, fun _ => empty_toList, fun h => absurd rfl h, fun h => by omega⟩
  have h1 : formT (d + 1) (mapT d ps) 6 = (keysB (ps.map Prod.fst) && (ps.map Prod.snd).all (fun x => formT d x 5)) := by
    show formT (d + 1) (Nd.mk 6 0 ByteArray.empty (ps.map Prod.fst) (ps.map Prod.snd) : Nd (Tr d)) 6 = _
    rw [formT_good hb, if_neg (by omega), if_neg (by omega), if_neg (by omega), if_pos rfl, putL_len2]
    simp only [beq_self_eq_true, Bool.true_and]
    rfl
  have h2 : manyT (d + 1) (mapT d ps) 6 = 1 + ((ps.map Prod.snd).map (fun x => manyT d x 5)).sum := rfl
  rw [okT_iff, h1, h2, Bool.and_eq_true, List.all_eq_true, and_assoc]
/-- A row that is ok is its trees. -/
theorem row_self {d : Nat} {t : Tr (d + 1)} (h : okT (d + 1) t = true) (h5 : Nd.kind t = 5) : t = rowT d (Nd.list t) := by
  obtain ⟨hf, _⟩ := okT_form h
  obtain ⟨kind, num, str, keys, list⟩ := t
  have h5 : kind = 5 := h5
  subst h5
  cases hb : headBad 5 num str keys.length list.length 6 with
  | true => rw [formT_bad hb] at hf; cases hf
  | false =>
    obtain ⟨_, g1, g2, g3, _⟩ := headBad_iff.1 hb
    obtain rfl := g1 (by omega)
    have hs : str = ByteArray.empty := str_empty (g2 (by omega))
    have hk := List.eq_nil_of_length_eq_zero (g3 (by omega))
    subst hs hk
    rfl
theorem map_self {d : Nat} {t : Tr (d + 1)} (h : okT (d + 1) t = true) (h6 : Nd.kind t = 6) : t = mapT d ((Nd.keys t).zip (Nd.list t)) := by
  have hl := okT_keys h h6
  obtain ⟨hf, _⟩ := okT_form h
  obtain ⟨kind, num, str, keys, list⟩ := t
  have h6 : kind = 6 := h6
  subst h6
  cases hb : headBad 6 num str keys.length list.length 6 with
  | true => rw [formT_bad hb] at hf; cases hf
  | false =>
    obtain ⟨_, g1, g2, g3, _⟩ := headBad_iff.1 hb
    obtain rfl := g1 (by omega)
    have hs : str = ByteArray.empty := str_empty (g2 (by omega))
    subst hs
    have hl : keys.length = list.length := hl
    show _ = (Nd.mk 6 0 ByteArray.empty ((keys.zip list).map Prod.fst) ((keys.zip list).map Prod.snd) : Nd (Tr d))
    rw [zip_fst _ _ hl, zip_snd' _ _ hl]

theorem setL_at {α : Type} (xs : List α) (z : α) (k : Nat) (x : α) : (setL xs z k x)[k]? = some x := by
  unfold setL
  rw [List.getElem?_set_self (by rw [padL_length]; omega)]
theorem setL_other {α : Type} {xs : List α} {z : α} {k : Nat} {x y : α} {j : Nat} (hj : xs[j]? = some y) (hne : j ≠ k) : (setL xs z k x)[j]? = some y := by
  unfold setL padL
  rw [List.getElem?_set_ne (Ne.symm hne), List.getElem?_append_left (List.getElem?_eq_some_iff.1 hj).1, hj]
theorem setL_in {α : Type} {xs : List α} {z : α} {k : Nat} {x : α} (hk : k < xs.length) : setL xs z k x = xs.set k x := by
  unfold setL padL
  rw [show k + 1 - xs.length = 0 by omega]
  simp
theorem setL_end {α : Type} {xs : List α} {z : α} {k : Nat} {x : α} (hk : k = xs.length) : setL xs z k x = xs ++ [x] := by
  subst hk
  unfold setL padL
  rw [show xs.length + 1 - xs.length = 1 by omega]
  simp

theorem rowL_cases {d : Nat} {t : Tr (d + 1)} {xs : List (Tr d)} (h : rowL d t = some xs) : okT (d + 1) t = true ∧ ((Nd.kind t = 0 ∧ xs = []) ∨ (Nd.kind t = 5 ∧ xs = Nd.list t)) := by
  unfold rowL at h
  split at h
  · rename_i hh
    split at h
    · cases h; exact ⟨hh, Or.inl ⟨by assumption, rfl⟩⟩
    split at h
    · cases h; exact ⟨hh, Or.inr ⟨by assumption, rfl⟩⟩
    · cases h
  · cases h
theorem rowL_rowT {d : Nat} {xs : List (Tr d)} (h : okT (d + 1) (rowT d xs) = true) : rowL d (rowT d xs) = some xs := by
  rw [rowL_ok h]
  rfl
theorem partAt_rowT {d : Nat} {xs : List (Tr (d + 1))} {i : Int} (h : okT (d + 2) (rowT (d + 1) xs) = true) : partAtT d (rowT (d + 1) xs) i = ((placeL xs i).getD (zeroT d), true) := by
  unfold partAtT
  rw [if_pos h]
  rfl
/-- The place that is meant, from the start. -/
def spotN (i : Int) (n : Nat) : Nat := (if i < 0 then i + n else i).toNat
theorem set_ok {d : Nat} {t : Tr (d + 2)} {i : Int} {x : Tr (d + 1)} (h : (partSetT d t i x).2 = true) :
    ∃ xs, rowL (d + 1) t = some xs ∧ okT (d + 1) x = true ∧ -(xs.length : Int) ≤ i ∧ i < 60 ∧ (partSetT d t i x).1 = rowT (d + 1) (setL xs (zeroT d) (spotN i xs.length) x) ∧ okT (d + 2) (rowT (d + 1) (setL xs (zeroT d) (spotN i xs.length) x)) = true := by
  unfold partSetT at h ⊢
  cases hm : rowL (d + 1) t with
  | none => rw [hm] at h; cases h
  | some xs =>
    rw [hm] at h
    by_cases hc : okT (d + 1) x = true ∧ -(xs.length : Int) ≤ i ∧ i < 60
    · have h' : okT (d + 2) (rowT (d + 1) (setL xs (zeroT d) (spotN i xs.length) x)) = true := by
        simp only [if_pos hc] at h
        exact h
      refine ⟨xs, rfl, hc.1, hc.2.1, hc.2.2, ?_, h'⟩
      simp only [if_pos hc]
      show toldT (d + 1) (rowT (d + 1) (setL xs (zeroT d) (spotN i xs.length) x)) = _
      unfold toldT
      rw [if_pos h']
    · simp only [if_neg hc] at h
      cases h
theorem set_row {d : Nat} {t : Tr (d + 2)} {i : Int} {x : Tr (d + 1)} {xs : List (Tr (d + 1))} (hr : rowL (d + 1) t = some xs) (hx : okT (d + 1) x = true) (h1 : -(xs.length : Int) ≤ i) (h2 : i < 60) (h : okT (d + 2) (rowT (d + 1) (setL xs (zeroT d) (spotN i xs.length) x)) = true) :
    partSetT d t i x = (rowT (d + 1) (setL xs (zeroT d) (spotN i xs.length) x), true) := by
  unfold partSetT
  rw [hr]
  simp only [if_pos (And.intro hx (And.intro h1 h2))]
  show (toldT (d + 1) (rowT (d + 1) (setL xs (zeroT d) (spotN i xs.length) x)), okT (d + 2) (rowT (d + 1) (setL xs (zeroT d) (spotN i xs.length) x))) = _
  unfold toldT
  rw [if_pos h, h]
theorem place_spot {i : Int} {n m : Nat} (h1 : -(n : Int) ≤ i) (hm : m = max n (spotN i n + 1)) : placeI i m = (spotN i n : Int) := by
  unfold placeI spotN at *
  by_cases h0 : i < 0
  · rw [if_pos h0] at hm ⊢
    have : m = n := by omega
    subst this
    rw [if_neg (by omega), if_pos h0]
    omega
  · rw [if_neg h0] at hm ⊢
    rw [if_neg (by omega), if_neg h0]
    omega
/-- What was set is there. -/
theorem at_set {d : Nat} {t : Tr (d + 2)} {i : Int} {x : Tr (d + 1)} (h : (partSetT d t i x).2 = true) : partAtT d (partSetT d t i x).1 i = (x, true) := by
  obtain ⟨xs, hr, hx, h1, h2, he, ho⟩ := set_ok h
  rw [he, partAt_rowT ho]
  have hp : placeI i (setL xs (zeroT d) (spotN i xs.length) x).length = (spotN i xs.length : Int) := place_spot h1 (setL_length _ _ _ _)
  unfold placeL
  rw [hp, if_neg (by omega), Int.toNat_natCast, setL_at]
  rfl
theorem at_set_other {d : Nat} {t : Tr (d + 2)} {i : Int} {x y : Tr (d + 1)} {j : Nat} (h : (partSetT d t i x).2 = true) (hj : (Nd.list t)[j]? = some y) (n1 : (j : Int) ≠ i) (n2 : (j : Int) ≠ i + (Nd.list t).length) : partAtT d (partSetT d t i x).1 (j : Int) = (y, true) := by
  obtain ⟨xs, hr, hx, h1, h2, he, ho⟩ := set_ok h
  obtain ⟨hok, hc⟩ := rowL_cases hr
  rcases hc with ⟨h0, rfl⟩ | ⟨h5, rfl⟩
  · rw [okT_nolist hok (by omega)] at hj
    simp at hj
  · rw [he, partAt_rowT ho]
    have hlt := (List.getElem?_eq_some_iff.1 hj).1
    have hs : j ≠ spotN i (Nd.list t).length := by unfold spotN; split <;> omega
    have hl := setL_length (Nd.list t) (zeroT d) (spotN i (Nd.list t).length) x
    unfold placeL placeI
    rw [if_neg (by omega), if_neg (by omega), if_neg (by omega), Int.toNat_natCast, setL_other hj hs]
    rfl
theorem set_len {d : Nat} {t : Tr (d + 2)} {i : Int} {x : Tr (d + 1)} (h : (partSetT d t i x).2 = true) : (Nd.list t).length ≤ (Nd.list (partSetT d t i x).1).length ∧ (i < 0 ∨ i < (Nd.list (partSetT d t i x).1).length) := by
  obtain ⟨xs, hr, hx, h1, h2, he, ho⟩ := set_ok h
  obtain ⟨hok, hc⟩ := rowL_cases hr
  have hl := setL_length xs (zeroT d) (spotN i xs.length) x
  rw [he]
  have e : (Nd.list (rowT (d + 1) (setL xs (zeroT d) (spotN i xs.length) x))).length = (setL xs (zeroT d) (spotN i xs.length) x).length := rfl
  rw [e, hl]
  have hn : (Nd.list t).length = xs.length := by
    rcases hc with ⟨h0, rfl⟩ | ⟨h5, rfl⟩
    · rw [okT_nolist hok (by omega)]
    · rfl
  rw [hn]
  refine ⟨by omega, ?_⟩
  by_cases h0 : i < 0
  · exact Or.inl h0
  · refine Or.inr ?_
    unfold spotN
    rw [if_neg h0]
    omega

theorem at_ok {d : Nat} {t : Tr (d + 2)} {i : Int} (h : (partAtT d t i).2 = true) : okT (d + 2) t = true ∧ (Nd.kind t = 0 ∨ Nd.kind t = 5) := by
  unfold partAtT at h
  by_cases ho : okT (d + 2) t = true
  · refine ⟨ho, ?_⟩
    rw [if_pos ho] at h
    by_cases h0 : Nd.kind t = 0
    · exact Or.inl h0
    · rw [if_neg h0] at h
      by_cases h5 : Nd.kind t = 5
      · exact Or.inr h5
      · rw [if_neg h5] at h
        cases h
  · rw [if_neg ho] at h
    cases h
theorem at_out {d : Nat} {t : Tr (d + 2)} {i : Int} (h : okT (d + 2) t = true) (h5 : Nd.kind t = 5) (ho : ((Nd.list t).length : Int) ≤ i ∨ i < -((Nd.list t).length : Int)) : partAtT d t i = (zeroT d, true) := by
  unfold partAtT
  rw [if_pos h, if_neg (by omega), if_pos h5]
  unfold placeL placeI
  rw [if_pos (by omega)]
  rfl
theorem set_no {d : Nat} {t : Tr (d + 2)} {i : Int} {x : Tr (d + 1)} (h : (partSetT d t i x).2 = false) : (partSetT d t i x).1 = zeroT (d + 1) := by
  unfold partSetT at h ⊢
  cases hm : rowL (d + 1) t with
  | none => rfl
  | some xs =>
    rw [hm] at h
    by_cases hc : okT (d + 1) x = true ∧ -(xs.length : Int) ≤ i ∧ i < 60
    · simp only [if_pos hc] at h ⊢
      show toldT (d + 1) _ = _
      unfold toldT
      rw [if_neg (by rw [h]; simp)]
    · simp only [if_neg hc]
theorem put_keys {d : Nat} {t : Tr (d + 2)} {s k : ByteArray} {x : Tr (d + 1)} {i : Nat} (h : (partPutT d t s x).2 = true) (hk : (Nd.keys t)[i]? = some k) : i < (Nd.list t).length := by
  obtain ⟨keys, xs, hm, _, _, _⟩ := put_ok h
  obtain ⟨hok, _, hl, _, hc⟩ := mapL_some hm
  rcases hc with ⟨h0, rfl, rfl⟩ | ⟨h6, rfl, rfl⟩
  · rw [okT_nokeys hok (by omega)] at hk
    simp at hk
  · rw [← hl]
    exact (List.getElem?_eq_some_iff.1 hk).1
theorem wt_list {d : Nat} (t : Tr (d + 2)) : (Nd.list t).length ≤ wtT (d + 2) t := by
  have hp : ∀ xs : List (Tr (d + 1)), xs.length ≤ (xs.map (wtT (d + 1))).sum := by
    intro xs
    induction xs with
    | nil => simp
    | cons y r ih =>
      have : 3 ≤ wtT (d + 1) y := by rw [wtT]; omega
      simp only [List.map_cons, List.sum_cons, List.length_cons]
      omega
  have := hp (Nd.list t)
  rw [wtT]
  omega
/-- Yes, as a tree. -/
def yesT (d : Nat) : Tr (d + 1) := (Nd.mk 2 0 ByteArray.empty [] [] : Nd (Tr d))
theorem yes_form (d : Nat) (deep : Int) (h : 1 ≤ deep) : formT (d + 1) (yesT d) deep = true ∧ manyT (d + 1) (yesT d) deep = 1 := by
  have hb : headBad 2 0 ByteArray.empty ([] : List ByteArray).length ([] : List (Tr d)).length deep = false := headBad_iff.2 ⟨by omega, fun _ => rfl, fun _ => empty_toList, fun _ => rfl, fun _ => rfl⟩
  refine ⟨?_, ?_⟩
  · show formT (d + 1) (Nd.mk 2 0 ByteArray.empty [] [] : Nd (Tr d)) deep = true
    rw [formT_good hb]
    rfl
  · show 1 + (if 0 < deep then _ else 0) = 1
    rw [if_pos (by omega)]
    rfl
theorem okT_yes (d : Nat) : okT (d + 1) (yesT d) = true := okT_iff.2 ⟨(yes_form d 6 (by omega)).1, by rw [(yes_form d 6 (by omega)).2]; omega⟩
theorem sum_set_le {α : Type} (f : α → Nat) (y : α) : ∀ (xs : List α) (k : Nat), (∀ x ∈ xs, f y ≤ f x) → ((xs.set k y).map f).sum ≤ (xs.map f).sum
  | [], _, _ => by simp
  | x :: r, 0, h => by
    have := h x (by simp)
    simp only [List.set_cons_zero, List.map_cons, List.sum_cons]
    omega
  | x :: r, k + 1, h => by
    have := sum_set_le f y r k (fun z hz => h z (by simp [hz]))
    simp only [List.set_cons_succ, List.map_cons, List.sum_cons]
    omega
theorem many_one {d : Nat} (t : Tr (d + 1)) (deep : Int) : 1 ≤ manyT (d + 1) t deep := by rw [manyT]; omega
theorem okT_rowlen {d : Nat} {xs : List (Tr (d + 1))} (h : okT (d + 2) (rowT (d + 1) xs) = true) : xs.length < 60 := by
  have hs := (okT_rowT_iff.1 h).2
  have hl : ∀ ys : List (Tr (d + 1)), ys.length ≤ (ys.map (fun x => manyT (d + 1) x 5)).sum := by
    intro ys
    induction ys with
    | nil => simp
    | cons y r ih =>
      have := many_one y 5
      simp only [List.map_cons, List.sum_cons, List.length_cons]
      omega
  have := hl xs
  omega
/-- Yes at a place of a row that is ok; what was there comes back. -/
theorem set_yes {d : Nat} {t : Tr (d + 2)} {i : Int} (h : okT (d + 2) t = true) (h5 : Nd.kind t = 5) (h1 : -((Nd.list t).length : Int) ≤ i) (h2 : i < (Nd.list t).length) :
    partSetT d t i (yesT d) = (rowT (d + 1) ((Nd.list t).set (spotN i (Nd.list t).length) (yesT d)), true) ∧ okT (d + 2) (rowT (d + 1) ((Nd.list t).set (spotN i (Nd.list t).length) (yesT d))) = true := by
  have hself := row_self h h5
  have ho := h
  rw [hself] at ho
  have hlen := okT_rowlen ho
  have hk : spotN i (Nd.list t).length < (Nd.list t).length := by unfold spotN; split <;> omega
  obtain ⟨f1, f2⟩ := okT_rowT_iff.1 ho
  have hr : rowL (d + 1) t = some (Nd.list t) := by rw [rowL_ok h, if_neg (by omega), if_pos h5]
  have ho2 : okT (d + 2) (rowT (d + 1) ((Nd.list t).set (spotN i (Nd.list t).length) (yesT d))) = true := by
    refine okT_rowT_iff.2 ⟨fun x hx => ?_, ?_⟩
    · rcases List.mem_or_eq_of_mem_set hx with hx | rfl
      · exact f1 x hx
      · exact (yes_form d 5 (by omega)).1
    · have := sum_set_le (fun x => manyT (d + 1) x 5) (yesT d) (Nd.list t) (spotN i (Nd.list t).length) (fun x _ => by show manyT (d + 1) (yesT d) 5 ≤ manyT (d + 1) x 5; rw [(yes_form d 5 (by omega)).2]; exact many_one x 5)
      omega
  have hset : setL (Nd.list t) (zeroT d) (spotN i (Nd.list t).length) (yesT d) = (Nd.list t).set (spotN i (Nd.list t).length) (yesT d) := setL_in hk
  refine ⟨?_, ho2⟩
  rw [← hset] at ho2 ⊢
  exact set_row hr (okT_yes d) h1 (by omega) ho2
theorem set_back {d : Nat} {t : Tr (d + 2)} {i : Int} (h : okT (d + 2) t = true) (h5 : Nd.kind t = 5) (h1 : -((Nd.list t).length : Int) ≤ i) (h2 : i < (Nd.list t).length) :
    partSetT d (partSetT d t i (yesT d)).1 i (partAtT d t i).1 = (t, true) := by
  obtain ⟨hy, ho⟩ := set_yes h h5 h1 h2
  have hself := row_self h h5
  have hlen : (Nd.list t).length < 60 := by rw [hself] at h; exact okT_rowlen h
  rw [hy]
  have hk : spotN i (Nd.list t).length < (Nd.list t).length := by unfold spotN; split <;> omega
  obtain ⟨x, hx⟩ : ∃ x, (Nd.list t)[spotN i (Nd.list t).length]? = some x := ⟨_, List.getElem?_eq_getElem hk⟩
  have hat : partAtT d t i = (x, true) := by
    unfold partAtT
    rw [if_pos h, if_neg (by omega), if_pos h5]
    have hp : placeI i (Nd.list t).length = (spotN i (Nd.list t).length : Int) := place_spot h1 (by omega)
    unfold placeL
    rw [hp, if_neg (by omega), Int.toNat_natCast, hx]
    rfl
  rw [hat]
  have hxo := okT_part h (List.mem_of_getElem? hx)
  have hl2 : ((Nd.list t).set (spotN i (Nd.list t).length) (yesT d)).length = (Nd.list t).length := List.length_set
  have hset : setL ((Nd.list t).set (spotN i (Nd.list t).length) (yesT d)) (zeroT d) (spotN i ((Nd.list t).set (spotN i (Nd.list t).length) (yesT d)).length) x = Nd.list t := by
    rw [hl2, setL_in (by rw [hl2]; exact hk), List.set_set]
    obtain ⟨_, e⟩ := List.getElem?_eq_some_iff.1 hx
    rw [← e, List.set_getElem_self]
  have hfin := set_row (d := d) (t := rowT (d + 1) ((Nd.list t).set (spotN i (Nd.list t).length) (yesT d))) (i := i) (x := x) (rowL_rowT ho) hxo (by rw [hl2]; exact h1) (by omega) (by rw [hset]; rw [← hself]; exact h)
  rw [hset, ← hself] at hfin
  exact hfin
theorem at_other {d : Nat} {t : Tr (d + 2)} {i j : Int} (h : placeI i (Nd.list t).length = placeI j (Nd.list t).length) : partAtT d t i = partAtT d t j := by
  unfold partAtT placeL
  rw [h]
theorem set_other {d : Nat} {t : Tr (d + 2)} {i j : Int} {x : Tr (d + 1)} (hl : (Nd.list t).length < 60) (h5 : Nd.kind t = 5) (h1 : -((Nd.list t).length : Int) ≤ i) (h2 : i < (Nd.list t).length) (k1 : -((Nd.list t).length : Int) ≤ j) (k2 : j < (Nd.list t).length) (hs : spotN i (Nd.list t).length = spotN j (Nd.list t).length) : partSetT d t i x = partSetT d t j x := by
  unfold partSetT rowL
  rw [if_neg (show ¬ Nd.kind t = 0 by omega), if_pos h5]
  by_cases ho : okT (d + 2) t = true
  · rw [if_pos ho]
    unfold spotN at hs
    simp only [hs]
    by_cases hx : okT (d + 1) x = true
    · simp only [if_pos (And.intro hx (And.intro h1 (show i < 60 by omega))), if_pos (And.intro hx (And.intro k1 (show j < 60 by omega)))]
    · simp only [if_neg (show ¬ (okT (d + 1) x = true ∧ -((Nd.list t).length : Int) ≤ i ∧ i < 60) from fun e => hx e.1), if_neg (show ¬ (okT (d + 1) x = true ∧ -((Nd.list t).length : Int) ≤ j ∧ j < 60) from fun e => hx e.1)]
  · rw [if_neg ho]

/-- The first so many trees of a row, nothing of none. -/
def eachRow (d : Nat) (xs : List (Tr (d + 1))) (k : Nat) : Tr (d + 2) := if k = 0 then zeroT (d + 1) else rowT (d + 1) (xs.take k)
def eachMap (d : Nat) (ps : List (ByteArray × Tr (d + 1))) (k : Nat) : Tr (d + 2) := if k = 0 then zeroT (d + 1) else mapT (d + 1) (ps.take k)
theorem sum_take_le' {α : Type} (f : α → Nat) : ∀ (xs : List α) (k : Nat), ((xs.take k).map f).sum ≤ (xs.map f).sum
  | [], k => by simp
  | x :: r, 0 => by simp
  | x :: r, k + 1 => by
    have := sum_take_le' f r k
    simp only [List.take_succ_cons, List.map_cons, List.sum_cons]
    omega
theorem okT_take {d : Nat} {xs : List (Tr d)} (h : okT (d + 1) (rowT d xs) = true) (k : Nat) : okT (d + 1) (rowT d (xs.take k)) = true := by
  obtain ⟨f1, f2⟩ := okT_rowT_iff.1 h
  have := sum_take_le' (fun x => manyT d x 5) xs k
  exact okT_rowT_iff.2 ⟨fun x hx => f1 x (List.mem_of_mem_take hx), by omega⟩
theorem keysGo_take : ∀ (ks : List ByteArray) (p : Option ByteArray) (k : Nat), keysGo p ks = true → keysGo p (ks.take k) = true
  | [], p, k, h => by simpa using h
  | a :: r, p, 0, h => by cases p <;> rfl
  | a :: r, none, k + 1, h => by
    simp only [keysGo, Bool.and_eq_true, List.take_succ_cons] at h ⊢
    exact ⟨h.1, keysGo_take r _ k h.2⟩
  | a :: r, some q, k + 1, h => by
    simp only [keysGo, Bool.and_eq_true, List.take_succ_cons] at h ⊢
    exact ⟨h.1, h.2.1, keysGo_take r _ k h.2.2⟩
theorem okT_takeM {d : Nat} {ps : List (ByteArray × Tr d)} (h : okT (d + 1) (mapT d ps) = true) (k : Nat) : okT (d + 1) (mapT d (ps.take k)) = true := by
  obtain ⟨f0, f1, f2⟩ := okT_mapT_iff.1 h
  refine okT_mapT_iff.2 ⟨?_, fun x hx => ?_, ?_⟩
  · rw [List.map_take]
    exact keysGo_take _ none k f0
  · rw [List.map_take] at hx
    exact f1 x (List.mem_of_mem_take hx)
  · rw [List.map_take]
    have := sum_take_le' (fun x => manyT d x 5) (ps.map Prod.snd) k
    omega
theorem each_row_step {d : Nat} {xs : List (Tr (d + 1))} {k : Nat} {x : Tr (d + 1)} (h : okT (d + 2) (rowT (d + 1) xs) = true) (hx : xs[k]? = some x) : partSetT d (eachRow d xs k) (k : Int) x = (eachRow d xs (k + 1), true) := by
  have hlt := (List.getElem?_eq_some_iff.1 hx).1
  have hlen := okT_rowlen h
  have hr : rowL (d + 1) (eachRow d xs k) = some (xs.take k) := by
    unfold eachRow
    by_cases h0 : k = 0
    · subst h0
      rw [if_pos rfl, rowL_ok (okT_zero (d + 1)), if_pos (show Nd.kind (zeroT (d + 1)) = 0 from rfl)]
      simp
    · rw [if_neg h0]
      exact rowL_rowT (okT_take h k)
  have hl : (xs.take k).length = k := by rw [List.length_take]; omega
  have hs : spotN (k : Int) (xs.take k).length = k := by unfold spotN; rw [if_neg (by omega)]; omega
  have hset : setL (xs.take k) (zeroT d) (spotN (k : Int) (xs.take k).length) x = xs.take (k + 1) := by
    rw [hs, setL_end hl.symm]
    obtain ⟨hk, e⟩ := List.getElem?_eq_some_iff.1 hx
    rw [List.take_succ_eq_append_getElem hk, e]
  have hxo : okT (d + 1) x = true := okT_part (t := rowT (d + 1) xs) h (List.mem_of_getElem? hx)
  have := set_row (t := eachRow d xs k) (i := (k : Int)) hr hxo (by omega) (by omega) (by rw [hset]; exact okT_take h (k + 1))
  rw [this, hset]
  unfold eachRow
  rw [if_neg (by omega)]
theorem putL_end {α : Type} {s : ByteArray} {x : α} : ∀ {ks : List ByteArray} {xs : List α}, ks.length = xs.length → (∀ k ∈ ks, ltB k s = true) → putL ks xs s x = ks.zip xs ++ [(s, x)]
  | [], [], _, _ => by rw [putL_nil]; rfl
  | [], _ :: _, h, _ => by simp at h
  | _ :: _, [], h, _ => by simp at h
  | k :: ks, y :: ys, h, hk => by
    rw [putL_cons, if_pos (hk k (by simp)), putL_end (by simpa using h) (fun q hq => hk q (by simp [hq])), zip_cons]
    rfl
theorem keysGo_lt : ∀ (ks : List ByteArray) (p : Option ByteArray) (k : Nat) (s : ByteArray), keysGo p ks = true → ks[k]? = some s → ∀ q ∈ ks.take k, ltB q s = true
  | [], _, _, _, _, h, _, _ => by simp at h
  | a :: r, _, 0, _, _, _, q, hq => by simp at hq
  | a :: r, p, k + 1, s, h, hs, q, hq => by
    have hs' : r[k]? = some s := by simpa using hs
    simp only [List.take_succ_cons, List.mem_cons] at hq
    rcases hq with rfl | hq
    · exact keysGo_all r q (keysGo_tail h) s (List.mem_of_getElem? hs')
    · exact keysGo_lt r _ k s (keysGo_tail h) hs' q hq
theorem each_map_step {d : Nat} {ps : List (ByteArray × Tr (d + 1))} {k : Nat} {s : ByteArray} {x : Tr (d + 1)} (h : okT (d + 2) (mapT (d + 1) ps) = true) (hx : ps[k]? = some (s, x)) : partPutT d (eachMap d ps k) s x = (eachMap d ps (k + 1), true) := by
  obtain ⟨f0, f1, f2⟩ := okT_mapT_iff.1 h
  have hlt := (List.getElem?_eq_some_iff.1 hx).1
  have hks : (ps.map Prod.fst)[k]? = some s := by rw [List.getElem?_map, hx]; rfl
  have hso := keysGo_ok _ none f0 s (List.mem_of_getElem? hks)
  have hm : mapL (d + 1) (eachMap d ps k) s = some ((ps.take k).map Prod.fst, (ps.take k).map Prod.snd) := by
    unfold eachMap
    by_cases h0 : k = 0
    · subst h0
      rw [if_pos rfl, mapL_ok (okT_zero (d + 1)) hso, if_pos (show Nd.kind (zeroT (d + 1)) = 0 from rfl)]
      simp
    · rw [if_neg h0]
      exact mapL_mapT (okT_takeM h k) hso
  have hput : putL ((ps.take k).map Prod.fst) ((ps.take k).map Prod.snd) s x = ps.take (k + 1) := by
    rw [putL_end (putL_len2 _) (fun q hq => keysGo_lt _ none k s f0 hks q (by rw [← List.map_take]; exact hq)), zip_unzip]
    obtain ⟨hk, e⟩ := List.getElem?_eq_some_iff.1 hx
    rw [List.take_succ_eq_append_getElem hk, e]
  have hxo : okT (d + 1) x = true := okT_part (t := mapT (d + 1) ps) h (List.mem_of_getElem? (l := ps.map Prod.snd) (i := k) (by rw [List.getElem?_map, hx]; rfl))
  have ho := okT_takeM h (k + 1)
  unfold partPutT
  rw [hm]
  show (if okT (d + 1) x = true then (toldT (d + 1) (mapT (d + 1) (putL ((ps.take k).map Prod.fst) ((ps.take k).map Prod.snd) s x)), okT (d + 2) (mapT (d + 1) (putL ((ps.take k).map Prod.fst) ((ps.take k).map Prod.snd) s x))) else (zeroT (d + 1), false)) = _
  rw [if_pos hxo, hput]
  unfold toldT eachMap
  rw [if_pos ho, if_neg (by omega), ho]
/-- What is put into nothing is there alone. -/
theorem none_put {d : Nat} {s : ByteArray} {x : Tr (d + 1)} (h : (partPutT d (zeroT (d + 1)) s x).2 = true) : Nd.list (partPutT d (zeroT (d + 1)) s x).1 = [x] := by
  obtain ⟨keys, xs, hm, hx, he, ho⟩ := put_ok h
  obtain ⟨_, _, _, _, hc⟩ := mapL_some hm
  rcases hc with ⟨_, rfl, rfl⟩ | ⟨h6, _, _⟩
  · rw [he, putL_nil]
    rfl
  · cases h6
theorem none_set {d : Nat} {x : Tr (d + 1)} (h : (partSetT d (zeroT (d + 1)) 0 x).2 = true) : Nd.list (partSetT d (zeroT (d + 1)) 0 x).1 = [x] := by
  obtain ⟨xs, hr, hx, h1, h2, he, ho⟩ := set_ok h
  obtain ⟨_, hc⟩ := rowL_cases hr
  rcases hc with ⟨_, rfl⟩ | ⟨h5, _⟩
  · rw [he]
    rfl
  · cases h5
theorem none_get (d : Nat) {s : ByteArray} (hs : strOk s = true) : partGetT d (zeroT (d + 1)) s = (zeroT d, true) := by
  unfold partGetT
  rw [if_pos ⟨okT_zero (d + 1), hs⟩]
  rfl
end Go.Proofs.YtoangpfmjohhmaaGreatDoor
