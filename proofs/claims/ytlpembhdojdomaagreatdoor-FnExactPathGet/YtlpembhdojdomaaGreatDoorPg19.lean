/- Texts of the proof, put together by program: WAt, WGet. -/
import Derived.Test.YtlpembhdojdomaaGreatDoorPg13
import Derived.Test.YtlpembhdojdomaaGreatDoorPg18
import Derived.Test.YtlpembhdojdomaaGreatDoorPg9
/- PartAt of the program. -/
namespace Go.Proofs.YtlpembhdojdomaaGreatDoor
open Go.RowKit Go.Deep

theorem fromStart_any (i : Int) (n : Nat) (hi : I64 i) (hn : n ≤ 60) (w : World) : Calls Tryz.prog 49 #[.int .i64 i, .int .i64 n] w fun e w' => e = .returned (.int .i64 (if i < 0 then i + n else i)) ∧ w' = w := by
  obtain ⟨hi1, hi2⟩ := hi
  by_cases h3 : i < 0
  · have hm : Hid ((if i < 0 then i + (n : Int) else i) = i + n) := if_pos h3
    go_enter Tryz.func49, Tryz.ntmps49
    go_wp2_with fail
    go_ret
    exact ⟨rfl, rfl⟩
  · have hm : Hid ((if i < 0 then i + (n : Int) else i) = i) := if_neg h3
    go_enter Tryz.func49, Tryz.ntmps49
    go_wp2_with fail
    go_ret
    exact ⟨rfl, rfl⟩

/-- The list of a tree of which a place may be asked. -/
def rowL (d : Nat) (t : Tr (d + 1)) : Option (List (Tr d)) := if okT (d + 1) t = true then (if Nd.kind t = 0 then some [] else if Nd.kind t = 5 then some (Nd.list t) else none) else none

theorem rowL_ok {d : Nat} {t : Tr (d + 1)} (h : okT (d + 1) t = true) : rowL d t = (if Nd.kind t = 0 then some [] else if Nd.kind t = 5 then some (Nd.list t) else none) := if_pos h
/-- What partsInRow is asked to give. -/
def RowQ (d : Nat) (t : Tr (d + 1)) (w : World) (e : Ending) (w' : World) : Prop :=
  Below w.heap.size w w' ∧ ((∃ xs a cap, rowL d t = some xs ∧ e = .returned (.tuple #[.slice a xs.length cap, .nilIface]) ∧ Row1At (Fresh w w') w' (TreeG (Fresh w w') w' d) (.slice a xs.length cap) xs) ∨ (rowL d t = none ∧ ∃ why, e = .returned (.tuple #[.slice none 0 0, faultV why])))

set_option maxRecDepth 100000 in
set_option maxHeartbeats 4000000 in
theorem partsInRow_any (d : Nat) (S : Nat → Prop) (t : Tr (d + 1)) (v : Value) (w : World) (hv : ValAt S w (d + 1) t v) (hS : Within S w) :
    Calls Tryz.prog 47 #[v] w (RowQ d t w) := by
  obtain ⟨k, n, s, ak, lk, ck, al, ll, cl, rfl⟩ := hv.shape
  have hA := below_alloc1 w (.cells #[.int .i64 k, .int .i64 n, .string s, .slice ak lk ck, .slice al ll cl] 29)
  have hAs := hA.size
  go_enter Tryz.func47, Tryz.ntmps47
  go_wp2_with fail
  refine (given_any (d + 1) S t _ _ (hv.same (hS.same hA)) (hS.later hA.size)).mono ?_
  rintro e w1 ⟨hb1, hq⟩
  have hB := below_trans hA hb1
  clear hb1 hA hv
  rcases hq with ⟨hok, u, rfl, hu⟩ | ⟨hok, why, rfl⟩
  · rcases hu with ⟨k', h1, rfl, rfl⟩ | ⟨n', h1, rfl, rfl⟩ | ⟨s', h1, rfl, rfl⟩ | ⟨xs, sv, h1, rfl, rfl, hr⟩ | ⟨keys, xs, ps, r, es, h1, h2, h3, h4, rfl, rfl, hr, hm, he⟩
    · have a3 := Tryz.asR_B
      go_wp2_with fail
      refine (isNothing_bare k' w1).mono ?_
      rintro e w2 ⟨rfl, hb2⟩
      have HB2 := hide (below_trans hB hb2)
      clear hb2 hB
      by_cases hk0 : k' = 0
      · have hkb : (k' == 0) = true := by simpa using hk0
        have hq : Hid (rowL d (Nd.mk k' 0 ByteArray.empty [] [] : Nd (Tr d)) = some []) := by
          refine (rowL_ok hok).trans ?_
          show (if k' = 0 then _ else _) = _
          rw [if_pos hk0]
        clear hk0
        go_wp2_with fail
        go_ret2
        exact ⟨HB2.out, Or.inl ⟨[], none, 0, hq.out, rfl, ⟨by show (0 : Nat) < 17592186044416; omega, none, 0, rfl, Or.inl rfl⟩⟩⟩
      · have hkb : (k' == 0) = false := by simpa using hk0
        have hq : Hid (rowL d (Nd.mk k' 0 ByteArray.empty [] [] : Nd (Tr d)) = none) := by
          refine (rowL_ok hok).trans ?_
          show (if k' = 0 then _ else if k' = 5 then _ else _) = _
          rw [if_neg hk0, if_neg (by omega)]
        clear hk0
        go_wp2_with fail
        go_ret2
        exact ⟨below_trans HB2.out (below_alloc1 _ _), Or.inr ⟨hq.out, _, rfl⟩⟩
    · have a3 := Tryz.asR_N
      have hq : Hid (rowL d (Nd.mk 3 n' ByteArray.empty [] [] : Nd (Tr d)) = none) := by
        exact (rowL_ok hok).trans rfl
      go_wp2_with fail
      refine (isNothing_num _ w1).mono ?_
      rintro e w2 ⟨rfl, hb2⟩
      have HB2 := hide (below_trans hB hb2)
      clear hb2 hB
      go_wp2_with fail
      go_ret2
      exact ⟨below_trans HB2.out (below_alloc1 _ _), Or.inr ⟨hq.out, _, rfl⟩⟩
    · have a3 := Tryz.asR_S
      have hq : Hid (rowL d (Nd.mk 4 0 s' [] [] : Nd (Tr d)) = none) := by
        exact (rowL_ok hok).trans rfl
      go_wp2_with fail
      refine (isNothing_str _ w1).mono ?_
      rintro e w2 ⟨rfl, hb2⟩
      have HB2 := hide (below_trans hB hb2)
      clear hb2 hB
      go_wp2_with fail
      go_ret2
      exact ⟨below_trans HB2.out (below_alloc1 _ _), Or.inr ⟨hq.out, _, rfl⟩⟩
    · have a3 := Tryz.asR_R
      obtain ⟨sa, sc, rfl, _⟩ := hr.open'
      have hq : Hid (rowL d (Nd.mk 5 0 ByteArray.empty [] xs : Nd (Tr d)) = some xs) := by
        exact (rowL_ok hok).trans rfl
      go_wp2_with fail
      refine (isNothing_row _ w1).mono ?_
      rintro e w2 ⟨rfl, hb2⟩
      have hA2 := below_alloc1 w2 (.cells #[.slice sa xs.length sc] 110)
      have hb3 := below_trans hb2 hA2
      have HB2 := hide (below_trans hB hb3)
      have hmv := (Fresh.within (w.alloc (.cells #[.int .i64 k, .int .i64 n, .string s, .slice ak lk ck, .slice al ll cl] 29)) w1).same hb3
      have hsz := hb3.size
      have hfr : ∀ b, Fresh (w.alloc (.cells #[.int .i64 k, .int .i64 n, .string s, .slice ak lk ck, .slice al ll cl] 29)) w1 b → Fresh w (w2.alloc (.cells #[.slice sa xs.length sc] 110)) b := fun b hb => ⟨by have := hb.1; omega, by have := hb.2; omega⟩
      have HR := hide (hr.moved hmv hfr (fun x u hx => TreeG.moved hmv hfr d x u hx))
      clear hb2 hB hb3 hA2 hmv hr hfr
      go_wp2_with fail
      go_ret2
      exact ⟨HB2.out, Or.inl ⟨xs, sa, sc, hq.out, rfl, HR.out⟩⟩
    · have a3 := Tryz.asR_M
      have hq : Hid (rowL d (Nd.mk 6 0 ByteArray.empty keys xs : Nd (Tr d)) = none) := by
        exact (rowL_ok hok).trans rfl
      clear he hm hr h4 h3 h2
      go_wp2_with fail
      refine (isNothing_map _ w1).mono ?_
      rintro e w2 ⟨rfl, hb2⟩
      have HB2 := hide (below_trans hB hb2)
      clear hb2 hB
      go_wp2_with fail
      go_ret2
      exact ⟨below_trans HB2.out (below_alloc1 _ _), Or.inr ⟨hq.out, _, rfl⟩⟩
  · unfold faultV
    go_wp2_with fail
    go_ret2
    refine ⟨hB, Or.inr ⟨?_, why, rfl⟩⟩
    rw [rowL, if_neg (by rw [hok]; simp)]

theorem partAt_some {d : Nat} {t : Tr (d + 2)} {i : Int} {xs : List (Tr (d + 1))} (h : rowL (d + 1) t = some xs) : partAtT d t i = ((placeL xs i).getD (zeroT d), true) ∧ xs.length ≤ 60 ∧ ∀ x ∈ xs, okT (d + 1) x = true := by
  unfold rowL at h
  unfold partAtT
  split at h
  · rename_i hok
    rw [if_pos hok]
    split at h
    · rename_i h0
      rw [if_pos h0]
      cases h
      refine ⟨?_, by show (0 : Nat) ≤ 60; omega, fun x hx => by cases hx⟩
      have : placeL ([] : List (Tr (d + 1))) i = none := by
        unfold placeL
        split <;> simp
      rw [this]
      rfl
    · rename_i h0
      rw [if_neg h0]
      split at h
      · rename_i h5
        rw [if_pos h5]
        cases h
        exact ⟨rfl, (okT_kinds hok).2.1, fun x hx => okT_part hok hx⟩
      · cases h
  · cases h
theorem partAt_none {d : Nat} {t : Tr (d + 2)} {i : Int} (h : rowL (d + 1) t = none) : partAtT d t i = (zeroT d, false) := by
  unfold rowL at h
  unfold partAtT
  split at h
  · rename_i hok
    rw [if_pos hok]
    split at h
    · cases h
    · rename_i h0
      rw [if_neg h0]
      split at h
      · cases h
      · rename_i h5
        rw [if_neg h5]
  · rename_i hok
    rw [if_neg hok]
theorem place_out {α : Type} {xs : List α} {i j : Int} (hj : j = if i < 0 then i + (xs.length : Int) else i) (h : j < 0 ∨ (xs.length : Int) ≤ j) : placeL xs i = none := by
  unfold placeL placeI
  rw [if_pos (c := i < -(xs.length : Int) ∨ (xs.length : Int) ≤ i) (by split at hj <;> omega), if_pos (by omega)]
theorem place_in {α : Type} {xs : List α} {i : Int} {k : Nat} (hj : (k : Int) = if i < 0 then i + (xs.length : Int) else i) (h : k < xs.length) : placeL xs i = xs[k]? := by
  unfold placeL placeI
  rw [if_neg (c := i < -(xs.length : Int) ∨ (xs.length : Int) ≤ i) (by split at hj <;> omega), ← hj, if_neg (by omega), Int.toNat_natCast]

theorem bareTree_at (d : Nat) (S : Nat → Prop) (w : World) : TreeG S w (d + 1) (zeroT d) (.iface 116 (.agg #[.int .i64 0])) := Or.inl ⟨0, by omega, rfl, rfl⟩

set_option maxRecDepth 100000 in
set_option maxHeartbeats 4000000 in
theorem implPartAt_any (d : Nat) (S : Nat → Prop) (t : Tr (d + 2)) (v : Value) (i : Int) (hi : I64 i) (w : World) (hv : ValAt S w (d + 2) t v) (hS : Within S w) (hg : ErrType w) :
    Calls Tryz.prog 83 #[v, .int .i64 i] w (TellQ d (partAtT d t i).1 (partAtT d t i).2 w) := by
  obtain ⟨k, n, s, ak, lk, ck, al, ll, cl, rfl⟩ := hv.shape
  obtain ⟨W0, hW⟩ : ∃ W0, W0 = (w.alloc (.cells #[.int .i64 k, .int .i64 n, .string s, .slice ak lk ck, .slice al ll cl] 29)).alloc (.cells #[.int .i64 0, .int .i64 0, .string { data := #[] }, .slice none 0 0, .slice none 0 0] 29) := ⟨_, rfl⟩
  have hW0 : Below w.heap.size w W0 := by rw [hW]; exact below_trans (below_alloc1 _ _) (below_alloc1 _ _)
  have k1 : Blk5 W0 (w.heap.size + 1) 29 (.int .i64 0) (.int .i64 0) (.string { data := #[] }) (.slice none 0 0) (.slice none 0 0) := by
    have := Blk5.new (w.alloc (.cells #[.int .i64 k, .int .i64 n, .string s, .slice ak lk ck, .slice al ll cl] 29)) 29 (.int .i64 0) (.int .i64 0) (.string { data := #[] }) (.slice none 0 0) (.slice none 0 0)
    rw [World.size_alloc] at this
    rw [hW]
    exact this
  have HW := hide hW
  clear hW
  go_enter Tryz.func83, Tryz.ntmps83
  go_wp2_with fail
  rw [← HW.out]
  clear HW
  refine (partsInRow_any (d + 1) S t _ W0 (hv.same (hS.same hW0)) (hS.later hW0.size)).mono ?_
  rintro e w1 ⟨hb1, hq⟩
  have hB1 := below_trans hW0 hb1
  have k2 := k1.below hb1
  have hg1 := hg.below hB1
  have hlt := k2.lt
  -- what is told, however it is
  have hfin : ∀ (w1' : World), Below w1.heap.size w1 w1' → ∀ (x : Tr (d + 1)) (ok : Bool), Hid (∀ e w2, TellQ d x ok w1' e w2 → ∃ v0 v1 v2 v3 v4 v5 v6 v7 v8, e = .returned (.tuple #[.agg #[.int .i64 v0, .int .i64 v1, .string v2, .slice v3 v4 v5, .slice v6 v7 v8], .bool ok]) ∧
      Blk5 w2 (w.heap.size + 1) 29 (.int .i64 0) (.int .i64 0) (.string { data := #[] }) (.slice none 0 0) (.slice none 0 0) ∧
      ∀ wF, wF = set5 w2 (w.heap.size + 1) 0 (.int .i64 v0) (.int .i64 v1) (.string v2) (.slice v3 v4 v5) (.slice v6 v7 v8) → ValOwn wF (d + 1) (Fresh w wF) x (.agg #[.int .i64 v0, .int .i64 v1, .string v2, .slice v3 v4 v5, .slice v6 v7 v8]) ∧ Below w.heap.size w wF) := fun w1' hb' x ok => by
    intro e w2 ⟨v, he, hv, hb2⟩
    obtain ⟨v0, v1, v2, v3, v4, v5, v6, v7, v8, rfl⟩ := (ValOwn.at _ _ _ _ hv).shape
    exact ⟨v0, v1, v2, v3, v4, v5, v6, v7, v8, he, (k2.below hb').below hb2, tell_end hv (below_trans (below_trans hB1 hb') hb2) (by omega) (Nat.lt_of_lt_of_le hlt hb'.size)⟩
  clear hv hW0 k1 k2
  rcases hq with ⟨xs, xa, xc, hrow, rfl, hxs⟩ | ⟨hrow, why, rfl⟩
  · obtain ⟨hR, hx60, hxok⟩ := partAt_some (i := i) hrow
    obtain ⟨j, hj⟩ : ∃ j : Int, j = if i < 0 then i + (xs.length : Int) else i := ⟨_, rfl⟩
    have HJ := hide hj
    have hf0 : 0 ≤ xs.length := Nat.zero_le _
    by_cases hout : j < 0 ∨ (xs.length : Int) ≤ j
    · have HR : Hid (partAtT d t i = (toldT d (zeroT d), okT (d + 1) (zeroT d))) := by
        show partAtT d t i = _
        rw [hR, place_out hj hout, okT_zero d, toldT, if_pos (okT_zero d)]
        rfl
      have hcall := hide (fun w' => told_tree d (fun _ => False) (zeroT d) (.iface 116 (.agg #[.int .i64 0])) w' (bareTree_at d _ _) (fun _ h => h.elim))
      clear hR hj hrow hxs hxok
      go_wp2_with fail
      refine (fromStart_any i xs.length hi hx60 w1).mono ?_
      rintro e w1' ⟨rfl, rfl⟩
      rw [← HJ.out]
      go_wp2_with fail
      all_goals
        refine Calls.mono (hcall.out w1') ?_
        intro e w2 hq
        obtain ⟨v0, v1, v2, v3, v4, v5, v6, v7, v8, rfl, k3, hF⟩ := (hfin w1' (Below.refl _ _) _ _).out e w2 hq
        have HF := hide hF
        obtain ⟨y0, y1, y2, y3, y4⟩ := k3.cell
        have yf := k3.frozen
        clear hF hq hfin hcall k3
        go_wp2_with fail
        refine bodyPost_ret (v := .tuple #[.agg #[.int .i64 v0, .int .i64 v1, .string v2, .slice v3 v4 v5, .slice v6 v7 v8], .bool (okT (d + 1) (zeroT d))]) (by simp [results, Tryz.results83, go_sem, y0, y1, y2, y3, y4]) rfl ⟨_, by rw [HR.out], by rw [HR.out]; exact (HF.out _ rfl).1, (HF.out _ rfl).2⟩
    · obtain ⟨k, rfl⟩ : ∃ k : Nat, j = (k : Int) := ⟨j.toNat, by omega⟩
      have hkl : k < xs.length := by omega
      obtain ⟨b, o, x, u, rfl, hbS, hx, hc, hu⟩ := hxs.cell hkl
      obtain ⟨T, u', rfl⟩ := hu.iface
      have hxo := hxok x (List.mem_of_getElem? hx)
      have HR : Hid (partAtT d t i = (toldT d x, okT (d + 1) x)) := by
        show partAtT d t i = _
        rw [hR, place_in hj hkl, hx, hxo, toldT, if_pos hxo]
        rfl
      have hki : (k : Int) < (xs.length : Int) := by omega
      have hcall := hide (told_tree d _ x _ w1 hu (Fresh.within _ _))
      clear hR hj hrow hxs hxok hx hu hout hxo
      go_wp2_with fail
      refine (fromStart_any i xs.length hi hx60 w1).mono ?_
      rintro e w1' ⟨rfl, rfl⟩
      rw [← HJ.out]
      go_wp2_with fail
      refine Calls.mono hcall.out ?_
      intro e w2 hq
      obtain ⟨v0, v1, v2, v3, v4, v5, v6, v7, v8, rfl, k3, hF⟩ := (hfin w1' (Below.refl _ _) _ _).out e w2 hq
      have HF := hide hF
      obtain ⟨y0, y1, y2, y3, y4⟩ := k3.cell
      have yf := k3.frozen
      clear hF hq hfin hcall k3
      go_wp2_with fail
      refine bodyPost_ret (v := .tuple #[.agg #[.int .i64 v0, .int .i64 v1, .string v2, .slice v3 v4 v5, .slice v6 v7 v8], .bool (okT (d + 1) x)]) (by simp [results, Tryz.results83, go_sem, y0, y1, y2, y3, y4]) rfl ⟨_, by rw [HR.out], by rw [HR.out]; exact (HF.out _ rfl).1, (HF.out _ rfl).2⟩
  · have HR := hide (partAt_none (i := i) hrow)
    have hcall := hide (told_fault d .nilIface why w1 hg1)
    unfold faultV
    clear hrow
    go_wp2_with fail
    refine Calls.mono hcall.out ?_
    intro e w2 hq
    obtain ⟨v0, v1, v2, v3, v4, v5, v6, v7, v8, rfl, k3, hF⟩ := (hfin w1 (Below.refl _ _) _ _).out e w2 hq
    have HF := hide hF
    obtain ⟨y0, y1, y2, y3, y4⟩ := k3.cell
    have yf := k3.frozen
    clear hF hq hfin hcall k3
    go_wp2_with fail
    refine bodyPost_ret (v := .tuple #[.agg #[.int .i64 v0, .int .i64 v1, .string v2, .slice v3 v4 v5, .slice v6 v7 v8], .bool false]) (by simp [results, Tryz.results83, go_sem, y0, y1, y2, y3, y4]) rfl ⟨_, by rw [HR.out], by rw [HR.out]; exact (HF.out _ rfl).1, (HF.out _ rfl).2⟩
end Go.Proofs.YtlpembhdojdomaaGreatDoor

/- PartGet of the program. -/
namespace Go.Proofs.YtlpembhdojdomaaGreatDoor
open Go.RowKit Go.Deep

/-- The keys and parts of a tree of which a key may be asked. -/
def mapL (d : Nat) (t : Tr (d + 1)) (s : ByteArray) : Option (List ByteArray × List (Tr d)) := if okT (d + 1) t = true ∧ strOk s = true then (if Nd.kind t = 0 then some ([], []) else if Nd.kind t = 6 then some (Nd.keys t, Nd.list t) else none) else none
theorem mapL_ok {d : Nat} {t : Tr (d + 1)} {s : ByteArray} (h : okT (d + 1) t = true) (hs : strOk s = true) : mapL d t s = (if Nd.kind t = 0 then some ([], []) else if Nd.kind t = 6 then some (Nd.keys t, Nd.list t) else none) := if_pos ⟨h, hs⟩
theorem mapL_no {d : Nat} {t : Tr (d + 1)} {s : ByteArray} (h : okT (d + 1) t = false ∨ strOk s = false) : mapL d t s = none := if_neg (fun e => by rcases h with h | h <;> simp [h] at e)

/-- A map of the program's own trees, in blocks of S. -/
structure MapAt {d : Nat} (S : Nat → Prop) (w : World) (r : Nat) (es : Array MapEntry) (ps : List (ByteArray × Tr d)) (keys : List ByteArray) (xs : List (Tr d)) : Prop where
  len : xs.length ≤ 1000
  good : keysB keys = true
  same : keys.length = xs.length
  perm : ps.Perm (keys.zip xs)
  own : S r
  obj : w.heap[r]? = some (.map es ps.length)
  ent : MapG (TreeG S w d) es ps

/-- What partsByKeys is asked to give. -/
def MapQ (d : Nat) (t : Tr (d + 1)) (s : ByteArray) (w : World) (e : Ending) (w' : World) : Prop :=
  Below w.heap.size w w' ∧ ((∃ keys xs r es ps, mapL d t s = some (keys, xs) ∧ e = .returned (.tuple #[.map (some r), .nilIface]) ∧ MapAt (Fresh w w') w' r es ps keys xs) ∨ (mapL d t s = none ∧ ∃ why, e = .returned (.tuple #[.map none, faultV why])))

set_option maxRecDepth 100000 in
set_option maxHeartbeats 4000000 in
theorem partsByKeys_any (d : Nat) (S : Nat → Prop) (t : Tr (d + 1)) (v : Value) (s : ByteArray) (hs : s.size < 281474976710656) (w : World) (hv : ValAt S w (d + 1) t v) (hS : Within S w) :
    Calls Tryz.prog 45 #[v, .string s] w (MapQ d t s w) := by
  obtain ⟨k, n, z, ak, lk, ck, al, ll, cl, rfl⟩ := hv.shape
  have hA := below_alloc1 w (.cells #[.int .i64 k, .int .i64 n, .string z, .slice ak lk ck, .slice al ll cl] 29)
  have hAs := hA.size
  go_enter Tryz.func45, Tryz.ntmps45
  go_wp2_with fail
  refine (given_any (d + 1) S t _ _ (hv.same (hS.same hA)) (hS.later hA.size)).mono ?_
  rintro e w1 ⟨hb1, hq⟩
  have hB := below_trans hA hb1
  clear hb1 hA hv
  rcases hq with ⟨hok, u, rfl, hu⟩ | ⟨hok, why, rfl⟩
  · obtain ⟨T, u', rfl⟩ := hu.iface
    go_wp2_with fail
    refine (textOk_any s w1 hs).mono ?_
    rintro e w2 ⟨rfl, hb2⟩
    have hB2 := below_trans hB hb2
    have hsz := hb2.size
    have hu2 := hu.moved ((Fresh.within (w.alloc (.cells #[.int .i64 k, .int .i64 n, .string z, .slice ak lk ck, .slice al ll cl] 29)) w1).same hb2) (S' := Fresh w w2) (fun b hb => ⟨by have := hb.1; omega, by have := hb.2; omega⟩)
    clear hu hb2 hB
    cases hstr : strOk s with
    | false =>
      have HB := hide hB2
      clear hu2 hB2
      go_wp2_with fail
      go_ret2
      exact ⟨HB.out, Or.inr ⟨mapL_no (Or.inr hstr), _, rfl⟩⟩
    | true =>
      rcases hu2 with ⟨k', h1, rfl, hT⟩ | ⟨n', h1, rfl, hT⟩ | ⟨s', h1, rfl, hT⟩ | ⟨xs, sv, h1, rfl, hT, hr⟩ | ⟨keys, xs, ps, r, es, h1, h2, h3, h4, rfl, hT, hr, hm, he⟩
      · cases hT
        have a3 := Tryz.asM_B
        go_wp2_with fail
        refine (isNothing_bare k' w2).mono ?_
        rintro e w3 ⟨rfl, hb3⟩
        have hB3 := below_trans hB2 hb3
        clear hb3 hB2
        by_cases hk0 : k' = 0
        · have hkb : (k' == 0) = true := by simpa using hk0
          have hq : Hid (mapL d (Nd.mk k' 0 ByteArray.empty [] [] : Nd (Tr d)) s = some ([], [])) := by
            refine (mapL_ok hok hstr).trans ?_
            show (if k' = 0 then _ else _) = _
            rw [if_pos hk0]
          have hA4 := below_alloc1 w3 (.map #[] 0)
          have HB := hide (below_trans hB3 hA4)
          have HM : Hid (MapAt (d := d) (Fresh w (w3.alloc (.map #[] 0))) (w3.alloc (.map #[] 0)) w3.heap.size #[] [] [] []) := ⟨by show (0 : Nat) ≤ 1000; omega, rfl, rfl, List.Perm.nil, ⟨hB3.size, by simp⟩, heap_alloc_new _ _, rfl, fun i k x h => by simp at h⟩
          have hmk := fun w => run_makeMap (P := Tryz.prog) 70 w
          clear hk0 hB3 hA4
          go_wp2_with fail
          go_ret2
          exact ⟨HB.out, Or.inl ⟨[], [], _, _, _, hq.out, rfl, HM.out⟩⟩
        · have hkb : (k' == 0) = false := by simpa using hk0
          have hq : Hid (mapL d (Nd.mk k' 0 ByteArray.empty [] [] : Nd (Tr d)) s = none) := by
            refine (mapL_ok hok hstr).trans ?_
            show (if k' = 0 then _ else if k' = 6 then _ else _) = _
            rw [if_neg hk0, if_neg (by omega)]
          have HB := hide hB3
          clear hk0 hB3
          go_wp2_with fail
          go_ret2
          exact ⟨below_trans HB.out (below_alloc1 _ _), Or.inr ⟨hq.out, _, rfl⟩⟩
      · cases hT
        have a3 := Tryz.asM_N
        have hq : Hid (mapL d (Nd.mk 3 n' ByteArray.empty [] [] : Nd (Tr d)) s = none) := by
          exact (mapL_ok hok hstr).trans rfl
        go_wp2_with fail
        refine (isNothing_num _ w2).mono ?_
        rintro e w3 ⟨rfl, hb3⟩
        have HB := hide (below_trans hB2 hb3)
        clear hb3 hB2
        go_wp2_with fail
        go_ret2
        exact ⟨below_trans HB.out (below_alloc1 _ _), Or.inr ⟨hq.out, _, rfl⟩⟩
      · cases hT
        have a3 := Tryz.asM_S
        have hq : Hid (mapL d (Nd.mk 4 0 s' [] [] : Nd (Tr d)) s = none) := by
          exact (mapL_ok hok hstr).trans rfl
        go_wp2_with fail
        refine (isNothing_str _ w2).mono ?_
        rintro e w3 ⟨rfl, hb3⟩
        have HB := hide (below_trans hB2 hb3)
        clear hb3 hB2
        go_wp2_with fail
        go_ret2
        exact ⟨below_trans HB.out (below_alloc1 _ _), Or.inr ⟨hq.out, _, rfl⟩⟩
      · cases hT
        have a3 := Tryz.asM_R
        have hq : Hid (mapL d (Nd.mk 5 0 ByteArray.empty [] xs : Nd (Tr d)) s = none) := by
          exact (mapL_ok hok hstr).trans rfl
        go_wp2_with fail
        refine (isNothing_row _ w2).mono ?_
        rintro e w3 ⟨rfl, hb3⟩
        have HB := hide (below_trans hB2 hb3)
        clear hb3 hB2
        go_wp2_with fail
        go_ret2
        exact ⟨below_trans HB.out (below_alloc1 _ _), Or.inr ⟨hq.out, _, rfl⟩⟩
      · cases hT
        have a3 := Tryz.asM_M
        have hq : Hid (mapL d (Nd.mk 6 0 ByteArray.empty keys xs : Nd (Tr d)) s = some (keys, xs)) := by
          exact (mapL_ok hok hstr).trans rfl
        go_wp2_with fail
        refine (isNothing_map _ w2).mono ?_
        rintro e w3 ⟨rfl, hb3⟩
        have hA3 := below_alloc1 w3 (.cells #[.map (some r)] 74)
        have hb4 := below_trans hb3 hA3
        have HB := hide (below_trans hB2 hb4)
        have hmv := (Fresh.within w w2).same hb4
        have hsz4 := hb4.size
        have hfr : ∀ b, Fresh w w2 b → Fresh w (w3.alloc (.cells #[.map (some r)] 74)) b := fun b hb => ⟨hb.1, by have := hb.2; omega⟩
        have HM : Hid (MapAt (Fresh w (w3.alloc (.cells #[.map (some r)] 74))) (w3.alloc (.cells #[.map (some r)] 74)) r es ps keys xs) := ⟨h1, h2, h3, h4, hfr r hr, (hmv r hr).trans hm, he.moved (fun x u hx => TreeG.moved hmv hfr d x u hx)⟩
        clear hb3 hB2 hb4 hA3 hmv hfr he hm hr h4 h3 h2
        go_wp2_with fail
        go_ret2
        exact ⟨HB.out, Or.inl ⟨keys, xs, r, es, ps, hq.out, rfl, HM.out⟩⟩
  · unfold faultV
    go_wp2_with fail
    go_ret2
    exact ⟨hB, Or.inr ⟨mapL_no (Or.inl hok), why, rfl⟩⟩

theorem partGet_some {d : Nat} {t : Tr (d + 2)} {s : ByteArray} {keys : List ByteArray} {xs : List (Tr (d + 1))} (h : mapL (d + 1) t s = some (keys, xs)) : partGetT d t s = ((getL keys xs s).getD (zeroT d), true) ∧ ∀ x ∈ xs, okT (d + 1) x = true := by
  unfold mapL at h
  unfold partGetT
  split at h
  · rename_i hok
    rw [if_pos hok]
    split at h
    · rename_i h0
      rw [if_pos h0]
      cases h
      exact ⟨rfl, fun x hx => by cases hx⟩
    · rename_i h0
      rw [if_neg h0]
      split at h
      · rename_i h5
        rw [if_pos h5]
        cases h
        exact ⟨rfl, fun x hx => okT_part hok.1 hx⟩
      · cases h
  · cases h
theorem partGet_none {d : Nat} {t : Tr (d + 2)} {s : ByteArray} (h : mapL (d + 1) t s = none) : partGetT d t s = (zeroT d, false) := by
  unfold mapL at h
  unfold partGetT
  split at h
  · rename_i hok
    rw [if_pos hok]
    split at h
    · cases h
    · rename_i h0
      rw [if_neg h0]
      split at h
      · cases h
      · rename_i h5
        rw [if_neg h5]
  · rename_i hok
    rw [if_neg hok]

set_option maxRecDepth 100000 in
set_option maxHeartbeats 4000000 in
theorem implPartGet_any (d : Nat) (S : Nat → Prop) (t : Tr (d + 2)) (v : Value) (s : ByteArray) (hs : s.size < 281474976710656) (w : World) (hv : ValAt S w (d + 2) t v) (hS : Within S w) (hg : ErrType w) :
    Calls Tryz.prog 82 #[v, .string s] w (TellQ d (partGetT d t s).1 (partGetT d t s).2 w) := by
  obtain ⟨k, n, z, ak, lk, ck, al, ll, cl, rfl⟩ := hv.shape
  obtain ⟨W0, hW⟩ : ∃ W0, W0 = (w.alloc (.cells #[.int .i64 k, .int .i64 n, .string z, .slice ak lk ck, .slice al ll cl] 29)).alloc (.cells #[.int .i64 0, .int .i64 0, .string { data := #[] }, .slice none 0 0, .slice none 0 0] 29) := ⟨_, rfl⟩
  have hW0 : Below w.heap.size w W0 := by rw [hW]; exact below_trans (below_alloc1 _ _) (below_alloc1 _ _)
  have k1 : Blk5 W0 (w.heap.size + 1) 29 (.int .i64 0) (.int .i64 0) (.string { data := #[] }) (.slice none 0 0) (.slice none 0 0) := by
    have := Blk5.new (w.alloc (.cells #[.int .i64 k, .int .i64 n, .string z, .slice ak lk ck, .slice al ll cl] 29)) 29 (.int .i64 0) (.int .i64 0) (.string { data := #[] }) (.slice none 0 0) (.slice none 0 0)
    rw [World.size_alloc] at this
    rw [hW]
    exact this
  have HW := hide hW
  clear hW
  go_enter Tryz.func82, Tryz.ntmps82
  go_wp2_with fail
  rw [← HW.out]
  clear HW
  refine (partsByKeys_any (d + 1) S t _ s hs W0 (hv.same (hS.same hW0)) (hS.later hW0.size)).mono ?_
  rintro e w1 ⟨hb1, hq⟩
  have hB1 := below_trans hW0 hb1
  have k2 := k1.below hb1
  have hg1 := hg.below hB1
  have hlt := k2.lt
  -- what is told, however it is
  have hfin : ∀ (w1' : World), Below w1.heap.size w1 w1' → ∀ (x : Tr (d + 1)) (ok : Bool), Hid (∀ e w2, TellQ d x ok w1' e w2 → ∃ v0 v1 v2 v3 v4 v5 v6 v7 v8, e = .returned (.tuple #[.agg #[.int .i64 v0, .int .i64 v1, .string v2, .slice v3 v4 v5, .slice v6 v7 v8], .bool ok]) ∧
      Blk5 w2 (w.heap.size + 1) 29 (.int .i64 0) (.int .i64 0) (.string { data := #[] }) (.slice none 0 0) (.slice none 0 0) ∧
      ∀ wF, wF = set5 w2 (w.heap.size + 1) 0 (.int .i64 v0) (.int .i64 v1) (.string v2) (.slice v3 v4 v5) (.slice v6 v7 v8) → ValOwn wF (d + 1) (Fresh w wF) x (.agg #[.int .i64 v0, .int .i64 v1, .string v2, .slice v3 v4 v5, .slice v6 v7 v8]) ∧ Below w.heap.size w wF) := fun w1' hb' x ok => by
    intro e w2 ⟨v, he, hv, hb2⟩
    obtain ⟨v0, v1, v2, v3, v4, v5, v6, v7, v8, rfl⟩ := (ValOwn.at _ _ _ _ hv).shape
    exact ⟨v0, v1, v2, v3, v4, v5, v6, v7, v8, he, (k2.below hb').below hb2, tell_end hv (below_trans (below_trans hB1 hb') hb2) (by omega) (Nat.lt_of_lt_of_le hlt hb'.size)⟩
  clear hv hW0 k1 k2
  rcases hq with ⟨keys, xs, r, es, ps, hrow, rfl, hma⟩ | ⟨hrow, why, rfl⟩
  · obtain ⟨hR, hxok⟩ := partGet_some hrow
    by_cases hin : s ∈ keys
    · obtain ⟨k', x, hk1, hk2, hk3⟩ := key_at hin hma.same
      have hmem : (s, x) ∈ ps := hma.perm.mem_iff.2 (List.mem_of_getElem? (by rw [List.getElem?_zip_eq_some]; exact ⟨hk1, hk2⟩ : (keys.zip xs)[k']? = some (s, x)))
      obtain ⟨j, u, hj1, hj2, hu, hj3⟩ := hma.ent.find (perm_nodup hma.perm hma.same hma.good) hmem
      obtain ⟨T, u', rfl⟩ := hu.iface
      have hlook := run_mapGet w1 r ps.length j es s _ j true hma.obj hj2 hj3
      have hxo := hxok x (List.mem_of_getElem? hk2)
      have HR : Hid (partGetT d t s = (toldT d x, okT (d + 1) x)) := by
        show partGetT d t s = _
        rw [hR, getL_at hk1 hk2 hk3, hxo, toldT, if_pos hxo]
        rfl
      have hcall := hide (told_tree d _ x _ w1 hu (Fresh.within _ _))
      clear hR hrow hma hxok hk1 hk2 hk3 hmem hj1 hj2 hj3 hu hin hxo
      rw [if_pos rfl] at hlook
      go_wp2_with fail
      refine Calls.mono hcall.out ?_
      intro e w2 hq
      obtain ⟨v0, v1, v2, v3, v4, v5, v6, v7, v8, rfl, k3, hF⟩ := (hfin w1 (Below.refl _ _) _ _).out e w2 hq
      have HF := hide hF
      obtain ⟨y0, y1, y2, y3, y4⟩ := k3.cell
      have yf := k3.frozen
      clear hF hq hfin hcall k3
      go_wp2_with fail
      refine bodyPost_ret (v := .tuple #[.agg #[.int .i64 v0, .int .i64 v1, .string v2, .slice v3 v4 v5, .slice v6 v7 v8], .bool (okT (d + 1) x)]) (by simp [results, Tryz.results82, go_sem, y0, y1, y2, y3, y4]) rfl ⟨_, by rw [HR.out], by rw [HR.out]; exact (HF.out _ rfl).1, (HF.out _ rfl).2⟩
    · have hlook := run_mapMiss w1 r ps.length es s hma.obj (hma.ent.miss (fun h => hin (by
        have h2 := (hma.perm.map Prod.fst).mem_iff.1 h
        rw [List.map_fst_zip (by have := hma.same; omega)] at h2
        exact h2)))
      have HR : Hid (partGetT d t s = (toldT d (zeroT d), okT (d + 1) (zeroT d))) := by
        show partGetT d t s = _
        rw [hR, getL_miss hin, okT_zero d, toldT, if_pos (okT_zero d)]
        rfl
      have hcall := hide (told_tree d (fun _ => False) (zeroT d) (.iface 116 (.agg #[.int .i64 0])) w1 (bareTree_at d _ _) (fun _ h => h.elim))
      clear hR hrow hma hxok hin
      go_wp2_with fail
      refine Calls.mono hcall.out ?_
      intro e w2 hq
      obtain ⟨v0, v1, v2, v3, v4, v5, v6, v7, v8, rfl, k3, hF⟩ := (hfin w1 (Below.refl _ _) _ _).out e w2 hq
      have HF := hide hF
      obtain ⟨y0, y1, y2, y3, y4⟩ := k3.cell
      have yf := k3.frozen
      clear hF hq hfin hcall k3
      go_wp2_with fail
      refine bodyPost_ret (v := .tuple #[.agg #[.int .i64 v0, .int .i64 v1, .string v2, .slice v3 v4 v5, .slice v6 v7 v8], .bool (okT (d + 1) (zeroT d))]) (by simp [results, Tryz.results82, go_sem, y0, y1, y2, y3, y4]) rfl ⟨_, by rw [HR.out], by rw [HR.out]; exact (HF.out _ rfl).1, (HF.out _ rfl).2⟩
  · have HR := hide (partGet_none hrow)
    have hcall := hide (told_fault d .nilIface why w1 hg1)
    unfold faultV
    clear hrow
    go_wp2_with fail
    refine Calls.mono hcall.out ?_
    intro e w2 hq
    obtain ⟨v0, v1, v2, v3, v4, v5, v6, v7, v8, rfl, k3, hF⟩ := (hfin w1 (Below.refl _ _) _ _).out e w2 hq
    have HF := hide hF
    obtain ⟨y0, y1, y2, y3, y4⟩ := k3.cell
    have yf := k3.frozen
    clear hF hq hfin hcall k3
    go_wp2_with fail
    refine bodyPost_ret (v := .tuple #[.agg #[.int .i64 v0, .int .i64 v1, .string v2, .slice v3 v4 v5, .slice v6 v7 v8], .bool false]) (by simp [results, Tryz.results82, go_sem, y0, y1, y2, y3, y4]) rfl ⟨_, by rw [HR.out], by rw [HR.out]; exact (HF.out _ rfl).1, (HF.out _ rfl).2⟩
end Go.Proofs.YtlpembhdojdomaaGreatDoor
