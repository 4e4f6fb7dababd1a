/- Texts of the proof, put together by program: WNoth, WGetK, WAt, WGet, WWay, WAlong, WPathI. -/
import Derived.Test.YtmibjmipndffmaaGreatDoorQ5
import Derived.Test.YtmibjmipndffmaaGreatDoorQ3
import Derived.Test.YtmibjmipndffmaaGreatDoorQ7
import Derived.Test.YtmibjmipndffmaaGreatDoorQ4
import Derived.Test.YtmibjmipndffmaaGreatDoorQ8
import Derived.Deep.RegionHeld
/- isNothing. -/
namespace Go.Proofs.YtmibjmipndffmaaGreatDoor
open Go.RowKit Go.Deep

set_option maxRecDepth 100000 in
set_option maxHeartbeats 1000000 in
theorem isNothing_bare (k : Int) (w : World) : Calls Tryz.prog 107 #[.iface 91 (.agg #[.int .i64 k])] w fun e w' => e = .returned (.bool (k == 0)) ∧ Below w.heap.size w w' := by
  have hA := hide (below_alloc1 w (.cells #[.int .i64 k] 91))
  have hs := Tryz.asB_B
  go_enter Tryz.func107, Tryz.ntmps107
  go_wp2_with fail
  go_ret
  exact ⟨rfl, hA.out⟩
set_option maxRecDepth 100000 in
theorem isNothing_num (v : Value) (w : World) : Calls Tryz.prog 107 #[.iface 157 v] w fun e w' => e = .returned (.bool false) ∧ Below w.heap.size w w' := by
  have hs := Tryz.asB_N
  go_enter Tryz.func107, Tryz.ntmps107
  go_wp2_with fail
  go_ret
  exact ⟨rfl, below_alloc1 _ _⟩
set_option maxRecDepth 100000 in
theorem isNothing_str (v : Value) (w : World) : Calls Tryz.prog 107 #[.iface 155 v] w fun e w' => e = .returned (.bool false) ∧ Below w.heap.size w w' := by
  have hs := Tryz.asB_S
  go_enter Tryz.func107, Tryz.ntmps107
  go_wp2_with fail
  go_ret
  exact ⟨rfl, below_alloc1 _ _⟩
set_option maxRecDepth 100000 in
theorem isNothing_row (v : Value) (w : World) : Calls Tryz.prog 107 #[.iface 148 v] w fun e w' => e = .returned (.bool false) ∧ Below w.heap.size w w' := by
  have hs := Tryz.asB_R
  go_enter Tryz.func107, Tryz.ntmps107
  go_wp2_with fail
  go_ret
  exact ⟨rfl, below_alloc1 _ _⟩
set_option maxRecDepth 100000 in
theorem isNothing_map (v : Value) (w : World) : Calls Tryz.prog 107 #[.iface 145 v] w fun e w' => e = .returned (.bool false) ∧ Below w.heap.size w w' := by
  have hs := Tryz.asB_M
  go_enter Tryz.func107, Tryz.ntmps107
  go_wp2_with fail
  go_ret
  exact ⟨rfl, below_alloc1 _ _⟩
end Go.Proofs.YtmibjmipndffmaaGreatDoor

/- PartGet of the program. -/
namespace Go.Proofs.YtmibjmipndffmaaGreatDoor
open Go.RowKit Go.Deep

/-- The keys and parts of a tree of which a key may be asked. -/
def mapL (d : Nat) (t : Tr (d + 1)) (s : ByteArray) : Option (List ByteArray × List (Tr d)) := if okT (d + 1) t = true ∧ strOk s = true then (if Nd.kind t = 0 then some ([], []) else if Nd.kind t = 6 then some (Nd.keys t, Nd.list t) else none) else none
theorem mapL_ok {d : Nat} {t : Tr (d + 1)} {s : ByteArray} (h : okT (d + 1) t = true) (hs : strOk s = true) : mapL d t s = (if Nd.kind t = 0 then some ([], []) else if Nd.kind t = 6 then some (Nd.keys t, Nd.list t) else none) := if_pos ⟨h, hs⟩
theorem mapL_no {d : Nat} {t : Tr (d + 1)} {s : ByteArray} (h : okT (d + 1) t = false ∨ strOk s = false) : mapL d t s = none := if_neg (fun e => by rcases h with h | h <;> simp [h] at e)

/-- A map of the program's own trees, in blocks of S. -/
structure MapAt {d : Nat} (S : Nat → Prop) (w : World) (r : Nat) (es : Array MapEntry) (ps : List (ByteArray × Tr d)) (keys : List ByteArray) (xs : List (Tr d)) : Prop where
  len : xs.length ≤ 1000
  good : keysB keys = true
  same : keys.length = xs.length
  perm : ps.Perm (keys.zip xs)
  own : S r
  obj : w.heap[r]? = some (.map es ps.length)
  ent : MapG (TreeG S w d) es ps

/-- What partsByKeys is asked to give. -/
def MapQ (d : Nat) (t : Tr (d + 1)) (s : ByteArray) (w : World) (e : Ending) (w' : World) : Prop :=
  Below w.heap.size w w' ∧ ((∃ keys xs r es ps, mapL d t s = some (keys, xs) ∧ e = .returned (.tuple #[.map (some r), .nilIface]) ∧ MapAt (Fresh w w') w' r es ps keys xs) ∨ (mapL d t s = none ∧ ∃ why, e = .returned (.tuple #[.map none, faultV why])))

set_option maxRecDepth 100000 in
set_option maxHeartbeats 4000000 in
theorem partsByKeys_any (d : Nat) (S : Nat → Prop) (t : Tr (d + 1)) (v : Value) (s : ByteArray) (hs : s.size < 281474976710656) (w : World) (hv : ValAt S w (d + 1) t v) (hS : Within S w) :
    Calls Tryz.prog 58 #[v, .string s] w (MapQ d t s w) := by
  obtain ⟨k, n, z, ak, lk, ck, al, ll, cl, rfl⟩ := hv.shape
  have hA := below_alloc1 w (.cells #[.int .i64 k, .int .i64 n, .string z, .slice ak lk ck, .slice al ll cl] 26)
  have hAs := hA.size
  go_enter Tryz.func58, Tryz.ntmps58
  go_wp2_with fail
  refine (given_any (d + 1) S t _ _ (hv.same (hS.same hA)) (hS.later hA.size)).mono ?_
  rintro e w1 ⟨hb1, hq⟩
  have hB := below_trans hA hb1
  clear hb1 hA hv
  rcases hq with ⟨hok, u, rfl, hu⟩ | ⟨hok, why, rfl⟩
  · obtain ⟨T, u', rfl⟩ := hu.iface
    go_wp2_with fail
    refine (textOk_any s w1 hs).mono ?_
    rintro e w2 ⟨rfl, hb2⟩
    have hB2 := below_trans hB hb2
    have hsz := hb2.size
    have hu2 := hu.moved ((Fresh.within (w.alloc (.cells #[.int .i64 k, .int .i64 n, .string z, .slice ak lk ck, .slice al ll cl] 26)) w1).same hb2) (S' := Fresh w w2) (fun b hb => ⟨by have := hb.1; omega, by have := hb.2; omega⟩)
    clear hu hb2 hB
    cases hstr : strOk s with
    | false =>
      have HB := hide hB2
      clear hu2 hB2
      go_wp2_with fail
      go_ret2
      exact ⟨HB.out, Or.inr ⟨mapL_no (Or.inr hstr), _, rfl⟩⟩
    | true =>
      rcases hu2 with ⟨k', h1, rfl, hT⟩ | ⟨n', h1, rfl, hT⟩ | ⟨s', h1, rfl, hT⟩ | ⟨xs, sv, h1, rfl, hT, hr⟩ | ⟨keys, xs, ps, r, es, h1, h2, h3, h4, rfl, hT, hr, hm, he⟩
      · cases hT
        have a3 := Tryz.asM_B
        go_wp2_with fail
        refine (isNothing_bare k' w2).mono ?_
        rintro e w3 ⟨rfl, hb3⟩
        have hB3 := below_trans hB2 hb3
        clear hb3 hB2
        by_cases hk0 : k' = 0
        · have hkb : (k' == 0) = true := by simpa using hk0
          have hq : Hid (mapL d (Nd.mk k' 0 ByteArray.empty [] [] : Nd (Tr d)) s = some ([], [])) := by
            refine (mapL_ok hok hstr).trans ?_
            show (if k' = 0 then _ else _) = _
            rw [if_pos hk0]
          have hA4 := below_alloc1 w3 (.map #[] 0)
          have HB := hide (below_trans hB3 hA4)
          have HM : Hid (MapAt (d := d) (Fresh w (w3.alloc (.map #[] 0))) (w3.alloc (.map #[] 0)) w3.heap.size #[] [] [] []) := ⟨by show (0 : Nat) ≤ 1000; omega, rfl, rfl, List.Perm.nil, ⟨hB3.size, by simp⟩, heap_alloc_new _ _, rfl, fun i k x h => by simp at h⟩
          have hmk := fun w => run_makeMap (P := Tryz.prog) 87 w
          clear hk0 hB3 hA4
          go_wp2_with fail
          go_ret2
          exact ⟨HB.out, Or.inl ⟨[], [], _, _, _, hq.out, rfl, HM.out⟩⟩
        · have hkb : (k' == 0) = false := by simpa using hk0
          have hq : Hid (mapL d (Nd.mk k' 0 ByteArray.empty [] [] : Nd (Tr d)) s = none) := by
            refine (mapL_ok hok hstr).trans ?_
            show (if k' = 0 then _ else if k' = 6 then _ else _) = _
            rw [if_neg hk0, if_neg (by omega)]
          have HB := hide hB3
          clear hk0 hB3
          go_wp2_with fail
          go_ret2
          exact ⟨below_trans HB.out (below_alloc1 _ _), Or.inr ⟨hq.out, _, rfl⟩⟩
      · cases hT
        have a3 := Tryz.asM_N
        have hq : Hid (mapL d (Nd.mk 3 n' ByteArray.empty [] [] : Nd (Tr d)) s = none) := by
          exact (mapL_ok hok hstr).trans rfl
        go_wp2_with fail
        refine (isNothing_num _ w2).mono ?_
        rintro e w3 ⟨rfl, hb3⟩
        have HB := hide (below_trans hB2 hb3)
        clear hb3 hB2
        go_wp2_with fail
        go_ret2
        exact ⟨below_trans HB.out (below_alloc1 _ _), Or.inr ⟨hq.out, _, rfl⟩⟩
      · cases hT
        have a3 := Tryz.asM_S
        have hq : Hid (mapL d (Nd.mk 4 0 s' [] [] : Nd (Tr d)) s = none) := by
          exact (mapL_ok hok hstr).trans rfl
        go_wp2_with fail
        refine (isNothing_str _ w2).mono ?_
        rintro e w3 ⟨rfl, hb3⟩
        have HB := hide (below_trans hB2 hb3)
        clear hb3 hB2
        go_wp2_with fail
        go_ret2
        exact ⟨below_trans HB.out (below_alloc1 _ _), Or.inr ⟨hq.out, _, rfl⟩⟩
      · cases hT
        have a3 := Tryz.asM_R
        have hq : Hid (mapL d (Nd.mk 5 0 ByteArray.empty [] xs : Nd (Tr d)) s = none) := by
          exact (mapL_ok hok hstr).trans rfl
        go_wp2_with fail
        refine (isNothing_row _ w2).mono ?_
        rintro e w3 ⟨rfl, hb3⟩
        have HB := hide (below_trans hB2 hb3)
        clear hb3 hB2
        go_wp2_with fail
        go_ret2
        exact ⟨below_trans HB.out (below_alloc1 _ _), Or.inr ⟨hq.out, _, rfl⟩⟩
      · cases hT
        have a3 := Tryz.asM_M
        have hq : Hid (mapL d (Nd.mk 6 0 ByteArray.empty keys xs : Nd (Tr d)) s = some (keys, xs)) := by
          exact (mapL_ok hok hstr).trans rfl
        go_wp2_with fail
        refine (isNothing_map _ w2).mono ?_
        rintro e w3 ⟨rfl, hb3⟩
        have hA3 := below_alloc1 w3 (.cells #[.map (some r)] 145)
        have hb4 := below_trans hb3 hA3
        have HB := hide (below_trans hB2 hb4)
        have hmv := (Fresh.within w w2).same hb4
        have hsz4 := hb4.size
        have hfr : ∀ b, Fresh w w2 b → Fresh w (w3.alloc (.cells #[.map (some r)] 145)) b := fun b hb => ⟨hb.1, by have := hb.2; omega⟩
        have HM : Hid (MapAt (Fresh w (w3.alloc (.cells #[.map (some r)] 145))) (w3.alloc (.cells #[.map (some r)] 145)) r es ps keys xs) := ⟨h1, h2, h3, h4, hfr r hr, (hmv r hr).trans hm, he.moved (fun x u hx => TreeG.moved hmv hfr d x u hx)⟩
        clear hb3 hB2 hb4 hA3 hmv hfr he hm hr h4 h3 h2
        go_wp2_with fail
        go_ret2
        exact ⟨HB.out, Or.inl ⟨keys, xs, r, es, ps, hq.out, rfl, HM.out⟩⟩
  · unfold faultV
    go_wp2_with fail
    go_ret2
    exact ⟨hB, Or.inr ⟨mapL_no (Or.inl hok), why, rfl⟩⟩

theorem partGet_some {d : Nat} {t : Tr (d + 2)} {s : ByteArray} {keys : List ByteArray} {xs : List (Tr (d + 1))} (h : mapL (d + 1) t s = some (keys, xs)) : partGetT d t s = ((getL keys xs s).getD (zeroT d), true) ∧ ∀ x ∈ xs, okT (d + 1) x = true := by
  unfold mapL at h
  unfold partGetT
  split at h
  · rename_i hok
    rw [if_pos hok]
    split at h
    · rename_i h0
      rw [if_pos h0]
      cases h
      exact ⟨rfl, fun x hx => by cases hx⟩
    · rename_i h0
      rw [if_neg h0]
      split at h
      · rename_i h5
        rw [if_pos h5]
        cases h
        exact ⟨rfl, fun x hx => okT_part hok.1 hx⟩
      · cases h
  · cases h
theorem partGet_none {d : Nat} {t : Tr (d + 2)} {s : ByteArray} (h : mapL (d + 1) t s = none) : partGetT d t s = (zeroT d, false) := by
  unfold mapL at h
  unfold partGetT
  split at h
  · rename_i hok
    rw [if_pos hok]
    split at h
    · cases h
    · rename_i h0
      rw [if_neg h0]
      split at h
      · cases h
      · rename_i h5
        rw [if_neg h5]
  · rename_i hok
    rw [if_neg hok]
end Go.Proofs.YtmibjmipndffmaaGreatDoor

/- PartAt of the program. -/
namespace Go.Proofs.YtmibjmipndffmaaGreatDoor
open Go.RowKit Go.Deep

theorem fromStart_any (i : Int) (n : Nat) (hi : I64 i) (hn : n ≤ 60) (w : World) : Calls Tryz.prog 60 #[.int .i64 i, .int .i64 n] w fun e w' => e = .returned (.int .i64 (if i < 0 then i + n else i)) ∧ w' = w := by
  obtain ⟨hi1, hi2⟩ := hi
  by_cases h3 : i < 0
  · have hm : Hid ((if i < 0 then i + (n : Int) else i) = i + n) := if_pos h3
    go_enter Tryz.func60, Tryz.ntmps60
    go_wp2_with fail
    go_ret
    exact ⟨rfl, rfl⟩
  · have hm : Hid ((if i < 0 then i + (n : Int) else i) = i) := if_neg h3
    go_enter Tryz.func60, Tryz.ntmps60
    go_wp2_with fail
    go_ret
    exact ⟨rfl, rfl⟩

/-- The list of a tree of which a place may be asked. -/
def rowL (d : Nat) (t : Tr (d + 1)) : Option (List (Tr d)) := if okT (d + 1) t = true then (if Nd.kind t = 0 then some [] else if Nd.kind t = 5 then some (Nd.list t) else none) else none

theorem rowL_ok {d : Nat} {t : Tr (d + 1)} (h : okT (d + 1) t = true) : rowL d t = (if Nd.kind t = 0 then some [] else if Nd.kind t = 5 then some (Nd.list t) else none) := if_pos h
/-- What partsInRow is asked to give. -/
def RowQ (d : Nat) (t : Tr (d + 1)) (w : World) (e : Ending) (w' : World) : Prop :=
  Below w.heap.size w w' ∧ ((∃ xs a cap, rowL d t = some xs ∧ e = .returned (.tuple #[.slice a xs.length cap, .nilIface]) ∧ Row1At (Fresh w w') w' (TreeG (Fresh w w') w' d) (.slice a xs.length cap) xs) ∨ (rowL d t = none ∧ ∃ why, e = .returned (.tuple #[.slice none 0 0, faultV why])))

set_option maxRecDepth 100000 in
set_option maxHeartbeats 4000000 in
theorem partsInRow_any (d : Nat) (S : Nat → Prop) (t : Tr (d + 1)) (v : Value) (w : World) (hv : ValAt S w (d + 1) t v) (hS : Within S w) :
    Calls Tryz.prog 59 #[v] w (RowQ d t w) := by
  obtain ⟨k, n, s, ak, lk, ck, al, ll, cl, rfl⟩ := hv.shape
  have hA := below_alloc1 w (.cells #[.int .i64 k, .int .i64 n, .string s, .slice ak lk ck, .slice al ll cl] 26)
  have hAs := hA.size
  go_enter Tryz.func59, Tryz.ntmps59
  go_wp2_with fail
  refine (given_any (d + 1) S t _ _ (hv.same (hS.same hA)) (hS.later hA.size)).mono ?_
  rintro e w1 ⟨hb1, hq⟩
  have hB := below_trans hA hb1
  clear hb1 hA hv
  rcases hq with ⟨hok, u, rfl, hu⟩ | ⟨hok, why, rfl⟩
  · rcases hu with ⟨k', h1, rfl, rfl⟩ | ⟨n', h1, rfl, rfl⟩ | ⟨s', h1, rfl, rfl⟩ | ⟨xs, sv, h1, rfl, rfl, hr⟩ | ⟨keys, xs, ps, r, es, h1, h2, h3, h4, rfl, rfl, hr, hm, he⟩
    · have a3 := Tryz.asR_B
      go_wp2_with fail
      refine (isNothing_bare k' w1).mono ?_
      rintro e w2 ⟨rfl, hb2⟩
      have HB2 := hide (below_trans hB hb2)
      clear hb2 hB
      by_cases hk0 : k' = 0
      · have hkb : (k' == 0) = true := by simpa using hk0
        have hq : Hid (rowL d (Nd.mk k' 0 ByteArray.empty [] [] : Nd (Tr d)) = some []) := by
          refine (rowL_ok hok).trans ?_
          show (if k' = 0 then _ else _) = _
          rw [if_pos hk0]
        clear hk0
        go_wp2_with fail
        go_ret2
        exact ⟨HB2.out, Or.inl ⟨[], none, 0, hq.out, rfl, ⟨by show (0 : Nat) < 17592186044416; omega, none, 0, rfl, Or.inl rfl⟩⟩⟩
      · have hkb : (k' == 0) = false := by simpa using hk0
        have hq : Hid (rowL d (Nd.mk k' 0 ByteArray.empty [] [] : Nd (Tr d)) = none) := by
          refine (rowL_ok hok).trans ?_
          show (if k' = 0 then _ else if k' = 5 then _ else _) = _
          rw [if_neg hk0, if_neg (by omega)]
        clear hk0
        go_wp2_with fail
        go_ret2
        exact ⟨below_trans HB2.out (below_alloc1 _ _), Or.inr ⟨hq.out, _, rfl⟩⟩
    · have a3 := Tryz.asR_N
      have hq : Hid (rowL d (Nd.mk 3 n' ByteArray.empty [] [] : Nd (Tr d)) = none) := by
        exact (rowL_ok hok).trans rfl
      go_wp2_with fail
      refine (isNothing_num _ w1).mono ?_
      rintro e w2 ⟨rfl, hb2⟩
      have HB2 := hide (below_trans hB hb2)
      clear hb2 hB
      go_wp2_with fail
      go_ret2
      exact ⟨below_trans HB2.out (below_alloc1 _ _), Or.inr ⟨hq.out, _, rfl⟩⟩
    · have a3 := Tryz.asR_S
      have hq : Hid (rowL d (Nd.mk 4 0 s' [] [] : Nd (Tr d)) = none) := by
        exact (rowL_ok hok).trans rfl
      go_wp2_with fail
      refine (isNothing_str _ w1).mono ?_
      rintro e w2 ⟨rfl, hb2⟩
      have HB2 := hide (below_trans hB hb2)
      clear hb2 hB
      go_wp2_with fail
      go_ret2
      exact ⟨below_trans HB2.out (below_alloc1 _ _), Or.inr ⟨hq.out, _, rfl⟩⟩
    · have a3 := Tryz.asR_R
      obtain ⟨sa, sc, rfl, _⟩ := hr.open'
      have hq : Hid (rowL d (Nd.mk 5 0 ByteArray.empty [] xs : Nd (Tr d)) = some xs) := by
        exact (rowL_ok hok).trans rfl
      go_wp2_with fail
      refine (isNothing_row _ w1).mono ?_
      rintro e w2 ⟨rfl, hb2⟩
      have hA2 := below_alloc1 w2 (.cells #[.slice sa xs.length sc] 148)
      have hb3 := below_trans hb2 hA2
      have HB2 := hide (below_trans hB hb3)
      have hmv := (Fresh.within (w.alloc (.cells #[.int .i64 k, .int .i64 n, .string s, .slice ak lk ck, .slice al ll cl] 26)) w1).same hb3
      have hsz := hb3.size
      have hfr : ∀ b, Fresh (w.alloc (.cells #[.int .i64 k, .int .i64 n, .string s, .slice ak lk ck, .slice al ll cl] 26)) w1 b → Fresh w (w2.alloc (.cells #[.slice sa xs.length sc] 148)) b := fun b hb => ⟨by have := hb.1; omega, by have := hb.2; omega⟩
      have HR := hide (hr.moved hmv hfr (fun x u hx => TreeG.moved hmv hfr d x u hx))
      clear hb2 hB hb3 hA2 hmv hr hfr
      go_wp2_with fail
      go_ret2
      exact ⟨HB2.out, Or.inl ⟨xs, sa, sc, hq.out, rfl, HR.out⟩⟩
    · have a3 := Tryz.asR_M
      have hq : Hid (rowL d (Nd.mk 6 0 ByteArray.empty keys xs : Nd (Tr d)) = none) := by
        exact (rowL_ok hok).trans rfl
      clear he hm hr h4 h3 h2
      go_wp2_with fail
      refine (isNothing_map _ w1).mono ?_
      rintro e w2 ⟨rfl, hb2⟩
      have HB2 := hide (below_trans hB hb2)
      clear hb2 hB
      go_wp2_with fail
      go_ret2
      exact ⟨below_trans HB2.out (below_alloc1 _ _), Or.inr ⟨hq.out, _, rfl⟩⟩
  · unfold faultV
    go_wp2_with fail
    go_ret2
    refine ⟨hB, Or.inr ⟨?_, why, rfl⟩⟩
    rw [rowL, if_neg (by rw [hok]; simp)]

theorem partAt_some {d : Nat} {t : Tr (d + 2)} {i : Int} {xs : List (Tr (d + 1))} (h : rowL (d + 1) t = some xs) : partAtT d t i = ((placeL xs i).getD (zeroT d), true) ∧ xs.length ≤ 60 ∧ ∀ x ∈ xs, okT (d + 1) x = true := by
  unfold rowL at h
  unfold partAtT
  split at h
  · rename_i hok
    rw [if_pos hok]
    split at h
    · rename_i h0
      rw [if_pos h0]
      cases h
      refine ⟨?_, by show (0 : Nat) ≤ 60; omega, fun x hx => by cases hx⟩
      have : placeL ([] : List (Tr (d + 1))) i = none := by
        unfold placeL
        split <;> simp
      rw [this]
      rfl
    · rename_i h0
      rw [if_neg h0]
      split at h
      · rename_i h5
        rw [if_pos h5]
        cases h
        exact ⟨rfl, (okT_kinds hok).2.1, fun x hx => okT_part hok hx⟩
      · cases h
  · cases h
theorem partAt_none {d : Nat} {t : Tr (d + 2)} {i : Int} (h : rowL (d + 1) t = none) : partAtT d t i = (zeroT d, false) := by
  unfold rowL at h
  unfold partAtT
  split at h
  · rename_i hok
    rw [if_pos hok]
    split at h
    · cases h
    · rename_i h0
      rw [if_neg h0]
      split at h
      · cases h
      · rename_i h5
        rw [if_neg h5]
  · rename_i hok
    rw [if_neg hok]
theorem place_out {α : Type} {xs : List α} {i j : Int} (hj : j = if i < 0 then i + (xs.length : Int) else i) (h : j < 0 ∨ (xs.length : Int) ≤ j) : placeL xs i = none := by
  unfold placeL placeI
  rw [if_pos (c := i < -(xs.length : Int) ∨ (xs.length : Int) ≤ i) (by split at hj <;> omega), if_pos (by omega)]
theorem place_in {α : Type} {xs : List α} {i : Int} {k : Nat} (hj : (k : Int) = if i < 0 then i + (xs.length : Int) else i) (h : k < xs.length) : placeL xs i = xs[k]? := by
  unfold placeL placeI
  rw [if_neg (c := i < -(xs.length : Int) ∨ (xs.length : Int) ≤ i) (by split at hj <;> omega), ← hj, if_neg (by omega), Int.toNat_natCast]

theorem bareTree_at (d : Nat) (S : Nat → Prop) (w : World) : TreeG S w (d + 1) (zeroT d) (.iface 91 (.agg #[.int .i64 0])) := Or.inl ⟨0, by omega, rfl, rfl⟩

set_option maxRecDepth 100000 in
set_option maxHeartbeats 4000000 in
theorem implPartAt_any (d : Nat) (S : Nat → Prop) (t : Tr (d + 2)) (v : Value) (i : Int) (hi : I64 i) (w : World) (hv : ValAt S w (d + 2) t v) (hS : Within S w) (hg : ErrType w) :
    Calls Tryz.prog 23 #[v, .int .i64 i] w (TellQ d (partAtT d t i).1 (partAtT d t i).2 w) := by
  obtain ⟨k, n, s, ak, lk, ck, al, ll, cl, rfl⟩ := hv.shape
  obtain ⟨W0, hW⟩ : ∃ W0, W0 = (w.alloc (.cells #[.int .i64 k, .int .i64 n, .string s, .slice ak lk ck, .slice al ll cl] 26)).alloc (.cells #[.int .i64 0, .int .i64 0, .string { data := #[] }, .slice none 0 0, .slice none 0 0] 26) := ⟨_, rfl⟩
  have hW0 : Below w.heap.size w W0 := by rw [hW]; exact below_trans (below_alloc1 _ _) (below_alloc1 _ _)
  have k1 : Blk5 W0 (w.heap.size + 1) 26 (.int .i64 0) (.int .i64 0) (.string { data := #[] }) (.slice none 0 0) (.slice none 0 0) := by
    have := Blk5.new (w.alloc (.cells #[.int .i64 k, .int .i64 n, .string s, .slice ak lk ck, .slice al ll cl] 26)) 26 (.int .i64 0) (.int .i64 0) (.string { data := #[] }) (.slice none 0 0) (.slice none 0 0)
    rw [World.size_alloc] at this
    rw [hW]
    exact this
  have HW := hide hW
  clear hW
  go_enter Tryz.func23, Tryz.ntmps23
  go_wp2_with fail
  rw [← HW.out]
  clear HW
  refine (partsInRow_any (d + 1) S t _ W0 (hv.same (hS.same hW0)) (hS.later hW0.size)).mono ?_
  rintro e w1 ⟨hb1, hq⟩
  have hB1 := below_trans hW0 hb1
  have k2 := k1.below hb1
  have hg1 := hg.below hB1
  have hlt := k2.lt
  -- what is told, however it is
  have hfin : ∀ (w1' : World), Below w1.heap.size w1 w1' → ∀ (x : Tr (d + 1)) (ok : Bool), Hid (∀ e w2, TellQ d x ok w1' e w2 → ∃ v0 v1 v2 v3 v4 v5 v6 v7 v8, e = .returned (.tuple #[.agg #[.int .i64 v0, .int .i64 v1, .string v2, .slice v3 v4 v5, .slice v6 v7 v8], .bool ok]) ∧
      Blk5 w2 (w.heap.size + 1) 26 (.int .i64 0) (.int .i64 0) (.string { data := #[] }) (.slice none 0 0) (.slice none 0 0) ∧
      ∀ wF, wF = set5 w2 (w.heap.size + 1) 0 (.int .i64 v0) (.int .i64 v1) (.string v2) (.slice v3 v4 v5) (.slice v6 v7 v8) → ValOwn wF (d + 1) (Fresh w wF) x (.agg #[.int .i64 v0, .int .i64 v1, .string v2, .slice v3 v4 v5, .slice v6 v7 v8]) ∧ Below w.heap.size w wF) := fun w1' hb' x ok => by
    intro e w2 ⟨v, he, hv, hb2⟩
    obtain ⟨v0, v1, v2, v3, v4, v5, v6, v7, v8, rfl⟩ := (ValOwn.at _ _ _ _ hv).shape
    exact ⟨v0, v1, v2, v3, v4, v5, v6, v7, v8, he, (k2.below hb').below hb2, tell_end hv (below_trans (below_trans hB1 hb') hb2) (by omega) (Nat.lt_of_lt_of_le hlt hb'.size)⟩
  clear hv hW0 k1 k2
  rcases hq with ⟨xs, xa, xc, hrow, rfl, hxs⟩ | ⟨hrow, why, rfl⟩
  · obtain ⟨hR, hx60, hxok⟩ := partAt_some (i := i) hrow
    obtain ⟨j, hj⟩ : ∃ j : Int, j = if i < 0 then i + (xs.length : Int) else i := ⟨_, rfl⟩
    have HJ := hide hj
    have hf0 : 0 ≤ xs.length := Nat.zero_le _
    by_cases hout : j < 0 ∨ (xs.length : Int) ≤ j
    · have HR : Hid (partAtT d t i = (toldT d (zeroT d), okT (d + 1) (zeroT d))) := by
        show partAtT d t i = _
        rw [hR, place_out hj hout, okT_zero d, toldT, if_pos (okT_zero d)]
        rfl
      have hcall := hide (fun w' => told_tree d (fun _ => False) (zeroT d) (.iface 91 (.agg #[.int .i64 0])) w' (bareTree_at d _ _) (fun _ h => h.elim))
      clear hR hj hrow hxs hxok
      go_wp2_with fail
      refine (fromStart_any i xs.length hi hx60 w1).mono ?_
      rintro e w1' ⟨rfl, rfl⟩
      rw [← HJ.out]
      go_wp2_with fail
      all_goals
        refine Calls.mono (hcall.out w1') ?_
        intro e w2 hq
        obtain ⟨v0, v1, v2, v3, v4, v5, v6, v7, v8, rfl, k3, hF⟩ := (hfin w1' (Below.refl _ _) _ _).out e w2 hq
        have HF := hide hF
        obtain ⟨y0, y1, y2, y3, y4⟩ := k3.cell
        have yf := k3.frozen
        clear hF hq hfin hcall k3
        go_wp2_with fail
        refine bodyPost_ret (v := .tuple #[.agg #[.int .i64 v0, .int .i64 v1, .string v2, .slice v3 v4 v5, .slice v6 v7 v8], .bool (okT (d + 1) (zeroT d))]) (by simp [results, Tryz.results23, go_sem, y0, y1, y2, y3, y4]) rfl ⟨_, by rw [HR.out], by rw [HR.out]; exact (HF.out _ rfl).1, (HF.out _ rfl).2⟩
    · obtain ⟨k, rfl⟩ : ∃ k : Nat, j = (k : Int) := ⟨j.toNat, by omega⟩
      have hkl : k < xs.length := by omega
      obtain ⟨b, o, x, u, rfl, hbS, hx, hc, hu⟩ := hxs.cell hkl
      obtain ⟨T, u', rfl⟩ := hu.iface
      have hxo := hxok x (List.mem_of_getElem? hx)
      have HR : Hid (partAtT d t i = (toldT d x, okT (d + 1) x)) := by
        show partAtT d t i = _
        rw [hR, place_in hj hkl, hx, hxo, toldT, if_pos hxo]
        rfl
      have hki : (k : Int) < (xs.length : Int) := by omega
      have hcall := hide (told_tree d _ x _ w1 hu (Fresh.within _ _))
      clear hR hj hrow hxs hxok hx hu hout hxo
      go_wp2_with fail
      refine (fromStart_any i xs.length hi hx60 w1).mono ?_
      rintro e w1' ⟨rfl, rfl⟩
      rw [← HJ.out]
      go_wp2_with fail
      refine Calls.mono hcall.out ?_
      intro e w2 hq
      obtain ⟨v0, v1, v2, v3, v4, v5, v6, v7, v8, rfl, k3, hF⟩ := (hfin w1' (Below.refl _ _) _ _).out e w2 hq
      have HF := hide hF
      obtain ⟨y0, y1, y2, y3, y4⟩ := k3.cell
      have yf := k3.frozen
      clear hF hq hfin hcall k3
      go_wp2_with fail
      refine bodyPost_ret (v := .tuple #[.agg #[.int .i64 v0, .int .i64 v1, .string v2, .slice v3 v4 v5, .slice v6 v7 v8], .bool (okT (d + 1) x)]) (by simp [results, Tryz.results23, go_sem, y0, y1, y2, y3, y4]) rfl ⟨_, by rw [HR.out], by rw [HR.out]; exact (HF.out _ rfl).1, (HF.out _ rfl).2⟩
  · have HR := hide (partAt_none (i := i) hrow)
    have hcall := hide (told_fault d .nilIface why w1 hg1)
    unfold faultV
    clear hrow
    go_wp2_with fail
    refine Calls.mono hcall.out ?_
    intro e w2 hq
    obtain ⟨v0, v1, v2, v3, v4, v5, v6, v7, v8, rfl, k3, hF⟩ := (hfin w1 (Below.refl _ _) _ _).out e w2 hq
    have HF := hide hF
    obtain ⟨y0, y1, y2, y3, y4⟩ := k3.cell
    have yf := k3.frozen
    clear hF hq hfin hcall k3
    go_wp2_with fail
    refine bodyPost_ret (v := .tuple #[.agg #[.int .i64 v0, .int .i64 v1, .string v2, .slice v3 v4 v5, .slice v6 v7 v8], .bool false]) (by simp [results, Tryz.results23, go_sem, y0, y1, y2, y3, y4]) rfl ⟨_, by rw [HR.out], by rw [HR.out]; exact (HF.out _ rfl).1, (HF.out _ rfl).2⟩
end Go.Proofs.YtmibjmipndffmaaGreatDoor

/- PartGet of the program. -/
namespace Go.Proofs.YtmibjmipndffmaaGreatDoor
open Go.RowKit Go.Deep

set_option maxRecDepth 100000 in
set_option maxHeartbeats 4000000 in
theorem implPartGet_any (d : Nat) (S : Nat → Prop) (t : Tr (d + 2)) (v : Value) (s : ByteArray) (hs : s.size < 281474976710656) (w : World) (hv : ValAt S w (d + 2) t v) (hS : Within S w) (hg : ErrType w) :
    Calls Tryz.prog 22 #[v, .string s] w (TellQ d (partGetT d t s).1 (partGetT d t s).2 w) := by
  obtain ⟨k, n, z, ak, lk, ck, al, ll, cl, rfl⟩ := hv.shape
  obtain ⟨W0, hW⟩ : ∃ W0, W0 = (w.alloc (.cells #[.int .i64 k, .int .i64 n, .string z, .slice ak lk ck, .slice al ll cl] 26)).alloc (.cells #[.int .i64 0, .int .i64 0, .string { data := #[] }, .slice none 0 0, .slice none 0 0] 26) := ⟨_, rfl⟩
  have hW0 : Below w.heap.size w W0 := by rw [hW]; exact below_trans (below_alloc1 _ _) (below_alloc1 _ _)
  have k1 : Blk5 W0 (w.heap.size + 1) 26 (.int .i64 0) (.int .i64 0) (.string { data := #[] }) (.slice none 0 0) (.slice none 0 0) := by
    have := Blk5.new (w.alloc (.cells #[.int .i64 k, .int .i64 n, .string z, .slice ak lk ck, .slice al ll cl] 26)) 26 (.int .i64 0) (.int .i64 0) (.string { data := #[] }) (.slice none 0 0) (.slice none 0 0)
    rw [World.size_alloc] at this
    rw [hW]
    exact this
  have HW := hide hW
  clear hW
  go_enter Tryz.func22, Tryz.ntmps22
  go_wp2_with fail
  rw [← HW.out]
  clear HW
  refine (partsByKeys_any (d + 1) S t _ s hs W0 (hv.same (hS.same hW0)) (hS.later hW0.size)).mono ?_
  rintro e w1 ⟨hb1, hq⟩
  have hB1 := below_trans hW0 hb1
  have k2 := k1.below hb1
  have hg1 := hg.below hB1
  have hlt := k2.lt
  -- what is told, however it is
  have hfin : ∀ (w1' : World), Below w1.heap.size w1 w1' → ∀ (x : Tr (d + 1)) (ok : Bool), Hid (∀ e w2, TellQ d x ok w1' e w2 → ∃ v0 v1 v2 v3 v4 v5 v6 v7 v8, e = .returned (.tuple #[.agg #[.int .i64 v0, .int .i64 v1, .string v2, .slice v3 v4 v5, .slice v6 v7 v8], .bool ok]) ∧
      Blk5 w2 (w.heap.size + 1) 26 (.int .i64 0) (.int .i64 0) (.string { data := #[] }) (.slice none 0 0) (.slice none 0 0) ∧
      ∀ wF, wF = set5 w2 (w.heap.size + 1) 0 (.int .i64 v0) (.int .i64 v1) (.string v2) (.slice v3 v4 v5) (.slice v6 v7 v8) → ValOwn wF (d + 1) (Fresh w wF) x (.agg #[.int .i64 v0, .int .i64 v1, .string v2, .slice v3 v4 v5, .slice v6 v7 v8]) ∧ Below w.heap.size w wF) := fun w1' hb' x ok => by
    intro e w2 ⟨v, he, hv, hb2⟩
    obtain ⟨v0, v1, v2, v3, v4, v5, v6, v7, v8, rfl⟩ := (ValOwn.at _ _ _ _ hv).shape
    exact ⟨v0, v1, v2, v3, v4, v5, v6, v7, v8, he, (k2.below hb').below hb2, tell_end hv (below_trans (below_trans hB1 hb') hb2) (by omega) (Nat.lt_of_lt_of_le hlt hb'.size)⟩
  clear hv hW0 k1 k2
  rcases hq with ⟨keys, xs, r, es, ps, hrow, rfl, hma⟩ | ⟨hrow, why, rfl⟩
  · obtain ⟨hR, hxok⟩ := partGet_some hrow
    by_cases hin : s ∈ keys
    · obtain ⟨k', x, hk1, hk2, hk3⟩ := key_at hin hma.same
      have hmem : (s, x) ∈ ps := hma.perm.mem_iff.2 (List.mem_of_getElem? (by rw [List.getElem?_zip_eq_some]; exact ⟨hk1, hk2⟩ : (keys.zip xs)[k']? = some (s, x)))
      obtain ⟨j, u, hj1, hj2, hu, hj3⟩ := hma.ent.find (perm_nodup hma.perm hma.same hma.good) hmem
      obtain ⟨T, u', rfl⟩ := hu.iface
      have hlook := run_mapGet w1 r ps.length j es s _ j true hma.obj hj2 hj3
      have hxo := hxok x (List.mem_of_getElem? hk2)
      have HR : Hid (partGetT d t s = (toldT d x, okT (d + 1) x)) := by
        show partGetT d t s = _
        rw [hR, getL_at hk1 hk2 hk3, hxo, toldT, if_pos hxo]
        rfl
      have hcall := hide (told_tree d _ x _ w1 hu (Fresh.within _ _))
      clear hR hrow hma hxok hk1 hk2 hk3 hmem hj1 hj2 hj3 hu hin hxo
      rw [if_pos rfl] at hlook
      go_wp2_with fail
      refine Calls.mono hcall.out ?_
      intro e w2 hq
      obtain ⟨v0, v1, v2, v3, v4, v5, v6, v7, v8, rfl, k3, hF⟩ := (hfin w1 (Below.refl _ _) _ _).out e w2 hq
      have HF := hide hF
      obtain ⟨y0, y1, y2, y3, y4⟩ := k3.cell
      have yf := k3.frozen
      clear hF hq hfin hcall k3
      go_wp2_with fail
      refine bodyPost_ret (v := .tuple #[.agg #[.int .i64 v0, .int .i64 v1, .string v2, .slice v3 v4 v5, .slice v6 v7 v8], .bool (okT (d + 1) x)]) (by simp [results, Tryz.results22, go_sem, y0, y1, y2, y3, y4]) rfl ⟨_, by rw [HR.out], by rw [HR.out]; exact (HF.out _ rfl).1, (HF.out _ rfl).2⟩
    · have hlook := run_mapMiss w1 r ps.length es s hma.obj (hma.ent.miss (fun h => hin (by
        have h2 := (hma.perm.map Prod.fst).mem_iff.1 h
        rw [List.map_fst_zip (by have := hma.same; omega)] at h2
        exact h2)))
      have HR : Hid (partGetT d t s = (toldT d (zeroT d), okT (d + 1) (zeroT d))) := by
        show partGetT d t s = _
        rw [hR, getL_miss hin, okT_zero d, toldT, if_pos (okT_zero d)]
        rfl
      have hcall := hide (told_tree d (fun _ => False) (zeroT d) (.iface 91 (.agg #[.int .i64 0])) w1 (bareTree_at d _ _) (fun _ h => h.elim))
      clear hR hrow hma hxok hin
      go_wp2_with fail
      refine Calls.mono hcall.out ?_
      intro e w2 hq
      obtain ⟨v0, v1, v2, v3, v4, v5, v6, v7, v8, rfl, k3, hF⟩ := (hfin w1 (Below.refl _ _) _ _).out e w2 hq
      have HF := hide hF
      obtain ⟨y0, y1, y2, y3, y4⟩ := k3.cell
      have yf := k3.frozen
      clear hF hq hfin hcall k3
      go_wp2_with fail
      refine bodyPost_ret (v := .tuple #[.agg #[.int .i64 v0, .int .i64 v1, .string v2, .slice v3 v4 v5, .slice v6 v7 v8], .bool (okT (d + 1) (zeroT d))]) (by simp [results, Tryz.results22, go_sem, y0, y1, y2, y3, y4]) rfl ⟨_, by rw [HR.out], by rw [HR.out]; exact (HF.out _ rfl).1, (HF.out _ rfl).2⟩
  · have HR := hide (partGet_none hrow)
    have hcall := hide (told_fault d .nilIface why w1 hg1)
    unfold faultV
    clear hrow
    go_wp2_with fail
    refine Calls.mono hcall.out ?_
    intro e w2 hq
    obtain ⟨v0, v1, v2, v3, v4, v5, v6, v7, v8, rfl, k3, hF⟩ := (hfin w1 (Below.refl _ _) _ _).out e w2 hq
    have HF := hide hF
    obtain ⟨y0, y1, y2, y3, y4⟩ := k3.cell
    have yf := k3.frozen
    clear hF hq hfin hcall k3
    go_wp2_with fail
    refine bodyPost_ret (v := .tuple #[.agg #[.int .i64 v0, .int .i64 v1, .string v2, .slice v3 v4 v5, .slice v6 v7 v8], .bool false]) (by simp [results, Tryz.results22, go_sem, y0, y1, y2, y3, y4]) rfl ⟨_, by rw [HR.out], by rw [HR.out]; exact (HF.out _ rfl).1, (HF.out _ rfl).2⟩
end Go.Proofs.YtmibjmipndffmaaGreatDoor

/- The trees that were passed on a way, as they lie on the stack. -/
namespace Go.Proofs.YtmibjmipndffmaaGreatDoor
open Go.RowKit Go.Deep

/-- Blocks from N on, without the stack's own. -/
def Live (N : Nat) (w : World) (sv : Value) (b : Nat) : Prop := N ≤ b ∧ b < w.heap.size ∧ some b ≠ sv.ownBlock
/-- All that is passed on a way. -/
def passT (d : Nat) : Tr (d + 2) → List Stp → List (Tr (d + 2) × Stp)
  | _, [] => []
  | t, p :: r => (t, p) :: passT d (stepT d t p).1 r
theorem passT_on {d : Nat} {t : Tr (d + 2)} {ps : List Stp} {k : Nat} {p : Stp} (hp : ps[k]? = some p) : passT d t (ps.drop k) = (t, p) :: passT d (stepT d t p).1 (ps.drop (k + 1)) := by
  obtain ⟨hk, e⟩ := List.getElem?_eq_some_iff.1 hp
  rw [List.drop_eq_getElem_cons hk, e, passT]

/-- What lies on the stack. -/
structure WayTo {d : Nat} (N : Nat) (w : World) (sv : Value) (xs : List (Tr (d + 2) × Stp)) (vs : List Value) : Prop where
  own : w.ownsRow N 76 8 sv xs.length vs
  val : ∀ j x, xs[j]? = some x → ∃ q0 q1 q2 q3 q4 q5 q6 q7 q8, vs[j * 8]? = some (.int .i64 q0) ∧ vs[j * 8 + 1]? = some (.int .i64 q1) ∧ vs[j * 8 + 2]? = some (.string q2) ∧ vs[j * 8 + 3]? = some (.slice q3 q4 q5) ∧ vs[j * 8 + 4]? = some (.slice q6 q7 q8) ∧
    vs[j * 8 + 5]? = some (.bool x.2.map) ∧ vs[j * 8 + 6]? = some (.string x.2.key) ∧ vs[j * 8 + 7]? = some (.int .i64 x.2.place) ∧ ValAt (Live N w sv) w (d + 2) x.1 (.agg #[.int .i64 q0, .int .i64 q1, .string q2, .slice q3 q4 q5, .slice q6 q7 q8]) ∧ StpFit x.2

theorem WayTo.start {d : Nat} (N : Nat) (w : World) : WayTo (d := d) N w (.slice none 0 0) [] [] :=
  ⟨World.ownsRow_nil _ _ _ _, fun j x hj => by simp at hj⟩
theorem WayTo.later {d N : Nat} {w w' : World} {sv : Value} {xs : List (Tr (d + 2) × Stp)} {vs : List Value} (h : WayTo N w sv xs vs) (hk : ∀ c, N ≤ c → c < w.heap.size → w'.heap[c]? = w.heap[c]?) (hz : w.heap.size ≤ w'.heap.size) : WayTo N w' sv xs vs := by
  obtain ⟨h1, h2⟩ := h
  refine ⟨⟨h1.1, ?_⟩, fun j x hx => ?_⟩
  · rcases h1.2 with h | ⟨g, cap, cur, hv, hg, hh, hrest⟩
    · exact Or.inl h
    · exact Or.inr ⟨g, cap, cur, hv, hg, (hk g hg (Array.getElem?_eq_some_iff.1 hh).1).trans hh, hrest⟩
  · obtain ⟨q0, q1, q2, q3, q4, q5, q6, q7, q8, e0, e1, e2, e3, e4, e5, e6, e7, hv, hf⟩ := h2 j x hx
    exact ⟨q0, q1, q2, q3, q4, q5, q6, q7, q8, e0, e1, e2, e3, e4, e5, e6, e7, ValAt.moved (fun b hb => hk b hb.1 hb.2.1) (fun b hb => ⟨hb.1, Nat.lt_of_lt_of_le hb.2.1 hz, hb.2.2⟩) _ _ _ hv, hf⟩

theorem live_grow {N : Nat} {wr wc w2 : World} {sv sv' : Value} (hb : Below wr.heap.size wr wc) (hg : wc.grownBy w2 sv.ownBlock) (hw : sv'.ownBlock = sv.ownBlock ∨ sv'.ownBlock = some wc.heap.size) :
    (∀ b, Live N wr sv b → w2.heap[b]? = wr.heap[b]?) ∧ (∀ b, Live N wr sv b → Live N w2 sv' b) := by
  have hs1 := hb.size
  have hs2 := hg.size
  refine ⟨fun b h => (hg.block b (by have := h.2.1; omega) h.2.2).trans (hb.block b h.2.1), fun b h => ⟨h.1, by have := h.2.1; omega, ?_⟩⟩
  rcases hw with e | e
  · rw [e]; exact h.2.2
  · rw [e]; intro e2; cases e2; have := h.2.1; omega

theorem WayTo.push {d N : Nat} {wr wc w2 : World} {sv sv' : Value} {xs : List (Tr (d + 2) × Stp)} {vs : List Value} {x : Tr (d + 2)} {p : Stp} {q0 q1 : Int} {q2 : ByteArray} {q3 : Option Addr} {q4 q5 : Nat} {q6 : Option Addr} {q7 q8 : Nat} (h : WayTo N wr sv xs vs) (hb : Below wr.heap.size wr wc)
    (hx : ValAt (Live N wr sv) wr (d + 2) x (.agg #[.int .i64 q0, .int .i64 q1, .string q2, .slice q3 q4 q5, .slice q6 q7 q8])) (hp : StpFit p)
    (hown : w2.ownsRow N 76 8 sv' (xs.length + 1) (vs ++ [.int .i64 q0, .int .i64 q1, .string q2, .slice q3 q4 q5, .slice q6 q7 q8, .bool p.map, .string p.key, .int .i64 p.place])) (hg : wc.grownBy w2 sv.ownBlock)
    (hw : sv'.ownBlock = sv.ownBlock ∨ sv'.ownBlock = some wc.heap.size) :
    WayTo N w2 sv' (xs ++ [(x, p)]) (vs ++ [.int .i64 q0, .int .i64 q1, .string q2, .slice q3 q4 q5, .slice q6 q7 q8, .bool p.map, .string p.key, .int .i64 p.place]) := by
  obtain ⟨h1, h2⟩ := h
  obtain ⟨hl1, hl2⟩ := live_grow (N := N) hb hg hw
  have hlen : vs.length = xs.length * 8 := h1.1
  refine ⟨by rw [List.length_append]; exact hown, fun j y hy => ?_⟩
  by_cases e : j < xs.length
  · rw [List.getElem?_append_left e] at hy
    obtain ⟨r0, r1, r2, r3, r4, r5, r6, r7, r8, e0, e1, e2, e3, e4, e5, e6, e7, hv, hf⟩ := h2 j y hy
    refine ⟨r0, r1, r2, r3, r4, r5, r6, r7, r8, ?_, ?_, ?_, ?_, ?_, ?_, ?_, ?_, ValAt.moved hl1 hl2 _ _ _ hv, hf⟩
    all_goals
      rw [List.getElem?_append_left (by omega)]
      assumption
  · have hj := (List.getElem?_eq_some_iff.1 hy).1
    simp only [List.length_append, List.length_cons, List.length_nil] at hj
    obtain rfl : j = xs.length := by omega
    rw [List.getElem?_append_right (Nat.le_refl _), Nat.sub_self] at hy
    cases hy
    refine ⟨q0, q1, q2, q3, q4, q5, q6, q7, q8, ?_, ?_, ?_, ?_, ?_, ?_, ?_, ?_, ValAt.moved hl1 hl2 _ _ _ hx, hp⟩
    all_goals
      rw [List.getElem?_append_right (by omega), hlen]
      simp

theorem cell_eight_new (w : World) (a b c d e f g h : Value) (t : TypeId) : ∀ j u, [a, b, c, d, e, f, g, h][j]? = some u → (w.alloc (.cells #[a, b, c, d, e, f, g, h] t)).cell? ((⟨w.heap.size, 0, none⟩ : Addr).add j) = some u := by
  intro j u hj
  have hadd : (⟨w.heap.size, 0, none⟩ : Addr).add j = ⟨w.heap.size, 0 + j, none⟩ := by unfold Addr.add; split <;> simp_all
  rw [hadd]
  rcases j with _ | _ | _ | _ | _ | _ | _ | _ | j
  · simp at hj; subst hj; simp
  · simp at hj; subst hj; simp
  · simp at hj; subst hj; simp
  · simp at hj; subst hj; simp
  · simp at hj; subst hj; simp
  · simp at hj; subst hj; simp
  · simp at hj; subst hj; simp
  · simp at hj; subst hj; simp
  · simp at hj
def zeroWay : Value := .agg #[.int .i64 0, .int .i64 0, .string ByteArray.empty, .slice none 0 0, .slice none 0 0, .bool false, .string ByteArray.empty, .int .i64 0]
theorem Tryz.infoWay : (Tryz.prog.info? 76).map (fun i => (i.zero, i.size, i.bytes)) = some (some zeroWay, 8, 112) := by kernel_rfl
end Go.Proofs.YtmibjmipndffmaaGreatDoor

/- What stands while a way is gone along. -/
namespace Go.Proofs.YtmibjmipndffmaaGreatDoor
open Go.RowKit Go.Deep

/-- What stands when j steps were looked at. -/
structure Along {d : Nat} (w : World) (t : Tr (d + 2)) (ps : List Stp) (wr : World) (j : Nat) (sv : Value) (okb : Bool) (x : Tr (d + 2)) (q0 q1 : Int) (q2 : ByteArray) (q3 : Option Addr) (q4 q5 : Nat) (q6 : Option Addr) (q7 q8 : Nat) (xs : List (Tr (d + 2) × Stp)) (vs : List Value) : Prop where
  box : Blk5 wr w.heap.size 26 (.int .i64 q0) (.int .i64 q1) (.string q2) (.slice q3 q4 q5) (.slice q6 q7 q8)
  res : Blk5 wr (w.heap.size + 1) 26 (.int .i64 0) (.int .i64 0) (.string { data := #[] }) (.slice none 0 0) (.slice none 0 0)
  val : ValOwn wr (d + 2) (Live (w.heap.size + 2) wr sv) x (.agg #[.int .i64 q0, .int .i64 q1, .string q2, .slice q3 q4 q5, .slice q6 q7 q8])
  below : Below w.heap.size w wr
  way : WayTo (w.heap.size + 2) wr sv xs vs
  lens : xs.length ≤ j
  told : (okb = true ∧ pathGetT d t ps = alongT d x (ps.drop j) ∧ xs ++ passT d x (ps.drop j) = passT d t ps) ∨ (okb = false ∧ x = zeroT (d + 1) ∧ pathGetT d t ps = (zeroT (d + 1), false))

section
variable {d : Nat} {w : World} {t : Tr (d + 2)} {ps : List Stp} {wr : World} {j : Nat} {sv : Value} {okb : Bool} {x : Tr (d + 2)} {q0 q1 : Int} {q2 : ByteArray} {q3 : Option Addr} {q4 q5 : Nat} {q6 : Option Addr} {q7 q8 : Nat} {xs : List (Tr (d + 2) × Stp)} {vs : List Value}

theorem Along.keep {w' : World} (h : Along w t ps wr j sv okb x q0 q1 q2 q3 q4 q5 q6 q7 q8 xs vs) (hb : Below wr.heap.size wr w') : Along w t ps w' j sv okb x q0 q1 q2 q3 q4 q5 q6 q7 q8 xs vs :=
  ⟨h.box.below hb, h.res.below hb, ValOwn.moved _ _ _ _ _ h.val (fun b hl => hb.block b hl.2.1) (fun _ hl => ⟨hl.1, Nat.lt_of_lt_of_le hl.2.1 hb.size, hl.2.2⟩), below_trans h.below hb, h.way.later (fun c _ hc => hb.block c hc) hb.size, h.lens, h.told⟩

theorem Along.end' (h : Along w t ps wr j sv okb x q0 q1 q2 q3 q4 q5 q6 q7 q8 xs vs) :
    ∀ wF, wF = set5 wr (w.heap.size + 1) 0 (.int .i64 q0) (.int .i64 q1) (.string q2) (.slice q3 q4 q5) (.slice q6 q7 q8) → ValOwn wF (d + 2) (Fresh w wF) x (.agg #[.int .i64 q0, .int .i64 q1, .string q2, .slice q3 q4 q5, .slice q6 q7 q8]) ∧ Below w.heap.size w wF ∧ WayTo (w.heap.size + 2) wF sv xs vs := by
  intro wF hF
  have hz : wF.heap.size = wr.heap.size := by rw [hF, set5_size]
  have hs : ∀ c, w.heap.size + 2 ≤ c → wF.heap[c]? = wr.heap[c]? := fun c hc => by rw [hF, set5_block _ _ _ _ _ _ _ _ _ (by omega)]
  refine ⟨ValOwn.moved _ _ _ _ _ h.val (fun b hl => hs b hl.1) (fun b hl => ⟨by have := hl.1; omega, by have := hl.2.1; omega⟩), ?_, h.way.later (fun c hc _ => hs c hc) (by omega)⟩
  rw [hF]
  exact below_set5 h.below (by omega) _ _ _ _ _ _

theorem Along.endD (h : Along w t ps wr j sv okb x q0 q1 q2 q3 q4 q5 q6 q7 q8 xs vs) :
    ∀ wF, wF = (set5 wr (w.heap.size + 1) 0 (.int .i64 q0) (.int .i64 q1) (.string q2) (.slice q3 q4 q5) (.slice q6 q7 q8)).drew → ValOwn wF (d + 2) (Fresh w wF) x (.agg #[.int .i64 q0, .int .i64 q1, .string q2, .slice q3 q4 q5, .slice q6 q7 q8]) ∧ Below w.heap.size w wF ∧ WayTo (w.heap.size + 2) wF sv xs vs := by
  intro wF hF
  have he := h.end'
  generalize set5 wr (w.heap.size + 1) 0 (.int .i64 q0) (.int .i64 q1) (.string q2) (.slice q3 q4 q5) (.slice q6 q7 q8) = W1 at hF he
  obtain ⟨h1, h2, h3⟩ := he W1 rfl
  subst hF
  exact ⟨ValOwn.moved _ _ _ _ _ h1 (fun _ _ => rfl) (fun _ hb => hb), ⟨h2.os, h2.tape, h2.output, h2.size, h2.block⟩, h3.later (fun _ _ _ => rfl) (Nat.le_refl _)⟩

/-- What stands behind the append. -/
theorem Along.grown {wc w2 : World} (h : Along w t ps wr j sv okb x q0 q1 q2 q3 q4 q5 q6 q7 q8 xs vs) (hb : Below wr.heap.size wr wc) (hg : wc.grownBy w2 sv.ownBlock) :
    (∀ b, b < w.heap.size + 2 → w2.heap[b]? = wr.heap[b]?) ∧ Below w.heap.size w w2 ∧ (∀ b, wr.heap.size ≤ b → b < wc.heap.size → w2.heap[b]? = wc.heap[b]?) := by
  have hlt := h.res.lt
  have hs1 := hb.size
  have hs2 := hg.size
  have hs0 := h.below.size
  have hN : ∀ g, sv.ownBlock = some g → w.heap.size + 2 ≤ g ∧ g < wr.heap.size := fun g hg => h.way.own.lt g hg
  have h1 : ∀ b, b < w.heap.size + 2 → w2.heap[b]? = wr.heap[b]? := fun b hb2 => (hg.block b (by omega) (fun e => by have := hN b e.symm; omega)).trans (hb.block b (by omega))
  refine ⟨h1, ⟨hg.os.trans (hb.os.trans h.below.os), hg.tape.trans (hb.tape.trans h.below.tape), hg.output.trans (hb.output.trans h.below.output), by omega, fun b hb2 => (h1 b (by omega)).trans (h.below.block b hb2)⟩, fun b hb1 hb2 => hg.block b hb2 (fun e => by have := hN b e.symm; omega)⟩

theorem Along.step {wc w2 w3 : World} {sv' : Value} {p : Stp} {u0 u1 : Int} {u2 : ByteArray} {u3 : Option Addr} {u4 u5 : Nat} {u6 : Option Addr} {u7 u8 : Nat} (h : Along w t ps wr j sv true x q0 q1 q2 q3 q4 q5 q6 q7 q8 xs vs) (hp : ps[j]? = some p) (hfit : StpFit p) (hb : Below wr.heap.size wr wc)
    (o1 : w2.ownsRow (w.heap.size + 2) 76 8 sv' (xs.length + 1) (vs ++ [.int .i64 q0, .int .i64 q1, .string q2, .slice q3 q4 q5, .slice q6 q7 q8, .bool p.map, .string p.key, .int .i64 p.place])) (o2 : wc.grownBy w2 sv.ownBlock) (o3 : sv'.ownBlock = sv.ownBlock ∨ sv'.ownBlock = some wc.heap.size)
    (hu : ValOwn w3 (d + 2) (Fresh w2 w3) (stepT d x p).1 (.agg #[.int .i64 u0, .int .i64 u1, .string u2, .slice u3 u4 u5, .slice u6 u7 u8])) (hb3 : Below w2.heap.size w2 w3) :
    ∀ wF, wF = set5 w3 w.heap.size 0 (.int .i64 u0) (.int .i64 u1) (.string u2) (.slice u3 u4 u5) (.slice u6 u7 u8) →
      Along w t ps wF (j + 1) sv' (stepT d x p).2 (stepT d x p).1 u0 u1 u2 u3 u4 u5 u6 u7 u8 (xs ++ [(x, p)]) (vs ++ [.int .i64 q0, .int .i64 q1, .string q2, .slice q3 q4 q5, .slice q6 q7 q8, .bool p.map, .string p.key, .int .i64 p.place]) := by
  intro wF hF
  obtain ⟨g1, g2, g3⟩ := h.grown hb o2
  have hz : wF.heap.size = w3.heap.size := by rw [hF, set5_size]
  have hs : ∀ c, w.heap.size < c → wF.heap[c]? = w3.heap[c]? := fun c hc => by rw [hF, set5_block _ _ _ _ _ _ _ _ _ (by omega)]
  have hs2 := o2.size
  have hs1 := hb.size
  have hs3 := hb3.size
  have hlt := h.res.lt
  have hw := h.way.push hb (ValOwn.at _ _ _ _ h.val) hfit o1 o2 o3
  have hown := fun g => o1.lt g
  refine ⟨?_, ?_, ?_, ?_, hw.later (fun c hc1 hc2 => by rw [hs c (by omega)]; exact hb3.block c hc2) (by omega), by rw [List.length_append]; have := h.lens; simp; omega, ?_⟩
  · rw [hF]
    exact (Blk5.of_block h.box (((hb3.block _ (by omega)).trans (g1 _ (by omega))))).set5 _ _ _ _ _
  · refine Blk5.of_block h.res ?_
    rw [hs _ (by omega), hb3.block _ (by omega), g1 _ (by omega)]
  · refine ValOwn.moved _ _ _ _ _ hu (fun b hf => hs b (by have := hf.1; omega)) (fun b hf => ⟨by have := hf.1; omega, by have := hf.2; omega, fun e => ?_⟩)
    have := (hown b e.symm).2
    have := hf.1
    omega
  · rw [hF]
    exact below_set5 (below_trans g2 hb3) (Nat.le_refl _) _ _ _ _ _ _
  · rcases h.told with ⟨_, h1, h2⟩ | ⟨h1, _⟩
    · cases hst : (stepT d x p).2 with
      | true => exact Or.inl ⟨rfl, h1.trans (alongT_on hp hst), by rw [List.append_assoc, ← h2, passT_on hp]; rfl⟩
      | false => exact Or.inr ⟨rfl, step_off hst, h1.trans (alongT_off hp hst)⟩
    · cases h1
end
/-- But block c all is as it was. -/
def ButB (c : Nat) (w w' : World) : Prop := ∀ b, b ≠ c → w'.heap[b]? = w.heap[b]?
theorem butb_refl {c : Nat} {w : World} : ButB c w w := fun _ _ => rfl
theorem butb_drew {c : Nat} {w w' : World} (h : ButB c w w') : ButB c w w'.drew := h
theorem butb_cell {c i : Nat} {w w' : World} {v : Value} (h : ButB c w w') : ButB c w (w'.setCell ⟨c, i, none⟩ v) := fun b hb => (Below.heap_setCell _ _ _ _ hb).trans (h b hb)
theorem butb_blk {c b : Nat} {w w' : World} {T : TypeId} {c0 c1 c2 c3 c4 : Value} (h : ButB c w w') (hb : b ≠ c) (k : Blk5 w b T c0 c1 c2 c3 c4) : Blk5 w' b T c0 c1 c2 c3 c4 := k.of_block (h b hb)
theorem pathOk_len {ps : List Stp} (h : pathOk ps = true) : ps.length ≤ 6 := by
  unfold pathOk at h
  rw [Bool.and_eq_true] at h
  exact of_decide_eq_true h.2
theorem size2' (w : World) (A B : Obj) : ((w.alloc A).alloc B).heap.size = w.heap.size + 1 + 1 := by simp
theorem size3' (w : World) (A B C : Obj) : (((w.alloc A).alloc B).alloc C).heap.size = w.heap.size + 1 + 1 + 1 := by simp
/-- The eight cells of a block. -/
theorem cells8 {w : World} {b : Nat} {T : TypeId} {c0 c1 c2 c3 c4 c5 c6 c7 : Value} (h : w.heap[b]? = some (.cells #[c0, c1, c2, c3, c4, c5, c6, c7] T (0, 0))) :
    w.cell? ⟨b, 0, none⟩ = some c0 ∧ w.cell? ⟨b, 1, none⟩ = some c1 ∧ w.cell? ⟨b, 2, none⟩ = some c2 ∧ w.cell? ⟨b, 3, none⟩ = some c3 ∧ w.cell? ⟨b, 4, none⟩ = some c4 ∧ w.cell? ⟨b, 5, none⟩ = some c5 ∧ w.cell? ⟨b, 6, none⟩ = some c6 ∧ w.cell? ⟨b, 7, none⟩ = some c7 := by
  simp [World.cell?, h]
end Go.Proofs.YtmibjmipndffmaaGreatDoor

/- next, along, PathGet of the program. -/
namespace Go.Proofs.YtmibjmipndffmaaGreatDoor
open Go.RowKit Go.Deep

set_option maxRecDepth 100000 in
set_option maxHeartbeats 4000000 in
theorem next_any (d : Nat) (S : Nat → Prop) (t : Tr (d + 2)) (p : Stp) (q0 q1 : Int) (q2 : ByteArray) (q3 : Option Addr) (q4 q5 : Nat) (q6 : Option Addr) (q7 q8 : Nat) (w : World) (hv : ValAt S w (d + 2) t (.agg #[.int .i64 q0, .int .i64 q1, .string q2, .slice q3 q4 q5, .slice q6 q7 q8])) (hS : Within S w) (hp : StpFit p) (hg : ErrType w) :
    Calls Tryz.prog 90 #[.agg #[.int .i64 q0, .int .i64 q1, .string q2, .slice q3 q4 q5, .slice q6 q7 q8, .bool p.map, .string p.key, .int .i64 p.place]] w (TellQ (d + 1) (stepT d t p).1 (stepT d t p).2 w) := by
  cases hm : p.map with
  | true =>
    have HS := hide (stepT_map (d := d) (t := t) hm)
    obtain ⟨W0, hW⟩ : ∃ W0, W0 = (w.alloc (.cells #[.int .i64 q0, .int .i64 q1, .string q2, .slice q3 q4 q5, .slice q6 q7 q8, .bool true, .string p.key, .int .i64 p.place] 76)).alloc (.cells #[.int .i64 0, .int .i64 0, .string { data := #[] }, .slice none 0 0, .slice none 0 0] 26) := ⟨_, rfl⟩
    have hW0 : Below w.heap.size w W0 := by rw [hW]; exact below_trans (below_alloc1 _ _) (below_alloc1 _ _)
    have k2 : Blk5 W0 (w.heap.size + 1) 26 (.int .i64 0) (.int .i64 0) (.string { data := #[] }) (.slice none 0 0) (.slice none 0 0) := by
      have := Blk5.new (w.alloc (.cells #[.int .i64 q0, .int .i64 q1, .string q2, .slice q3 q4 q5, .slice q6 q7 q8, .bool true, .string p.key, .int .i64 p.place] 76)) 26 (.int .i64 0) (.int .i64 0) (.string { data := #[] }) (.slice none 0 0) (.slice none 0 0)
      rw [World.size_alloc] at this
      rw [hW]
      exact this
    have hlt := k2.lt
    have HW := hide hW
    clear hW
    go_enter Tryz.func90, Tryz.ntmps90
    go_wp2_with fail
    rw [← HW.out]
    clear HW
    refine Calls.mono (implPartGet_any d S t _ p.key hp.1 W0 (hv.same (hS.same hW0)) (hS.later hW0.size) (hg.below hW0)) ?_
    rintro e w1 ⟨u, rfl, hu, hb1⟩
    obtain ⟨u0, u1, u2, u3, u4, u5, u6, u7, u8, rfl⟩ := (ValOwn.at _ _ _ _ hu).shape
    have HF := hide (tell_end hu (below_trans hW0 hb1) (show w.heap.size ≤ w.heap.size + 1 by omega) hlt)
    have k3 := k2.below hb1
    obtain ⟨y0, y1, y2, y3, y4⟩ := k3.cell
    have yf := k3.frozen
    clear k2 k3 hb1 hW0 hu hv
    go_wp2_with fail
    rw [HS.out]
    refine bodyPost_ret (v := .tuple #[.agg #[.int .i64 u0, .int .i64 u1, .string u2, .slice u3 u4 u5, .slice u6 u7 u8], .bool (partGetT d t p.key).2]) (by simp [results, Tryz.results90, go_sem, y0, y1, y2, y3, y4]) rfl ⟨_, rfl, ValOwn.up _ _ _ _ (HF.out _ rfl).1, (HF.out _ rfl).2⟩
  | false =>
    have HS := hide (stepT_place (d := d) (t := t) hm)
    obtain ⟨W0, hW⟩ : ∃ W0, W0 = (w.alloc (.cells #[.int .i64 q0, .int .i64 q1, .string q2, .slice q3 q4 q5, .slice q6 q7 q8, .bool false, .string p.key, .int .i64 p.place] 76)).alloc (.cells #[.int .i64 0, .int .i64 0, .string { data := #[] }, .slice none 0 0, .slice none 0 0] 26) := ⟨_, rfl⟩
    have hW0 : Below w.heap.size w W0 := by rw [hW]; exact below_trans (below_alloc1 _ _) (below_alloc1 _ _)
    have k2 : Blk5 W0 (w.heap.size + 1) 26 (.int .i64 0) (.int .i64 0) (.string { data := #[] }) (.slice none 0 0) (.slice none 0 0) := by
      have := Blk5.new (w.alloc (.cells #[.int .i64 q0, .int .i64 q1, .string q2, .slice q3 q4 q5, .slice q6 q7 q8, .bool false, .string p.key, .int .i64 p.place] 76)) 26 (.int .i64 0) (.int .i64 0) (.string { data := #[] }) (.slice none 0 0) (.slice none 0 0)
      rw [World.size_alloc] at this
      rw [hW]
      exact this
    have hlt := k2.lt
    have HW := hide hW
    clear hW
    go_enter Tryz.func90, Tryz.ntmps90
    go_wp2_with fail
    rw [← HW.out]
    clear HW
    refine Calls.mono (implPartAt_any d S t _ p.place hp.2 W0 (hv.same (hS.same hW0)) (hS.later hW0.size) (hg.below hW0)) ?_
    rintro e w1 ⟨u, rfl, hu, hb1⟩
    obtain ⟨u0, u1, u2, u3, u4, u5, u6, u7, u8, rfl⟩ := (ValOwn.at _ _ _ _ hu).shape
    have HF := hide (tell_end hu (below_trans hW0 hb1) (show w.heap.size ≤ w.heap.size + 1 by omega) hlt)
    have k3 := k2.below hb1
    obtain ⟨y0, y1, y2, y3, y4⟩ := k3.cell
    have yf := k3.frozen
    clear k2 k3 hb1 hW0 hu hv
    go_wp2_with fail
    rw [HS.out]
    refine bodyPost_ret (v := .tuple #[.agg #[.int .i64 u0, .int .i64 u1, .string u2, .slice u3 u4 u5, .slice u6 u7 u8], .bool (partAtT d t p.place).2]) (by simp [results, Tryz.results90, go_sem, y0, y1, y2, y3, y4]) rfl ⟨_, rfl, ValOwn.up _ _ _ _ (HF.out _ rfl).1, (HF.out _ rfl).2⟩

theorem told_given {d : Nat} {t : Tr (d + 1)} (h : okT (d + 1) t = true) : toldT d t = t := by rw [toldT, if_pos h]

set_option maxRecDepth 100000 in
set_option maxHeartbeats 4000000 in
theorem along_any (d : Nat) (S : Nat → Prop) (t : Tr (d + 2)) (v : Value) (S' : Nat → Prop) (ps : List Stp) (v' : Value) (w : World) (hv : ValAt S w (d + 2) t v) (hS : Within S w) (hv' : StepsAt S' w v' ps) (hS' : Within S' w) (hg : ErrType w) :
    Calls Tryz.prog 43 #[v, v'] w (fun e w' => ∃ sv u xs vs, e = .returned (.tuple #[sv, u, .bool (pathGetT d t ps).2]) ∧ ValOwn w' (d + 2) (Fresh w w') (pathGetT d t ps).1 u ∧ Below w.heap.size w w' ∧ WayTo (d := d) (w.heap.size + 2) w' sv xs vs ∧ ((pathGetT d t ps).2 = true → xs = passT d t ps)) := by
  obtain ⟨k, n, s, ak, lk, ck, al, ll, cl, rfl⟩ := hv.shape
  obtain ⟨a, cap, rfl, hlen⟩ := hv'.open'
  obtain ⟨W0, hW⟩ : ∃ W0, W0 = (w.alloc (.cells #[.int .i64 k, .int .i64 n, .string s, .slice ak lk ck, .slice al ll cl] 26)).alloc (.cells #[.int .i64 0, .int .i64 0, .string { data := #[] }, .slice none 0 0, .slice none 0 0] 26) := ⟨_, rfl⟩
  have hW0 : Below w.heap.size w W0 := by rw [hW]; exact below_trans (below_alloc1 _ _) (below_alloc1 _ _)
  have k0 : Blk5 W0 w.heap.size 26 (.int .i64 k) (.int .i64 n) (.string s) (.slice ak lk ck) (.slice al ll cl) := by
    rw [hW]; exact (Blk5.new w 26 _ _ _ _ _).alloc _
  have k1 : Blk5 W0 (w.heap.size + 1) 26 (.int .i64 0) (.int .i64 0) (.string { data := #[] }) (.slice none 0 0) (.slice none 0 0) := by
    have := Blk5.new (w.alloc (.cells #[.int .i64 k, .int .i64 n, .string s, .slice ak lk ck, .slice al ll cl] 26)) 26 (.int .i64 0) (.int .i64 0) (.string { data := #[] }) (.slice none 0 0) (.slice none 0 0)
    rw [World.size_alloc] at this
    rw [hW]
    exact this
  have HW := hide hW
  clear hW
  go_enter Tryz.func43, Tryz.ntmps43
  go_wp2_with fail
  rw [← HW.out]
  clear HW
  refine (implPathOk_any S' ps _ W0 (hv'.same (hS'.same hW0)) (hS'.later hW0.size)).mono ?_
  rintro e w1 ⟨rfl, hb1⟩
  replace k0 := k0.below hb1
  replace k1 := k1.below hb1
  have hB1 := below_trans hW0 hb1
  have hlt1 := k1.lt
  clear hb1 hW0
  cases hpo : pathOk ps with
  | false =>
    have hz : Hid (pathGetT d t ps = (zeroT (d + 1), false)) := by
      show pathGetT d t ps = _
      rw [pathGetT, if_neg (by rw [hpo]; simp)]
    have hN : Hid (∀ wF, wF = set5 w1 (w.heap.size + 1) 0 (.int .i64 0) (.int .i64 0) (.string { data := #[] }) (.slice none 0 0) (.slice none 0 0) → Below w.heap.size w wF) := by
      intro wF hF
      rw [hF]
      exact below_set5 hB1 (by omega) _ _ _ _ _ _
    obtain ⟨y0, y1, y2, y3, y4⟩ := k1.cell
    have yf := k1.frozen
    clear k0 k1 hB1 hv
    go_wp2_with fail
    rw [hz.out]
    refine bodyPost_ret (v := .tuple #[.slice none 0 0, zeroVal, .bool false]) (by simp [results, Tryz.results43, go_sem, zeroVal, y0, y1, y2, y3, y4]; rfl) rfl ⟨_, _, [], [], rfl, zeroVal_own (d + 1) _ _, hN.out _ rfl, WayTo.start _ _, fun h => by cases h⟩
  | true =>
    obtain ⟨x0, x1, x2, x3, x4⟩ := k0.cell
    go_wp2_with fail
    refine (given_any (d + 2) S t _ w1 (hv.same (hS.same hB1)) (hS.later hB1.size)).mono ?_
    rintro e w2 ⟨hb2, hq⟩
    replace k0 := k0.below hb2
    replace k1 := k1.below hb2
    have hlt12 : w.heap.size + 2 ≤ w2.heap.size := by have := hb2.size; omega
    have hB2 := below_trans hB1 hb2
    have hg2 := hg.below hB2
    have HQ : Hid (∃ r : Value × Value, e = .returned (.tuple #[r.1, r.2]) ∧ Calls Tryz.prog 44 #[r.1, r.2] w2 (fun e w' => ∃ (x : Tr (d + 2)) (okb : Bool) (q0 q1 : Int) (q2 : ByteArray) (q3 : Option Addr) (q4 q5 : Nat) (q6 : Option Addr) (q7 q8 : Nat), e = .returned (.tuple #[.agg #[.int .i64 q0, .int .i64 q1, .string q2, .slice q3 q4 q5, .slice q6 q7 q8], .bool okb]) ∧ ValOwn w' (d + 2) (Fresh w2 w') x (.agg #[.int .i64 q0, .int .i64 q1, .string q2, .slice q3 q4 q5, .slice q6 q7 q8]) ∧ Below w2.heap.size w2 w' ∧ ((okb = true ∧ x = t ∧ okT (d + 2) t = true) ∨ (okb = false ∧ x = zeroT (d + 1) ∧ pathGetT d t ps = (zeroT (d + 1), false))))) := by
      rcases hq with ⟨hok, u, rfl, hu⟩ | ⟨hok, why, rfl⟩
      · refine ⟨(u, .nilIface), rfl, ?_⟩
        refine Calls.mono (told_tree (d + 1) _ t u w2 hu (Fresh.within _ _)) ?_
        rintro e w3 ⟨x, rfl, hx, hb3⟩
        rw [told_given hok] at hx
        obtain ⟨u0, u1, u2, u3, u4, u5, u6, u7, u8, rfl⟩ := (ValOwn.at _ _ _ _ hx).shape
        exact ⟨t, true, u0, u1, u2, u3, u4, u5, u6, u7, u8, by rw [hok], hx, hb3, Or.inl ⟨rfl, rfl, hok⟩⟩
      · refine ⟨(.nilIface, faultV why), rfl, ?_⟩
        refine Calls.mono (told_fault (d + 1) .nilIface why w2 hg2) ?_
        rintro e w3 ⟨x, rfl, hx, hb3⟩
        obtain ⟨u0, u1, u2, u3, u4, u5, u6, u7, u8, rfl⟩ := (ValOwn.at _ _ _ _ hx).shape
        exact ⟨zeroT (d + 1), false, u0, u1, u2, u3, u4, u5, u6, u7, u8, rfl, hx, hb3, Or.inr ⟨rfl, rfl, by rw [pathGetT, if_neg (by rw [hok]; simp)]⟩⟩
    clear hq hb2 hB1 x0 x1 x2 x3 x4
    obtain ⟨⟨r1, r2⟩, rfl, hcall⟩ := HQ.out
    have HC := hide hcall
    clear hcall HQ
    go_wp2_with fail
    refine Calls.mono HC.out ?_
    rintro e w3 ⟨x, okb, q0, q1, q2, q3, q4, q5, q6, q7, q8, rfl, hx, hb3, hcase⟩
    have HX := hide hx
    have HCA := hide hcase
    replace k0 := k0.below hb3
    replace k1 := k1.below hb3
    have hB3 := below_trans hB2 hb3
    have hlt2 := k1.lt
    have hw2 : w.heap.size + 2 ≤ w2.heap.size := hlt12
    obtain ⟨x0, x1, x2, x3, x4⟩ := k0.cell
    have xf := k0.frozen
    have H0 : Hid (∀ wF, wF = set5 w3 w.heap.size 0 (.int .i64 q0) (.int .i64 q1) (.string q2) (.slice q3 q4 q5) (.slice q6 q7 q8) → Along (d := d) w t ps wF 0 (.slice none 0 0) okb x q0 q1 q2 q3 q4 q5 q6 q7 q8 [] []) := by
      intro wF hF
      have hz : wF.heap.size = w3.heap.size := by rw [hF, set5_size]
      have hs : ∀ c, w.heap.size < c → wF.heap[c]? = w3.heap[c]? := fun c hc => by rw [hF, set5_block _ _ _ _ _ _ _ _ _ (by omega)]
      refine ⟨by rw [hF]; exact k0.set5 _ _ _ _ _, k1.of_block (hs _ (by omega)), ValOwn.moved _ _ _ _ _ HX.out (fun b hb => hs b (by have := hb.1; omega)) (fun b hb => ⟨by have := hb.1; omega, by have := hb.2; omega, by intro e; cases e⟩), by rw [hF]; exact below_set5 hB3 (Nat.le_refl _) _ _ _ _ _ _, WayTo.start _ _, Nat.le_refl _, ?_⟩
      rcases HCA.out with ⟨h1, h2, h3⟩ | ⟨h1, h2, h3⟩
      · subst h2
        exact Or.inl ⟨h1, by rw [pathGetT, if_pos ⟨h3, hpo⟩]; rfl, rfl⟩
      · exact Or.inr ⟨h1, h2, h3⟩
    clear hx hcase HC k0 k1 hB2 hB3 HX HCA hg2 hb3 hw2 hlt2
    go_wp2_with fail
    go_loopw [7, 8, 26] (fun sv okv i wr => ∃ (j : Nat) (okb : Bool) (x : Tr (d + 2)) (q0 q1 : Int) (q2 : ByteArray) (q3 : Option Addr) (q4 q5 : Nat) (q6 : Option Addr) (q7 q8 : Nat) (xs : List (Tr (d + 2) × Stp)) (vs : List Value), j ≤ ps.length ∧ i = .int .i64 j ∧ okv = .bool okb ∧ Hid (Along w t ps wr j sv okb x q0 q1 q2 q3 q4 q5 q6 q7 q8 xs vs)) (fun _ _ i _ => ps.length - (intOf i).toNat)
    case atStart => exact ⟨0, okb, x, q0, q1, q2, q3, q4, q5, q6, q7, q8, [], [], Nat.zero_le _, rfl, rfl, H0.out _ rfl⟩
    case round =>
      clear H0 x0 x1 x2 x3 x4 xf
      obtain ⟨j, okb, x, q0, q1, q2, q3, q4, q5, q6, q7, q8, xs, vs, hj, rfl, rfl, hal⟩ := hrel
      by_cases hjl : j < ps.length
      · obtain ⟨b, o, p, rfl, hb, hp, hfit, e0, e1, e2⟩ := (hv'.same (hS'.same hal.out.below)).cell hjl
        have HP := hide hp
        have HS' := hide hv'
        clear hp hv'
        cases okb with
        | false =>
          have hal2 := hide (hal.out.keep (below_alloc1 wr (.cells #[.bool p.map, .string p.key, .int .i64 p.place] 40)))
          have HE := hide hal2.out.endD
          obtain ⟨y0, y1, y2, y3, y4⟩ := hal2.out.box.cell
          obtain ⟨z0, z1, z2, z3, z4⟩ := hal2.out.res.cell
          have zf := hal2.out.res.frozen
          have hT : Hid (x = zeroT (d + 1) ∧ pathGetT d t ps = (zeroT (d + 1), false)) := by
            rcases hal.out.told with ⟨h1, _⟩ | ⟨_, h2, h3⟩
            · cases h1
            · exact ⟨h2, h3⟩
          have HK : Hid (∀ W' : World, ButB (w.heap.size + 1) (wr.alloc (.cells #[.bool p.map, .string p.key, .int .i64 p.place] 40)) W' → W'.cell? ⟨w.heap.size, 0, none⟩ = some (.int .i64 q0) ∧ W'.cell? ⟨w.heap.size, 1, none⟩ = some (.int .i64 q1) ∧ W'.cell? ⟨w.heap.size, 2, none⟩ = some (.string q2) ∧ W'.cell? ⟨w.heap.size, 3, none⟩ = some (.slice q3 q4 q5) ∧ W'.cell? ⟨w.heap.size, 4, none⟩ = some (.slice q6 q7 q8)) := fun W' h => (butb_blk h (by omega) hal2.out.box).cell
          clear hal hal2 y0 y1 y2 y3 y4
          go_wp2_with fail
          go_region_held (fun w' => w'.cell? ⟨w.heap.size, 0, none⟩ = some (.int .i64 q0) ∧ w'.cell? ⟨w.heap.size, 1, none⟩ = some (.int .i64 q1) ∧ w'.cell? ⟨w.heap.size, 2, none⟩ = some (.string q2) ∧ w'.cell? ⟨w.heap.size, 3, none⟩ = some (.slice q3 q4 q5) ∧ w'.cell? ⟨w.heap.size, 4, none⟩ = some (.slice q6 q7 q8)) ((refine HK.out _ ?_; repeat (first | with_reducible exact butb_refl | with_reducible refine butb_cell ?_ | with_reducible refine butb_drew ?_))) (fail)
          all_goals
            go_wp2_with fail
            rw [hT.out.2]
            refine bodyPost_ret (v := .tuple #[u7, .agg #[.int .i64 q0, .int .i64 q1, .string q2, .slice q3 q4 q5, .slice q6 q7 q8], .bool false]) (by simp [results, Tryz.results43, go_sem, z0, z1, z2, z3, z4]) rfl ⟨_, _, xs, vs, rfl, by rw [← hT.out.1]; exact (HE.out _ rfl).1, (HE.out _ rfl).2.1, (HE.out _ rfl).2.2, fun h => by cases h⟩
        | true =>
          obtain ⟨y0, y1, y2, y3, y4⟩ := hal.out.box.cell
          have hNN := hal.out.box.lt
          have hA1 := below_alloc1 wr (.cells #[.bool p.map, .string p.key, .int .i64 p.place] 40)
          have hB2 := below_trans hA1 (below_alloc1 (wr.alloc (.cells #[.bool p.map, .string p.key, .int .i64 p.place] 40)) (.cells #[.int .i64 q0, .int .i64 q1, .string q2, .slice q3 q4 q5, .slice q6 q7 q8, .bool p.map, .string p.key, .int .i64 p.place] 76))
          have hB3 := below_trans hB2 (below_alloc1 ((wr.alloc (.cells #[.bool p.map, .string p.key, .int .i64 p.place] 40)).alloc (.cells #[.int .i64 q0, .int .i64 q1, .string q2, .slice q3 q4 q5, .slice q6 q7 q8, .bool p.map, .string p.key, .int .i64 p.place] 76)) (.cells #[.int .i64 q0, .int .i64 q1, .string q2, .slice q3 q4 q5, .slice q6 q7 q8, .bool p.map, .string p.key, .int .i64 p.place] 76))
          have hox := hide ((((hal.out.keep hB3).way).own))
          have hcell : ∀ j u, [.int .i64 q0, .int .i64 q1, .string q2, .slice q3 q4 q5, .slice q6 q7 q8, .bool p.map, .string p.key, .int .i64 p.place][j]? = some u → (((wr.alloc (.cells #[.bool p.map, .string p.key, .int .i64 p.place] 40)).alloc (.cells #[.int .i64 q0, .int .i64 q1, .string q2, .slice q3 q4 q5, .slice q6 q7 q8, .bool p.map, .string p.key, .int .i64 p.place] 76)).alloc (.cells #[.int .i64 q0, .int .i64 q1, .string q2, .slice q3 q4 q5, .slice q6 q7 q8, .bool p.map, .string p.key, .int .i64 p.place] 76)).cell? ((⟨wr.heap.size + 1 + 1, 0, none⟩ : Addr).add j) = some u := by
            have h := cell_eight_new ((wr.alloc (.cells #[.bool p.map, .string p.key, .int .i64 p.place] 40)).alloc (.cells #[.int .i64 q0, .int .i64 q1, .string q2, .slice q3 q4 q5, .slice q6 q7 q8, .bool p.map, .string p.key, .int .i64 p.place] 76)) (.int .i64 q0) (.int .i64 q1) (.string q2) (.slice q3 q4 q5) (.slice q6 q7 q8) (.bool p.map) (.string p.key) (.int .i64 p.place) 76
            rw [size2'] at h
            exact h
          have HCELL := hide hcell
          have hlens := hal.out.lens
          have h6 := pathOk_len hpo
          have hszw := hal.out.below.size
          have hres := hal.out.res.lt
          obtain ⟨i0, hi, hz0, hz1, hz2⟩ := info_parts Tryz.infoWay
          have HB3 := hide hB3
          clear hA1 hB2 hB3 hcell
          go_wp2_with (at_builtin; refine wpList_append_own_at _ rfl _ _ 65 rfl (w.heap.size + 2) 76 i0 zeroWay 8 112 Tryz.underlying65 hi hz0 hz1 hz2 rfl (by decide) _ _ _ rfl hox.out ⟨wr.heap.size + 1 + 1, 0, none⟩ 1 1 [.int .i64 q0, .int .i64 q1, .string q2, .slice q3 q4 q5, .slice q6 q7 q8, .bool p.map, .string p.key, .int .i64 p.place] rfl rfl HCELL.out ?c2 ?c3 ?c4 ?c5 ?_)
          case c2 => intro y hy; simp at hy; rcases hy with rfl | rfl | rfl | rfl | rfl | rfl | rfl | rfl <;> rfl
          case c3 => unfold maxLen; omega
          case c4 => omega
          case c5 => simp; omega
          · intro sv' w2 o1 o2 _ o3
            have o3' : sv'.ownBlock = u7.ownBlock ∨ sv'.ownBlock = some (((wr.alloc (.cells #[.bool p.map, .string p.key, .int .i64 p.place] 40)).alloc (.cells #[.int .i64 q0, .int .i64 q1, .string q2, .slice q3 q4 q5, .slice q6 q7 q8, .bool p.map, .string p.key, .int .i64 p.place] 76)).alloc (.cells #[.int .i64 q0, .int .i64 q1, .string q2, .slice q3 q4 q5, .slice q6 q7 q8, .bool p.map, .string p.key, .int .i64 p.place] 76)).heap.size := by
              rw [size3']
              exact o3
            obtain ⟨g1, g2, g3⟩ := hal.out.grown HB3.out o2
            have hfb : w2.heap[wr.heap.size + 1]? = some (.cells #[.int .i64 q0, .int .i64 q1, .string q2, .slice q3 q4 q5, .slice q6 q7 q8, .bool p.map, .string p.key, .int .i64 p.place] 76 (0, 0)) := by
              rw [g3 _ (by omega) (by rw [size3']; omega)]
              have h := heap_alloc_new (wr.alloc (.cells #[.bool p.map, .string p.key, .int .i64 p.place] 40)) (.cells #[.int .i64 q0, .int .i64 q1, .string q2, .slice q3 q4 q5, .slice q6 q7 q8, .bool p.map, .string p.key, .int .i64 p.place] 76 (0, 0))
              rw [World.size_alloc] at h
              exact (Below.heap_alloc _ _ _ (by rw [size2']; omega)).trans h
            obtain ⟨f0, f1, f2, f3, f4, f5, f6, f7⟩ := cells8 hfb
            obtain ⟨hl1, hl2⟩ := live_grow (N := w.heap.size + 2) HB3.out o2 o3'
            have hcall := hide (next_any d _ x p q0 q1 q2 q3 q4 q5 q6 q7 q8 w2 (ValAt.moved hl1 hl2 _ _ _ (ValOwn.at _ _ _ _ hal.out.val)) (fun b hb => hb.2.1) hfit (hg.below g2))
            have hbx := hide (hal.out.box.of_block (g1 _ (by omega)))
            have HST : Hid (∀ (u0 u1 : Int) (u2 : ByteArray) (u3 : Option Addr) (u4 u5 : Nat) (u6 : Option Addr) (u7' u8 : Nat) (w3 : World), ValOwn w3 (d + 2) (Fresh w2 w3) (stepT d x p).1 (.agg #[.int .i64 u0, .int .i64 u1, .string u2, .slice u3 u4 u5, .slice u6 u7' u8]) → Below w2.heap.size w2 w3 → ∀ wF, wF = set5 w3 w.heap.size 0 (.int .i64 u0) (.int .i64 u1) (.string u2) (.slice u3 u4 u5) (.slice u6 u7' u8) →
              Along w t ps wF (j + 1) sv' (stepT d x p).2 (stepT d x p).1 u0 u1 u2 u3 u4 u5 u6 u7' u8 (xs ++ [(x, p)]) (vs ++ [.int .i64 q0, .int .i64 q1, .string q2, .slice q3 q4 q5, .slice q6 q7 q8, .bool p.map, .string p.key, .int .i64 p.place])) :=
              fun u0 u1 u2 u3 u4 u5 u6 u7' u8 w3 hu hb3 => hal.out.step HP.out hfit HB3.out o1 o2 o3' hu hb3
            clear o1 o2 o3 o3' g1 g2 g3 hfb hl1 hl2 hal HB3 HCELL hox y0 y1 y2 y3 y4 e0 e1 e2 hNN
            go_wp2_with fail
            refine Calls.mono hcall.out ?_
            rintro e w3 ⟨u, rfl, hu, hb3⟩
            obtain ⟨a0, a1, a2, a3, a4, a5, a6, a7, a8, rfl⟩ := (ValOwn.at _ _ _ _ hu).shape
            have HR := hide (HST.out _ _ _ _ _ _ _ _ _ w3 hu hb3)
            have hbx3 := hbx.out.below hb3
            obtain ⟨y0, y1, y2, y3, y4⟩ := hbx3.cell
            have yf := hbx3.frozen
            clear hu hb3 HST hcall hbx hbx3 f0 f1 f2 f3 f4 f5 f6 f7
            go_wp2_with fail
            go_roundw
            case rel => exact ⟨j + 1, _, _, a0, a1, a2, a3, a4, a5, a6, a7, a8, _, _, by omega, by go_num, rfl, HR.out _ rfl⟩
            case measure => simp [intOf]; omega
      · obtain rfl : j = ps.length := by omega
        have HE := hide hal.out.endD
        obtain ⟨y0, y1, y2, y3, y4⟩ := hal.out.box.cell
        obtain ⟨z0, z1, z2, z3, z4⟩ := hal.out.res.cell
        have zf := hal.out.res.frozen
        have hT : Hid (pathGetT d t ps = (x, okb) ∧ (okb = true → xs = passT d t ps)) := by
          rcases hal.out.told with ⟨h1, h2, h3⟩ | ⟨h1, h2, h3⟩
          · refine ⟨by rw [h2, h1, alongT_end], fun _ => ?_⟩
            rw [List.drop_eq_nil_of_le (Nat.le_refl _), passT, List.append_nil] at h3
            exact h3
          · exact ⟨by rw [h3, h1, h2], fun h => by rw [h1] at h; cases h⟩
        have HK : Hid (∀ W' : World, ButB (w.heap.size + 1) wr W' → W'.cell? ⟨w.heap.size, 0, none⟩ = some (.int .i64 q0) ∧ W'.cell? ⟨w.heap.size, 1, none⟩ = some (.int .i64 q1) ∧ W'.cell? ⟨w.heap.size, 2, none⟩ = some (.string q2) ∧ W'.cell? ⟨w.heap.size, 3, none⟩ = some (.slice q3 q4 q5) ∧ W'.cell? ⟨w.heap.size, 4, none⟩ = some (.slice q6 q7 q8)) := fun W' h => (butb_blk h (by omega) hal.out.box).cell
        clear hal y0 y1 y2 y3 y4
        go_wp2_with fail
        go_region_held (fun w' => w'.cell? ⟨w.heap.size, 0, none⟩ = some (.int .i64 q0) ∧ w'.cell? ⟨w.heap.size, 1, none⟩ = some (.int .i64 q1) ∧ w'.cell? ⟨w.heap.size, 2, none⟩ = some (.string q2) ∧ w'.cell? ⟨w.heap.size, 3, none⟩ = some (.slice q3 q4 q5) ∧ w'.cell? ⟨w.heap.size, 4, none⟩ = some (.slice q6 q7 q8)) ((refine HK.out _ ?_; repeat (first | with_reducible exact butb_refl | with_reducible refine butb_cell ?_ | with_reducible refine butb_drew ?_))) (fail)
        all_goals
          go_wp2_with fail
          rw [hT.out.1]
          refine bodyPost_ret (v := .tuple #[u7, .agg #[.int .i64 q0, .int .i64 q1, .string q2, .slice q3 q4 q5, .slice q6 q7 q8], .bool okb]) (by simp [results, Tryz.results43, go_sem, z0, z1, z2, z3, z4]) rfl ⟨_, _, xs, vs, rfl, (HE.out _ rfl).1, (HE.out _ rfl).2.1, (HE.out _ rfl).2.2, hT.out.2⟩
end Go.Proofs.YtmibjmipndffmaaGreatDoor
