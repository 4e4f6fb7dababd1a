/- Texts of the proof, put together by program: WNoth, WGetK, WPutP, WAt, WTopR, WSetP, PPart. -/
import Derived.Test.YtoangpfmjohhmaaGreatDoorP7
import Derived.Test.YtoangpfmjohhmaaGreatDoorP5
import Derived.Test.YtoangpfmjohhmaaGreatDoorP11
import Derived.Test.YtoangpfmjohhmaaGreatDoorP6
/- isNothing. -/
namespace Go.Proofs.YtoangpfmjohhmaaGreatDoor
open Go.RowKit Go.Deep

set_option maxRecDepth 100000 in
set_option maxHeartbeats 1000000 in
theorem isNothing_bare (k : Int) (w : World) : Calls Tryz.prog 77 #[.iface 163 (.agg #[.int .i64 k])] w fun e w' => e = .returned (.bool (k == 0)) ∧ Below w.heap.size w w' := by
  have hA := hide (below_alloc1 w (.cells #[.int .i64 k] 163))
  have hs := Tryz.asB_B
  go_enter Tryz.func77, Tryz.ntmps77
  go_wp2_with fail
  go_ret
  exact ⟨rfl, hA.out⟩
set_option maxRecDepth 100000 in
theorem isNothing_num (v : Value) (w : World) : Calls Tryz.prog 77 #[.iface 113 v] w fun e w' => e = .returned (.bool false) ∧ Below w.heap.size w w' := by
  have hs := Tryz.asB_N
  go_enter Tryz.func77, Tryz.ntmps77
  go_wp2_with fail
  go_ret
  exact ⟨rfl, below_alloc1 _ _⟩
set_option maxRecDepth 100000 in
theorem isNothing_str (v : Value) (w : World) : Calls Tryz.prog 77 #[.iface 116 v] w fun e w' => e = .returned (.bool false) ∧ Below w.heap.size w w' := by
  have hs := Tryz.asB_S
  go_enter Tryz.func77, Tryz.ntmps77
  go_wp2_with fail
  go_ret
  exact ⟨rfl, below_alloc1 _ _⟩
set_option maxRecDepth 100000 in
theorem isNothing_row (v : Value) (w : World) : Calls Tryz.prog 77 #[.iface 120 v] w fun e w' => e = .returned (.bool false) ∧ Below w.heap.size w w' := by
  have hs := Tryz.asB_R
  go_enter Tryz.func77, Tryz.ntmps77
  go_wp2_with fail
  go_ret
  exact ⟨rfl, below_alloc1 _ _⟩
set_option maxRecDepth 100000 in
theorem isNothing_map (v : Value) (w : World) : Calls Tryz.prog 77 #[.iface 125 v] w fun e w' => e = .returned (.bool false) ∧ Below w.heap.size w w' := by
  have hs := Tryz.asB_M
  go_enter Tryz.func77, Tryz.ntmps77
  go_wp2_with fail
  go_ret
  exact ⟨rfl, below_alloc1 _ _⟩
end Go.Proofs.YtoangpfmjohhmaaGreatDoor

/- PartGet of the program. -/
namespace Go.Proofs.YtoangpfmjohhmaaGreatDoor
open Go.RowKit Go.Deep

/-- The keys and parts of a tree of which a key may be asked. -/
def mapL (d : Nat) (t : Tr (d + 1)) (s : ByteArray) : Option (List ByteArray × List (Tr d)) := if okT (d + 1) t = true ∧ strOk s = true then (if Nd.kind t = 0 then some ([], []) else if Nd.kind t = 6 then some (Nd.keys t, Nd.list t) else none) else none
theorem mapL_ok {d : Nat} {t : Tr (d + 1)} {s : ByteArray} (h : okT (d + 1) t = true) (hs : strOk s = true) : mapL d t s = (if Nd.kind t = 0 then some ([], []) else if Nd.kind t = 6 then some (Nd.keys t, Nd.list t) else none) := if_pos ⟨h, hs⟩
theorem mapL_no {d : Nat} {t : Tr (d + 1)} {s : ByteArray} (h : okT (d + 1) t = false ∨ strOk s = false) : mapL d t s = none := if_neg (fun e => by rcases h with h | h <;> simp [h] at e)

/-- A map of the program's own trees, in blocks of S. -/
structure MapAt {d : Nat} (S : Nat → Prop) (w : World) (r : Nat) (es : Array MapEntry) (ps : List (ByteArray × Tr d)) (keys : List ByteArray) (xs : List (Tr d)) : Prop where
  len : xs.length ≤ 1000
  good : keysB keys = true
  same : keys.length = xs.length
  perm : ps.Perm (keys.zip xs)
  own : S r
  obj : w.heap[r]? = some (.map es ps.length)
  ent : MapG (TreeG S w d) es ps

/-- What partsByKeys is asked to give. -/
def MapQ (d : Nat) (t : Tr (d + 1)) (s : ByteArray) (w : World) (e : Ending) (w' : World) : Prop :=
  Below w.heap.size w w' ∧ ((∃ keys xs r es ps, mapL d t s = some (keys, xs) ∧ e = .returned (.tuple #[.map (some r), .nilIface]) ∧ MapAt (Fresh w w') w' r es ps keys xs) ∨ (mapL d t s = none ∧ ∃ why, e = .returned (.tuple #[.map none, faultV why])))

set_option maxRecDepth 100000 in
set_option maxHeartbeats 4000000 in
theorem partsByKeys_any (d : Nat) (S : Nat → Prop) (t : Tr (d + 1)) (v : Value) (s : ByteArray) (hs : s.size < 281474976710656) (w : World) (hv : ValAt S w (d + 1) t v) (hS : Within S w) :
    Calls Tryz.prog 120 #[v, .string s] w (MapQ d t s w) := by
  obtain ⟨k, n, z, ak, lk, ck, al, ll, cl, rfl⟩ := hv.shape
  have hA := below_alloc1 w (.cells #[.int .i64 k, .int .i64 n, .string z, .slice ak lk ck, .slice al ll cl] 26)
  have hAs := hA.size
  go_enter Tryz.func120, Tryz.ntmps120
  go_wp2_with fail
  refine (given_any (d + 1) S t _ _ (hv.same (hS.same hA)) (hS.later hA.size)).mono ?_
  rintro e w1 ⟨hb1, hq⟩
  have hB := below_trans hA hb1
  clear hb1 hA hv
  rcases hq with ⟨hok, u, rfl, hu⟩ | ⟨hok, why, rfl⟩
  · obtain ⟨T, u', rfl⟩ := hu.iface
    go_wp2_with fail
    refine (textOk_any s w1 hs).mono ?_
    rintro e w2 ⟨rfl, hb2⟩
    have hB2 := below_trans hB hb2
    have hsz := hb2.size
    have hu2 := hu.moved ((Fresh.within (w.alloc (.cells #[.int .i64 k, .int .i64 n, .string z, .slice ak lk ck, .slice al ll cl] 26)) w1).same hb2) (S' := Fresh w w2) (fun b hb => ⟨by have := hb.1; omega, by have := hb.2; omega⟩)
    clear hu hb2 hB
    cases hstr : strOk s with
    | false =>
      have HB := hide hB2
      clear hu2 hB2
      go_wp2_with fail
      go_ret2
      exact ⟨HB.out, Or.inr ⟨mapL_no (Or.inr hstr), _, rfl⟩⟩
    | true =>
      rcases hu2 with ⟨k', h1, rfl, hT⟩ | ⟨n', h1, rfl, hT⟩ | ⟨s', h1, rfl, hT⟩ | ⟨xs, sv, h1, rfl, hT, hr⟩ | ⟨keys, xs, ps, r, es, h1, h2, h3, h4, rfl, hT, hr, hm, he⟩
      · cases hT
        have a3 := Tryz.asM_B
        go_wp2_with fail
        refine (isNothing_bare k' w2).mono ?_
        rintro e w3 ⟨rfl, hb3⟩
        have hB3 := below_trans hB2 hb3
        clear hb3 hB2
        by_cases hk0 : k' = 0
        · have hkb : (k' == 0) = true := by simpa using hk0
          have hq : Hid (mapL d (Nd.mk k' 0 ByteArray.empty [] [] : Nd (Tr d)) s = some ([], [])) := by
            refine (mapL_ok hok hstr).trans ?_
            show (if k' = 0 then _ else _) = _
            rw [if_pos hk0]
          have hA4 := below_alloc1 w3 (.map #[] 0)
          have HB := hide (below_trans hB3 hA4)
          have HM : Hid (MapAt (d := d) (Fresh w (w3.alloc (.map #[] 0))) (w3.alloc (.map #[] 0)) w3.heap.size #[] [] [] []) := ⟨by show (0 : Nat) ≤ 1000; omega, rfl, rfl, List.Perm.nil, ⟨hB3.size, by simp⟩, heap_alloc_new _ _, rfl, fun i k x h => by simp at h⟩
          have hmk := fun w => run_makeMap (P := Tryz.prog) 123 w
          clear hk0 hB3 hA4
          go_wp2_with fail
          go_ret2
          exact ⟨HB.out, Or.inl ⟨[], [], _, _, _, hq.out, rfl, HM.out⟩⟩
        · have hkb : (k' == 0) = false := by simpa using hk0
          have hq : Hid (mapL d (Nd.mk k' 0 ByteArray.empty [] [] : Nd (Tr d)) s = none) := by
            refine (mapL_ok hok hstr).trans ?_
            show (if k' = 0 then _ else if k' = 6 then _ else _) = _
            rw [if_neg hk0, if_neg (by omega)]
          have HB := hide hB3
          clear hk0 hB3
          go_wp2_with fail
          go_ret2
          exact ⟨below_trans HB.out (below_alloc1 _ _), Or.inr ⟨hq.out, _, rfl⟩⟩
      · cases hT
        have a3 := Tryz.asM_N
        have hq : Hid (mapL d (Nd.mk 3 n' ByteArray.empty [] [] : Nd (Tr d)) s = none) := by
          exact (mapL_ok hok hstr).trans rfl
        go_wp2_with fail
        refine (isNothing_num _ w2).mono ?_
        rintro e w3 ⟨rfl, hb3⟩
        have HB := hide (below_trans hB2 hb3)
        clear hb3 hB2
        go_wp2_with fail
        go_ret2
        exact ⟨below_trans HB.out (below_alloc1 _ _), Or.inr ⟨hq.out, _, rfl⟩⟩
      · cases hT
        have a3 := Tryz.asM_S
        have hq : Hid (mapL d (Nd.mk 4 0 s' [] [] : Nd (Tr d)) s = none) := by
          exact (mapL_ok hok hstr).trans rfl
        go_wp2_with fail
        refine (isNothing_str _ w2).mono ?_
        rintro e w3 ⟨rfl, hb3⟩
        have HB := hide (below_trans hB2 hb3)
        clear hb3 hB2
        go_wp2_with fail
        go_ret2
        exact ⟨below_trans HB.out (below_alloc1 _ _), Or.inr ⟨hq.out, _, rfl⟩⟩
      · cases hT
        have a3 := Tryz.asM_R
        have hq : Hid (mapL d (Nd.mk 5 0 ByteArray.empty [] xs : Nd (Tr d)) s = none) := by
          exact (mapL_ok hok hstr).trans rfl
        go_wp2_with fail
        refine (isNothing_row _ w2).mono ?_
        rintro e w3 ⟨rfl, hb3⟩
        have HB := hide (below_trans hB2 hb3)
        clear hb3 hB2
        go_wp2_with fail
        go_ret2
        exact ⟨below_trans HB.out (below_alloc1 _ _), Or.inr ⟨hq.out, _, rfl⟩⟩
      · cases hT
        have a3 := Tryz.asM_M
        have hq : Hid (mapL d (Nd.mk 6 0 ByteArray.empty keys xs : Nd (Tr d)) s = some (keys, xs)) := by
          exact (mapL_ok hok hstr).trans rfl
        go_wp2_with fail
        refine (isNothing_map _ w2).mono ?_
        rintro e w3 ⟨rfl, hb3⟩
        have hA3 := below_alloc1 w3 (.cells #[.map (some r)] 125)
        have hb4 := below_trans hb3 hA3
        have HB := hide (below_trans hB2 hb4)
        have hmv := (Fresh.within w w2).same hb4
        have hsz4 := hb4.size
        have hfr : ∀ b, Fresh w w2 b → Fresh w (w3.alloc (.cells #[.map (some r)] 125)) b := fun b hb => ⟨hb.1, by have := hb.2; omega⟩
        have HM : Hid (MapAt (Fresh w (w3.alloc (.cells #[.map (some r)] 125))) (w3.alloc (.cells #[.map (some r)] 125)) r es ps keys xs) := ⟨h1, h2, h3, h4, hfr r hr, (hmv r hr).trans hm, he.moved (fun x u hx => TreeG.moved hmv hfr d x u hx)⟩
        clear hb3 hB2 hb4 hA3 hmv hfr he hm hr h4 h3 h2
        go_wp2_with fail
        go_ret2
        exact ⟨HB.out, Or.inl ⟨keys, xs, r, es, ps, hq.out, rfl, HM.out⟩⟩
  · unfold faultV
    go_wp2_with fail
    go_ret2
    exact ⟨hB, Or.inr ⟨mapL_no (Or.inl hok), why, rfl⟩⟩

theorem partGet_some {d : Nat} {t : Tr (d + 2)} {s : ByteArray} {keys : List ByteArray} {xs : List (Tr (d + 1))} (h : mapL (d + 1) t s = some (keys, xs)) : partGetT d t s = ((getL keys xs s).getD (zeroT d), true) ∧ ∀ x ∈ xs, okT (d + 1) x = true := by
  unfold mapL at h
  unfold partGetT
  split at h
  · rename_i hok
    rw [if_pos hok]
    split at h
    · rename_i h0
      rw [if_pos h0]
      cases h
      exact ⟨rfl, fun x hx => by cases hx⟩
    · rename_i h0
      rw [if_neg h0]
      split at h
      · rename_i h5
        rw [if_pos h5]
        cases h
        exact ⟨rfl, fun x hx => okT_part hok.1 hx⟩
      · cases h
  · cases h
theorem partGet_none {d : Nat} {t : Tr (d + 2)} {s : ByteArray} (h : mapL (d + 1) t s = none) : partGetT d t s = (zeroT d, false) := by
  unfold mapL at h
  unfold partGetT
  split at h
  · rename_i hok
    rw [if_pos hok]
    split at h
    · cases h
    · rename_i h0
      rw [if_neg h0]
      split at h
      · cases h
      · rename_i h5
        rw [if_neg h5]
  · rename_i hok
    rw [if_neg hok]
end Go.Proofs.YtoangpfmjohhmaaGreatDoor

/- A tree put at a key of a map. -/
namespace Go.Proofs.YtoangpfmjohhmaaGreatDoor
open Go.RowKit Go.Deep

/-- What PartPut tells. -/
def partPutT (d : Nat) (t : Tr (d + 2)) (s : ByteArray) (x : Tr (d + 1)) : Tr (d + 2) × Bool :=
  match mapL (d + 1) t s with
  | none => (zeroT (d + 1), false)
  | some (keys, xs) =>
    if okT (d + 1) x = true then (toldT (d + 1) (mapT (d + 1) (putL keys xs s x)), okT (d + 2) (mapT (d + 1) (putL keys xs s x)))
    else (zeroT (d + 1), false)
theorem okT_partPut (d : Nat) (t : Tr (d + 2)) (s : ByteArray) (x : Tr (d + 1)) : okT (d + 2) (partPutT d t s x).1 = true := by
  unfold partPutT
  split
  · exact okT_zero _
  · split
    · exact okT_told _ _
    · exact okT_zero _
end Go.Proofs.YtoangpfmjohhmaaGreatDoor

/- PartAt of the program. -/
namespace Go.Proofs.YtoangpfmjohhmaaGreatDoor
open Go.RowKit Go.Deep

theorem fromStart_any (i : Int) (n : Nat) (hi : I64 i) (hn : n ≤ 60) (w : World) : Calls Tryz.prog 123 #[.int .i64 i, .int .i64 n] w fun e w' => e = .returned (.int .i64 (if i < 0 then i + n else i)) ∧ w' = w := by
  obtain ⟨hi1, hi2⟩ := hi
  by_cases h3 : i < 0
  · have hm : Hid ((if i < 0 then i + (n : Int) else i) = i + n) := if_pos h3
    go_enter Tryz.func123, Tryz.ntmps123
    go_wp2_with fail
    go_ret
    exact ⟨rfl, rfl⟩
  · have hm : Hid ((if i < 0 then i + (n : Int) else i) = i) := if_neg h3
    go_enter Tryz.func123, Tryz.ntmps123
    go_wp2_with fail
    go_ret
    exact ⟨rfl, rfl⟩

/-- The list of a tree of which a place may be asked. -/
def rowL (d : Nat) (t : Tr (d + 1)) : Option (List (Tr d)) := if okT (d + 1) t = true then (if Nd.kind t = 0 then some [] else if Nd.kind t = 5 then some (Nd.list t) else none) else none

theorem rowL_ok {d : Nat} {t : Tr (d + 1)} (h : okT (d + 1) t = true) : rowL d t = (if Nd.kind t = 0 then some [] else if Nd.kind t = 5 then some (Nd.list t) else none) := if_pos h
/-- What partsInRow is asked to give. -/
def RowQ (d : Nat) (t : Tr (d + 1)) (w : World) (e : Ending) (w' : World) : Prop :=
  Below w.heap.size w w' ∧ ((∃ xs a cap, rowL d t = some xs ∧ e = .returned (.tuple #[.slice a xs.length cap, .nilIface]) ∧ Row1At (Fresh w w') w' (TreeG (Fresh w w') w' d) (.slice a xs.length cap) xs) ∨ (rowL d t = none ∧ ∃ why, e = .returned (.tuple #[.slice none 0 0, faultV why])))

set_option maxRecDepth 100000 in
set_option maxHeartbeats 4000000 in
theorem partsInRow_any (d : Nat) (S : Nat → Prop) (t : Tr (d + 1)) (v : Value) (w : World) (hv : ValAt S w (d + 1) t v) (hS : Within S w) :
    Calls Tryz.prog 121 #[v] w (RowQ d t w) := by
  obtain ⟨k, n, s, ak, lk, ck, al, ll, cl, rfl⟩ := hv.shape
  have hA := below_alloc1 w (.cells #[.int .i64 k, .int .i64 n, .string s, .slice ak lk ck, .slice al ll cl] 26)
  have hAs := hA.size
  go_enter Tryz.func121, Tryz.ntmps121
  go_wp2_with fail
  refine (given_any (d + 1) S t _ _ (hv.same (hS.same hA)) (hS.later hA.size)).mono ?_
  rintro e w1 ⟨hb1, hq⟩
  have hB := below_trans hA hb1
  clear hb1 hA hv
  rcases hq with ⟨hok, u, rfl, hu⟩ | ⟨hok, why, rfl⟩
  · rcases hu with ⟨k', h1, rfl, rfl⟩ | ⟨n', h1, rfl, rfl⟩ | ⟨s', h1, rfl, rfl⟩ | ⟨xs, sv, h1, rfl, rfl, hr⟩ | ⟨keys, xs, ps, r, es, h1, h2, h3, h4, rfl, rfl, hr, hm, he⟩
    · have a3 := Tryz.asR_B
      go_wp2_with fail
      refine (isNothing_bare k' w1).mono ?_
      rintro e w2 ⟨rfl, hb2⟩
      have HB2 := hide (below_trans hB hb2)
      clear hb2 hB
      by_cases hk0 : k' = 0
      · have hkb : (k' == 0) = true := by simpa using hk0
        have hq : Hid (rowL d (Nd.mk k' 0 ByteArray.empty [] [] : Nd (Tr d)) = some []) := by
          refine (rowL_ok hok).trans ?_
          show (if k' = 0 then _ else _) = _
          rw [if_pos hk0]
        clear hk0
        go_wp2_with fail
        go_ret2
        exact ⟨HB2.out, Or.inl ⟨[], none, 0, hq.out, rfl, ⟨by show (0 : Nat) < 17592186044416; omega, none, 0, rfl, Or.inl rfl⟩⟩⟩
      · have hkb : (k' == 0) = false := by simpa using hk0
        have hq : Hid (rowL d (Nd.mk k' 0 ByteArray.empty [] [] : Nd (Tr d)) = none) := by
          refine (rowL_ok hok).trans ?_
          show (if k' = 0 then _ else if k' = 5 then _ else _) = _
          rw [if_neg hk0, if_neg (by omega)]
        clear hk0
        go_wp2_with fail
        go_ret2
        exact ⟨below_trans HB2.out (below_alloc1 _ _), Or.inr ⟨hq.out, _, rfl⟩⟩
    · have a3 := Tryz.asR_N
      have hq : Hid (rowL d (Nd.mk 3 n' ByteArray.empty [] [] : Nd (Tr d)) = none) := by
        exact (rowL_ok hok).trans rfl
      go_wp2_with fail
      refine (isNothing_num _ w1).mono ?_
      rintro e w2 ⟨rfl, hb2⟩
      have HB2 := hide (below_trans hB hb2)
      clear hb2 hB
      go_wp2_with fail
      go_ret2
      exact ⟨below_trans HB2.out (below_alloc1 _ _), Or.inr ⟨hq.out, _, rfl⟩⟩
    · have a3 := Tryz.asR_S
      have hq : Hid (rowL d (Nd.mk 4 0 s' [] [] : Nd (Tr d)) = none) := by
        exact (rowL_ok hok).trans rfl
      go_wp2_with fail
      refine (isNothing_str _ w1).mono ?_
      rintro e w2 ⟨rfl, hb2⟩
      have HB2 := hide (below_trans hB hb2)
      clear hb2 hB
      go_wp2_with fail
      go_ret2
      exact ⟨below_trans HB2.out (below_alloc1 _ _), Or.inr ⟨hq.out, _, rfl⟩⟩
    · have a3 := Tryz.asR_R
      obtain ⟨sa, sc, rfl, _⟩ := hr.open'
      have hq : Hid (rowL d (Nd.mk 5 0 ByteArray.empty [] xs : Nd (Tr d)) = some xs) := by
        exact (rowL_ok hok).trans rfl
      go_wp2_with fail
      refine (isNothing_row _ w1).mono ?_
      rintro e w2 ⟨rfl, hb2⟩
      have hA2 := below_alloc1 w2 (.cells #[.slice sa xs.length sc] 120)
      have hb3 := below_trans hb2 hA2
      have HB2 := hide (below_trans hB hb3)
      have hmv := (Fresh.within (w.alloc (.cells #[.int .i64 k, .int .i64 n, .string s, .slice ak lk ck, .slice al ll cl] 26)) w1).same hb3
      have hsz := hb3.size
      have hfr : ∀ b, Fresh (w.alloc (.cells #[.int .i64 k, .int .i64 n, .string s, .slice ak lk ck, .slice al ll cl] 26)) w1 b → Fresh w (w2.alloc (.cells #[.slice sa xs.length sc] 120)) b := fun b hb => ⟨by have := hb.1; omega, by have := hb.2; omega⟩
      have HR := hide (hr.moved hmv hfr (fun x u hx => TreeG.moved hmv hfr d x u hx))
      clear hb2 hB hb3 hA2 hmv hr hfr
      go_wp2_with fail
      go_ret2
      exact ⟨HB2.out, Or.inl ⟨xs, sa, sc, hq.out, rfl, HR.out⟩⟩
    · have a3 := Tryz.asR_M
      have hq : Hid (rowL d (Nd.mk 6 0 ByteArray.empty keys xs : Nd (Tr d)) = none) := by
        exact (rowL_ok hok).trans rfl
      clear he hm hr h4 h3 h2
      go_wp2_with fail
      refine (isNothing_map _ w1).mono ?_
      rintro e w2 ⟨rfl, hb2⟩
      have HB2 := hide (below_trans hB hb2)
      clear hb2 hB
      go_wp2_with fail
      go_ret2
      exact ⟨below_trans HB2.out (below_alloc1 _ _), Or.inr ⟨hq.out, _, rfl⟩⟩
  · unfold faultV
    go_wp2_with fail
    go_ret2
    refine ⟨hB, Or.inr ⟨?_, why, rfl⟩⟩
    rw [rowL, if_neg (by rw [hok]; simp)]

theorem partAt_some {d : Nat} {t : Tr (d + 2)} {i : Int} {xs : List (Tr (d + 1))} (h : rowL (d + 1) t = some xs) : partAtT d t i = ((placeL xs i).getD (zeroT d), true) ∧ xs.length ≤ 60 ∧ ∀ x ∈ xs, okT (d + 1) x = true := by
  unfold rowL at h
  unfold partAtT
  split at h
  · rename_i hok
    rw [if_pos hok]
    split at h
    · rename_i h0
      rw [if_pos h0]
      cases h
      refine ⟨?_, by show (0 : Nat) ≤ 60; omega, fun x hx => by cases hx⟩
      have : placeL ([] : List (Tr (d + 1))) i = none := by
        unfold placeL
        split <;> simp
      rw [this]
      rfl
    · rename_i h0
      rw [if_neg h0]
      split at h
      · rename_i h5
        rw [if_pos h5]
        cases h
        exact ⟨rfl, (okT_kinds hok).2.1, fun x hx => okT_part hok hx⟩
      · cases h
  · cases h
theorem partAt_none {d : Nat} {t : Tr (d + 2)} {i : Int} (h : rowL (d + 1) t = none) : partAtT d t i = (zeroT d, false) := by
  unfold rowL at h
  unfold partAtT
  split at h
  · rename_i hok
    rw [if_pos hok]
    split at h
    · cases h
    · rename_i h0
      rw [if_neg h0]
      split at h
      · cases h
      · rename_i h5
        rw [if_neg h5]
  · rename_i hok
    rw [if_neg hok]
theorem place_out {α : Type} {xs : List α} {i j : Int} (hj : j = if i < 0 then i + (xs.length : Int) else i) (h : j < 0 ∨ (xs.length : Int) ≤ j) : placeL xs i = none := by
  unfold placeL placeI
  rw [if_pos (c := i < -(xs.length : Int) ∨ (xs.length : Int) ≤ i) (by split at hj <;> omega), if_pos (by omega)]
theorem place_in {α : Type} {xs : List α} {i : Int} {k : Nat} (hj : (k : Int) = if i < 0 then i + (xs.length : Int) else i) (h : k < xs.length) : placeL xs i = xs[k]? := by
  unfold placeL placeI
  rw [if_neg (c := i < -(xs.length : Int) ∨ (xs.length : Int) ≤ i) (by split at hj <;> omega), ← hj, if_neg (by omega), Int.toNat_natCast]

theorem bareTree_at (d : Nat) (S : Nat → Prop) (w : World) : TreeG S w (d + 1) (zeroT d) (.iface 163 (.agg #[.int .i64 0])) := Or.inl ⟨0, by omega, rfl, rfl⟩

set_option maxRecDepth 100000 in
set_option maxHeartbeats 4000000 in
theorem implPartAt_any (d : Nat) (S : Nat → Prop) (t : Tr (d + 2)) (v : Value) (i : Int) (hi : I64 i) (w : World) (hv : ValAt S w (d + 2) t v) (hS : Within S w) (hg : ErrType w) :
    Calls Tryz.prog 119 #[v, .int .i64 i] w (TellQ d (partAtT d t i).1 (partAtT d t i).2 w) := by
  obtain ⟨k, n, s, ak, lk, ck, al, ll, cl, rfl⟩ := hv.shape
  obtain ⟨W0, hW⟩ : ∃ W0, W0 = (w.alloc (.cells #[.int .i64 k, .int .i64 n, .string s, .slice ak lk ck, .slice al ll cl] 26)).alloc (.cells #[.int .i64 0, .int .i64 0, .string { data := #[] }, .slice none 0 0, .slice none 0 0] 26) := ⟨_, rfl⟩
  have hW0 : Below w.heap.size w W0 := by rw [hW]; exact below_trans (below_alloc1 _ _) (below_alloc1 _ _)
  have k1 : Blk5 W0 (w.heap.size + 1) 26 (.int .i64 0) (.int .i64 0) (.string { data := #[] }) (.slice none 0 0) (.slice none 0 0) := by
    have := Blk5.new (w.alloc (.cells #[.int .i64 k, .int .i64 n, .string s, .slice ak lk ck, .slice al ll cl] 26)) 26 (.int .i64 0) (.int .i64 0) (.string { data := #[] }) (.slice none 0 0) (.slice none 0 0)
    rw [World.size_alloc] at this
    rw [hW]
    exact this
  have HW := hide hW
  clear hW
  go_enter Tryz.func119, Tryz.ntmps119
  go_wp2_with fail
  rw [← HW.out]
  clear HW
  refine (partsInRow_any (d + 1) S t _ W0 (hv.same (hS.same hW0)) (hS.later hW0.size)).mono ?_
  rintro e w1 ⟨hb1, hq⟩
  have hB1 := below_trans hW0 hb1
  have k2 := k1.below hb1
  have hg1 := hg.below hB1
  have hlt := k2.lt
  -- what is told, however it is
  have hfin : ∀ (w1' : World), Below w1.heap.size w1 w1' → ∀ (x : Tr (d + 1)) (ok : Bool), Hid (∀ e w2, TellQ d x ok w1' e w2 → ∃ v0 v1 v2 v3 v4 v5 v6 v7 v8, e = .returned (.tuple #[.agg #[.int .i64 v0, .int .i64 v1, .string v2, .slice v3 v4 v5, .slice v6 v7 v8], .bool ok]) ∧
      Blk5 w2 (w.heap.size + 1) 26 (.int .i64 0) (.int .i64 0) (.string { data := #[] }) (.slice none 0 0) (.slice none 0 0) ∧
      ∀ wF, wF = set5 w2 (w.heap.size + 1) 0 (.int .i64 v0) (.int .i64 v1) (.string v2) (.slice v3 v4 v5) (.slice v6 v7 v8) → ValOwn wF (d + 1) (Fresh w wF) x (.agg #[.int .i64 v0, .int .i64 v1, .string v2, .slice v3 v4 v5, .slice v6 v7 v8]) ∧ Below w.heap.size w wF) := fun w1' hb' x ok => by
    intro e w2 ⟨v, he, hv, hb2⟩
    obtain ⟨v0, v1, v2, v3, v4, v5, v6, v7, v8, rfl⟩ := (ValOwn.at _ _ _ _ hv).shape
    exact ⟨v0, v1, v2, v3, v4, v5, v6, v7, v8, he, (k2.below hb').below hb2, tell_end hv (below_trans (below_trans hB1 hb') hb2) (by omega) (Nat.lt_of_lt_of_le hlt hb'.size)⟩
  clear hv hW0 k1 k2
  rcases hq with ⟨xs, xa, xc, hrow, rfl, hxs⟩ | ⟨hrow, why, rfl⟩
  · obtain ⟨hR, hx60, hxok⟩ := partAt_some (i := i) hrow
    obtain ⟨j, hj⟩ : ∃ j : Int, j = if i < 0 then i + (xs.length : Int) else i := ⟨_, rfl⟩
    have HJ := hide hj
    have hf0 : 0 ≤ xs.length := Nat.zero_le _
    by_cases hout : j < 0 ∨ (xs.length : Int) ≤ j
    · have HR : Hid (partAtT d t i = (toldT d (zeroT d), okT (d + 1) (zeroT d))) := by
        show partAtT d t i = _
        rw [hR, place_out hj hout, okT_zero d, toldT, if_pos (okT_zero d)]
        rfl
      have hcall := hide (fun w' => told_tree d (fun _ => False) (zeroT d) (.iface 163 (.agg #[.int .i64 0])) w' (bareTree_at d _ _) (fun _ h => h.elim))
      clear hR hj hrow hxs hxok
      go_wp2_with fail
      refine (fromStart_any i xs.length hi hx60 w1).mono ?_
      rintro e w1' ⟨rfl, rfl⟩
      rw [← HJ.out]
      go_wp2_with fail
      all_goals
        refine Calls.mono (hcall.out w1') ?_
        intro e w2 hq
        obtain ⟨v0, v1, v2, v3, v4, v5, v6, v7, v8, rfl, k3, hF⟩ := (hfin w1' (Below.refl _ _) _ _).out e w2 hq
        have HF := hide hF
        obtain ⟨y0, y1, y2, y3, y4⟩ := k3.cell
        have yf := k3.frozen
        clear hF hq hfin hcall k3
        go_wp2_with fail
        refine bodyPost_ret (v := .tuple #[.agg #[.int .i64 v0, .int .i64 v1, .string v2, .slice v3 v4 v5, .slice v6 v7 v8], .bool (okT (d + 1) (zeroT d))]) (by simp [results, Tryz.results119, go_sem, y0, y1, y2, y3, y4]) rfl ⟨_, by rw [HR.out], by rw [HR.out]; exact (HF.out _ rfl).1, (HF.out _ rfl).2⟩
    · obtain ⟨k, rfl⟩ : ∃ k : Nat, j = (k : Int) := ⟨j.toNat, by omega⟩
      have hkl : k < xs.length := by omega
      obtain ⟨b, o, x, u, rfl, hbS, hx, hc, hu⟩ := hxs.cell hkl
      obtain ⟨T, u', rfl⟩ := hu.iface
      have hxo := hxok x (List.mem_of_getElem? hx)
      have HR : Hid (partAtT d t i = (toldT d x, okT (d + 1) x)) := by
        show partAtT d t i = _
        rw [hR, place_in hj hkl, hx, hxo, toldT, if_pos hxo]
        rfl
      have hki : (k : Int) < (xs.length : Int) := by omega
      have hcall := hide (told_tree d _ x _ w1 hu (Fresh.within _ _))
      clear hR hj hrow hxs hxok hx hu hout hxo
      go_wp2_with fail
      refine (fromStart_any i xs.length hi hx60 w1).mono ?_
      rintro e w1' ⟨rfl, rfl⟩
      rw [← HJ.out]
      go_wp2_with fail
      refine Calls.mono hcall.out ?_
      intro e w2 hq
      obtain ⟨v0, v1, v2, v3, v4, v5, v6, v7, v8, rfl, k3, hF⟩ := (hfin w1' (Below.refl _ _) _ _).out e w2 hq
      have HF := hide hF
      obtain ⟨y0, y1, y2, y3, y4⟩ := k3.cell
      have yf := k3.frozen
      clear hF hq hfin hcall k3
      go_wp2_with fail
      refine bodyPost_ret (v := .tuple #[.agg #[.int .i64 v0, .int .i64 v1, .string v2, .slice v3 v4 v5, .slice v6 v7 v8], .bool (okT (d + 1) x)]) (by simp [results, Tryz.results119, go_sem, y0, y1, y2, y3, y4]) rfl ⟨_, by rw [HR.out], by rw [HR.out]; exact (HF.out _ rfl).1, (HF.out _ rfl).2⟩
  · have HR := hide (partAt_none (i := i) hrow)
    have hcall := hide (told_fault d .nilIface why w1 hg1)
    unfold faultV
    clear hrow
    go_wp2_with fail
    refine Calls.mono hcall.out ?_
    intro e w2 hq
    obtain ⟨v0, v1, v2, v3, v4, v5, v6, v7, v8, rfl, k3, hF⟩ := (hfin w1 (Below.refl _ _) _ _).out e w2 hq
    have HF := hide hF
    obtain ⟨y0, y1, y2, y3, y4⟩ := k3.cell
    have yf := k3.frozen
    clear hF hq hfin hcall k3
    go_wp2_with fail
    refine bodyPost_ret (v := .tuple #[.agg #[.int .i64 v0, .int .i64 v1, .string v2, .slice v3 v4 v5, .slice v6 v7 v8], .bool false]) (by simp [results, Tryz.results119, go_sem, y0, y1, y2, y3, y4]) rfl ⟨_, by rw [HR.out], by rw [HR.out]; exact (HF.out _ rfl).1, (HF.out _ rfl).2⟩
end Go.Proofs.YtoangpfmjohhmaaGreatDoor

/- partsInRow: the row owns its memory. -/
namespace Go.Proofs.YtoangpfmjohhmaaGreatDoor
open Go.RowKit Go.Deep

/-- What partsInRow is asked to give. -/
def RowOQ (d : Nat) (t : Tr (d + 1)) (w : World) (e : Ending) (w' : World) : Prop :=
  Below w.heap.size w w' ∧ ((∃ xs a cap vs, rowL d t = some xs ∧ e = .returned (.tuple #[.slice a xs.length cap, .nilIface]) ∧ GTo w.heap.size w' (.slice a xs.length cap) xs vs) ∨ (rowL d t = none ∧ ∃ why, e = .returned (.tuple #[.slice none 0 0, faultV why])))

set_option maxRecDepth 100000 in
set_option maxHeartbeats 4000000 in
theorem partsInRow_own (d : Nat) (S : Nat → Prop) (t : Tr (d + 1)) (v : Value) (w : World) (hv : ValAt S w (d + 1) t v) (hS : Within S w) :
    Calls Tryz.prog 121 #[v] w (RowOQ d t w) := by
  obtain ⟨k, n, s, ak, lk, ck, al, ll, cl, rfl⟩ := hv.shape
  have hA := below_alloc1 w (.cells #[.int .i64 k, .int .i64 n, .string s, .slice ak lk ck, .slice al ll cl] 26)
  have hAs := hA.size
  go_enter Tryz.func121, Tryz.ntmps121
  go_wp2_with fail
  refine (given_own d S t _ _ (hv.same (hS.same hA)) (hS.later hA.size)).mono ?_
  rintro e w1 ⟨hb1, hq⟩
  have hB := below_trans hA hb1
  clear hb1 hA hv
  rcases hq with ⟨hok, u, rfl, hu, htop⟩ | ⟨hok, why, rfl⟩
  · rcases hu with ⟨k', h1, rfl, rfl⟩ | ⟨n', h1, rfl, rfl⟩ | ⟨s', h1, rfl, rfl⟩ | ⟨xs, sv, h1, rfl, rfl, hr⟩ | ⟨keys, xs, ps, r, es, h1, h2, h3, h4, rfl, rfl, hr, hm, he⟩
    · have a3 := Tryz.asR_B
      go_wp2_with fail
      refine (isNothing_bare k' w1).mono ?_
      rintro e w2 ⟨rfl, hb2⟩
      have HB2 := hide (below_trans hB hb2)
      clear hb2 hB
      by_cases hk0 : k' = 0
      · have hkb : (k' == 0) = true := by simpa using hk0
        have hq : Hid (rowL d (Nd.mk k' 0 ByteArray.empty [] [] : Nd (Tr d)) = some []) := by
          refine (rowL_ok hok).trans ?_
          show (if k' = 0 then _ else _) = _
          rw [if_pos hk0]
        clear hk0
        go_wp2_with fail
        go_ret2
        exact ⟨HB2.out, Or.inl ⟨[], none, 0, [], hq.out, rfl, gto_nil _ _⟩⟩
      · have hkb : (k' == 0) = false := by simpa using hk0
        have hq : Hid (rowL d (Nd.mk k' 0 ByteArray.empty [] [] : Nd (Tr d)) = none) := by
          refine (rowL_ok hok).trans ?_
          show (if k' = 0 then _ else if k' = 5 then _ else _) = _
          rw [if_neg hk0, if_neg (by omega)]
        clear hk0
        go_wp2_with fail
        go_ret2
        exact ⟨below_trans HB2.out (below_alloc1 _ _), Or.inr ⟨hq.out, _, rfl⟩⟩
    · have a3 := Tryz.asR_N
      have hq : Hid (rowL d (Nd.mk 3 n' ByteArray.empty [] [] : Nd (Tr d)) = none) := by
        exact (rowL_ok hok).trans rfl
      go_wp2_with fail
      refine (isNothing_num _ w1).mono ?_
      rintro e w2 ⟨rfl, hb2⟩
      have HB2 := hide (below_trans hB hb2)
      clear hb2 hB
      go_wp2_with fail
      go_ret2
      exact ⟨below_trans HB2.out (below_alloc1 _ _), Or.inr ⟨hq.out, _, rfl⟩⟩
    · have a3 := Tryz.asR_S
      have hq : Hid (rowL d (Nd.mk 4 0 s' [] [] : Nd (Tr d)) = none) := by
        exact (rowL_ok hok).trans rfl
      go_wp2_with fail
      refine (isNothing_str _ w1).mono ?_
      rintro e w2 ⟨rfl, hb2⟩
      have HB2 := hide (below_trans hB hb2)
      clear hb2 hB
      go_wp2_with fail
      go_ret2
      exact ⟨below_trans HB2.out (below_alloc1 _ _), Or.inr ⟨hq.out, _, rfl⟩⟩
    · have a3 := Tryz.asR_R
      obtain ⟨sa, sc, rfl, _⟩ := hr.open'
      have hq : Hid (rowL d (Nd.mk 5 0 ByteArray.empty [] xs : Nd (Tr d)) = some xs) := by
        exact (rowL_ok hok).trans rfl
      go_wp2_with fail
      refine (isNothing_row _ w1).mono ?_
      rintro e w2 ⟨rfl, hb2⟩
      have hA2 := below_alloc1 w2 (.cells #[.slice sa xs.length sc] 120)
      have hb3 := below_trans hb2 hA2
      have HB2 := hide (below_trans hB hb3)
      have hsz := hb3.size
      have HR : Hid (∃ vs, GTo w.heap.size (w2.alloc (.cells #[.slice sa xs.length sc] 120)) (.slice sa xs.length sc) xs vs) := by
        obtain ⟨sv', vs, he, hto⟩ := htop.1 rfl
        cases he
        exact ⟨vs, (gto_of (hto.moved hb3 (by omega)) (okT_row hok))⟩
      clear hb2 hB hb3 hA2 hr htop
      go_wp2_with fail
      go_ret2
      obtain ⟨vs, hvs⟩ := HR.out
      exact ⟨HB2.out, Or.inl ⟨xs, sa, sc, vs, hq.out, rfl, hvs⟩⟩
    · have a3 := Tryz.asR_M
      have hq : Hid (rowL d (Nd.mk 6 0 ByteArray.empty keys xs : Nd (Tr d)) = none) := by
        exact (rowL_ok hok).trans rfl
      clear he hm hr h4 h3 h2
      go_wp2_with fail
      refine (isNothing_map _ w1).mono ?_
      rintro e w2 ⟨rfl, hb2⟩
      have HB2 := hide (below_trans hB hb2)
      clear hb2 hB
      go_wp2_with fail
      go_ret2
      exact ⟨below_trans HB2.out (below_alloc1 _ _), Or.inr ⟨hq.out, _, rfl⟩⟩
  · unfold faultV
    go_wp2_with fail
    go_ret2
    refine ⟨hB, Or.inr ⟨?_, why, rfl⟩⟩
    rw [rowL, if_neg (by rw [hok]; simp)]

end Go.Proofs.YtoangpfmjohhmaaGreatDoor

/- A tree put at a place of a row. -/
namespace Go.Proofs.YtoangpfmjohhmaaGreatDoor
open Go.RowKit Go.Deep

/-- A row of at least n, with z at those that are not there. -/
def padL {α : Type} (xs : List α) (z : α) (n : Nat) : List α := xs ++ List.replicate (n - xs.length) z
/-- What becomes of a row when x is put at place k. -/
def setL {α : Type} (xs : List α) (z : α) (k : Nat) (x : α) : List α := (padL xs z (k + 1)).set k x

theorem padL_length {α : Type} (xs : List α) (z : α) (n : Nat) : (padL xs z n).length = max xs.length n := by
  unfold padL
  rw [List.length_append, List.length_replicate]
  omega
theorem setL_length {α : Type} (xs : List α) (z : α) (k : Nat) (x : α) : (setL xs z k x).length = max xs.length (k + 1) := by
  unfold setL
  rw [List.length_set, padL_length]
theorem padL_step {α : Type} (xs : List α) (z : α) (m : Nat) : xs ++ List.replicate (m + 1) z = (xs ++ List.replicate m z) ++ [z] := by
  rw [List.replicate_succ', List.append_assoc]

/-- What PartSet tells. -/
def partSetT (d : Nat) (t : Tr (d + 2)) (i : Int) (x : Tr (d + 1)) : Tr (d + 2) × Bool :=
  match rowL (d + 1) t with
  | none => (zeroT (d + 1), false)
  | some xs =>
    if okT (d + 1) x = true ∧ -(xs.length : Int) ≤ i ∧ i < 60 then
      (toldT (d + 1) (rowT (d + 1) (setL xs (zeroT d) (if i < 0 then i + xs.length else i).toNat x)), okT (d + 2) (rowT (d + 1) (setL xs (zeroT d) (if i < 0 then i + xs.length else i).toNat x)))
    else (zeroT (d + 1), false)

theorem okT_partSet (d : Nat) (t : Tr (d + 2)) (i : Int) (x : Tr (d + 1)) : okT (d + 2) (partSetT d t i x).1 = true := by
  unfold partSetT
  split
  · exact okT_zero _
  · split
    · exact okT_told _ _
    · exact okT_zero _

/-- One tree more at the end of a row, which lies in no block. -/
theorem GTo.step {d N : Nat} {wr w2 : World} {sv sv' u : Value} {xs : List (Tr d)} {vs : List Value} {x : Tr d} {o : Obj} (h : GTo N wr sv xs vs) (hu : TreeG (fun _ => False) wr d x u) (hown : w2.ownsRow N 58 1 sv' (xs.length + 1) (vs ++ [u]))
    (hg : (wr.alloc o).grownBy w2 sv.ownBlock) (hw : sv'.ownBlock = sv.ownBlock ∨ sv'.ownBlock = some (wr.alloc o).heap.size) : GTo N w2 sv' (xs ++ [x]) (vs ++ [u]) := by
  obtain ⟨h1, h2⟩ := h
  have hlen : vs.length = xs.length := by have := h1.1; omega
  have hs3 := hg.size
  have hz : (wr.alloc o).heap.size = wr.heap.size + 1 := by simp
  rw [hz] at hs3 hw
  have hlast : ∀ b, b < wr.heap.size → some b ≠ sv.ownBlock → w2.heap[b]? = wr.heap[b]? := fun b hb1 hb2 =>
    (hg.block b (by omega) hb2).trans (Below.heap_alloc _ _ _ hb1)
  have hne : ∀ b, b < wr.heap.size → some b ≠ sv.ownBlock → some b ≠ sv'.ownBlock := fun b hb1 hb2 => by
    rcases hw with e | e
    · rw [e]; exact hb2
    · rw [e]; intro e2; cases e2; omega
  refine ⟨by rw [List.length_append]; exact hown, fun j y v hy hv => ?_⟩
  by_cases e : j < xs.length
  · rw [List.getElem?_append_left e] at hy
    rw [List.getElem?_append_left (by omega)] at hv
    refine TreeG.moved (fun b hB => hlast b hB.2.1 hB.2.2) (fun b hB => ⟨hB.1, by have := hB.2.1; omega, hne b hB.2.1 hB.2.2⟩) d y v (h2 j y v hy hv)
  · have hj : j = xs.length := by
      have := (List.getElem?_eq_some_iff.1 hy).1
      rw [List.length_append, List.length_singleton] at this
      omega
    subst hj
    rw [List.getElem?_append_right (Nat.le_refl _), Nat.sub_self] at hy
    rw [List.getElem?_append_right (by omega), hlen, Nat.sub_self] at hv
    cases hy
    cases hv
    exact TreeG.moved (fun b hB => hB.elim) (fun b hB => hB.elim) d x u hu

/-- Another tree at a place of a row. -/
theorem GTo.put {d N g n cap k : Nat} {w : World} {u : Value} {xs : List (Tr d)} {vs : List Value} {x : Tr d} {S : Nat → Prop} (h : GTo N w (.slice (some ⟨g, 0, none⟩) n cap) xs vs) (hn : n = xs.length) (hk : k < xs.length) (hu : TreeG S w d x u) (hS : ∀ b, S b → N ≤ b ∧ b < w.heap.size ∧ b ≠ g) :
    GTo N (w.setCell ⟨g, k, none⟩ u) (.slice (some ⟨g, 0, none⟩) n cap) (xs.set k x) (vs.set k u) ∧ Below N w (w.setCell ⟨g, k, none⟩ u) := by
  subst hn
  obtain ⟨h1, h2⟩ := h
  have hlen : vs.length = xs.length := by have := h1.1; omega
  obtain ⟨ho, hgr⟩ := h1.stored k u
  have hsame : ∀ b, b ≠ g → (w.setCell ⟨g, k, none⟩ u).heap[b]? = w.heap[b]? := fun b hb => Below.heap_setCell _ _ _ _ hb
  have hz : (w.setCell ⟨g, k, none⟩ u).heap.size = w.heap.size := size_setCell1 _ _ _
  have hgN := (h1.lt g rfl).1
  refine ⟨⟨by rw [List.length_set]; exact ho, fun j y v hy hv => ?_⟩, (Below.refl _ _).setCell hgN _⟩
  by_cases e : k = j
  · subst e
    rw [List.getElem?_set_self hk] at hy
    rw [List.getElem?_set_self (by omega)] at hv
    cases hy
    cases hv
    exact TreeG.moved (fun b hb => hsame b (hS b hb).2.2) (fun b hb => ⟨(hS b hb).1, by rw [hz]; exact (hS b hb).2.1, fun e => (hS b hb).2.2 (by cases e; rfl)⟩) d x u hu
  · rw [List.getElem?_set_ne e] at hy hv
    exact TreeG.moved (fun b hb => hsame b (fun e => hb.2.2 (by rw [e]; rfl))) (fun b hb => ⟨hb.1, by rw [hz]; exact hb.2.1, hb.2.2⟩) d y v (h2 j y v hy hv)
end Go.Proofs.YtoangpfmjohhmaaGreatDoor

/- What is put and got in plain trees: the facts that the laws of chapter 2 ask for. -/
namespace Go.Proofs.YtoangpfmjohhmaaGreatDoor
open Go.RowKit Go.Deep

theorem getL_cons {α : Type} (k : ByteArray) (ks : List ByteArray) (x : α) (xs : List α) (s : ByteArray) : getL (k :: ks) (x :: xs) s = if (k == s) = true then some x else getL ks xs s := by rw [getL]
theorem getL_nil {α : Type} (xs : List α) (s : ByteArray) : getL ([] : List ByteArray) xs s = none := getL_miss (by simp)
theorem putL_nil {α : Type} (xs : List α) (s : ByteArray) (x : α) : putL [] xs s x = [(s, x)] := by rw [putL]
theorem putL_cons {α : Type} (k : ByteArray) (ks : List ByteArray) (y : α) (ys : List α) (s : ByteArray) (x : α) : putL (k :: ks) (y :: ys) s x = if ltB k s = true then (k, y) :: putL ks ys s x else if (k == s) = true then (s, x) :: ks.zip ys else (s, x) :: (k, y) :: ks.zip ys := by rw [putL]
theorem zip_snd' {α : Type} (ks : List ByteArray) (xs : List α) (h : ks.length = xs.length) : (ks.zip xs).map Prod.snd = xs := by
  rw [List.map_snd_zip (by omega)]

/-- What was put is got. -/
theorem getL_put_same {α : Type} (s : ByteArray) (x : α) : ∀ (ks : List ByteArray) (xs : List α), ks.length = xs.length → getL ((putL ks xs s x).map Prod.fst) ((putL ks xs s x).map Prod.snd) s = some x
  | [], xs, _ => by rw [putL_nil]; show getL [s] [x] s = some x; rw [getL_cons, if_pos (bytes_self s)]
  | _ :: _, [], h => by simp at h
  | k :: ks, y :: ys, h => by
    rw [putL_cons]
    split
    · rename_i hlt
      rw [List.map_cons, List.map_cons, getL_cons, if_neg (by rw [bytes_ne (ltB_ne hlt)]; simp)]
      exact getL_put_same s x ks ys (by simpa using h)
    · split
      · show getL (s :: (ks.zip ys).map Prod.fst) (x :: (ks.zip ys).map Prod.snd) s = some x
        rw [getL_cons, if_pos (bytes_self s)]
      · show getL (s :: k :: (ks.zip ys).map Prod.fst) (x :: y :: (ks.zip ys).map Prod.snd) s = some x
        rw [getL_cons, if_pos (bytes_self s)]
/-- What was there at another key stays. -/
theorem getL_put_other {α : Type} {s s' : ByteArray} (x : α) (hne : s' ≠ s) : ∀ (ks : List ByteArray) (xs : List α), ks.length = xs.length → getL ((putL ks xs s x).map Prod.fst) ((putL ks xs s x).map Prod.snd) s' = getL ks xs s'
  | [], xs, _ => by
    rw [putL_nil]
    show getL [s] [x] s' = _
    rw [getL_cons, if_neg (by rw [bytes_ne (Ne.symm hne)]; simp), getL_nil, getL_nil]
  | _ :: _, [], h => by simp at h
  | k :: ks, y :: ys, h => by
    have hl : ks.length = ys.length := by simpa using h
    rw [putL_cons]
    split
    · show getL (k :: (putL ks ys s x).map Prod.fst) (y :: (putL ks ys s x).map Prod.snd) s' = _
      rw [getL_cons, getL_cons, getL_put_other x hne ks ys hl]
    · split
      · rename_i he
        have e := (MapKept.bytes_beq k s).1 he
        subst e
        show getL (k :: (ks.zip ys).map Prod.fst) (x :: (ks.zip ys).map Prod.snd) s' = _
        rw [getL_cons, getL_cons, if_neg (by rw [bytes_ne (Ne.symm hne)]; simp), if_neg (by rw [bytes_ne (Ne.symm hne)]; simp), zip_fst _ _ hl, zip_snd' _ _ hl]
      · show getL (s :: k :: (ks.zip ys).map Prod.fst) (x :: y :: (ks.zip ys).map Prod.snd) s' = _
        rw [getL_cons, if_neg (by rw [bytes_ne (Ne.symm hne)]; simp), getL_cons, getL_cons, zip_fst _ _ hl, zip_snd' _ _ hl]

theorem ltB_asymm {a b : ByteArray} (h : ltB a b = true) (h' : ltB b a = true) : False := by
  have := bytesLess_trans _ _ _ h h'
  rw [bytesLess_irrefl] at this
  cases this
/-- Keys in order, with what is at each: nothing else. -/
theorem assoc_ext {α : Type} : ∀ (ps qs : List (ByteArray × α)) (p q : Option ByteArray), keysGo p (ps.map Prod.fst) = true → keysGo q (qs.map Prod.fst) = true → (∀ s, getL (ps.map Prod.fst) (ps.map Prod.snd) s = getL (qs.map Prod.fst) (qs.map Prod.snd) s) → ps = qs
  | [], [], _, _, _, _, _ => rfl
  | [], (k, x) :: r, _, _, _, _, h => by
    have := h k
    simp only [List.map_cons, List.map_nil, getL_cons, getL_nil, bytes_self, if_true] at this
    cases this
  | (k, x) :: r, [], _, _, _, _, h => by
    have := h k
    simp only [List.map_cons, List.map_nil, getL_cons, getL_nil, bytes_self, if_true] at this
    cases this
  | (k, x) :: r, (k', x') :: r', p, q, h1, h2, h => by
    have a1 := keysGo_all _ k (keysGo_tail h1)
    have a2 := keysGo_all _ k' (keysGo_tail h2)
    have hg : ∀ s, (if (k == s) = true then some x else getL (r.map Prod.fst) (r.map Prod.snd) s) = (if (k' == s) = true then some x' else getL (r'.map Prod.fst) (r'.map Prod.snd) s) := fun s => by
      have := h s
      simp only [List.map_cons, getL_cons] at this
      exact this
    by_cases e : k = k'
    · subst e
      have hx := hg k
      rw [if_pos (bytes_self k), if_pos (bytes_self k)] at hx
      cases hx
      rw [assoc_ext r r' _ _ (keysGo_tail h1) (keysGo_tail h2) (fun s => ?_)]
      by_cases es : k = s
      · subst es
        rw [getL_miss (fun hm => ltB_ne (a1 _ hm) rfl), getL_miss (fun hm => ltB_ne (a2 _ hm) rfl)]
      · have hs := hg s
        rw [if_neg (by rw [bytes_ne es]; simp), if_neg (by rw [bytes_ne es]; simp)] at hs
        exact hs
    · exfalso
      cases hlt : ltB k k' with
      | true =>
        have hx := hg k
        rw [if_pos (bytes_self k), if_neg (by rw [bytes_ne (Ne.symm e)]; simp), getL_miss (fun hm => ltB_asymm hlt (a2 _ hm))] at hx
        cases hx
      | false =>
        have hlt' := ltB_total hlt (bytes_ne e)
        have hx := hg k'
        rw [if_pos (bytes_self k'), if_neg (by rw [bytes_ne e]; simp), getL_miss (fun hm => ltB_asymm hlt' (a1 _ hm))] at hx
        cases hx
theorem keysGo_ok : ∀ (ks : List ByteArray) (p : Option ByteArray), keysGo p ks = true → ∀ s ∈ ks, strOk s = true
  | [], _, _, _, h => by cases h
  | a :: r, p, h, s, hs => by
    have h0 : strOk a = true := by
      cases p with
      | none => simp only [keysGo, Bool.and_eq_true] at h; exact h.1
      | some q => simp only [keysGo, Bool.and_eq_true] at h; exact h.1
    cases hs with
    | head => exact h0
    | tail _ hs => exact keysGo_ok r _ (keysGo_tail h) s hs
theorem getL_key {α : Type} {ks : List ByteArray} {xs : List α} {i : Nat} {k : ByteArray} {y : α} (h : keysB ks = true) (hk : ks[i]? = some k) (hy : xs[i]? = some y) : getL ks xs k = some y :=
  getL_at hk hy (fun _ hj e => keysB_ne h hj e hk rfl)

theorem putL_len2 {α : Type} (ps : List (ByteArray × α)) : (ps.map Prod.fst).length = (ps.map Prod.snd).length := by rw [List.length_map, List.length_map]

/-- The keys and trees of a tree of which a key may be asked. -/
theorem mapL_some {d : Nat} {t : Tr (d + 1)} {s : ByteArray} {keys : List ByteArray} {xs : List (Tr d)} (h : mapL d t s = some (keys, xs)) :
    okT (d + 1) t = true ∧ strOk s = true ∧ keys.length = xs.length ∧ keysB keys = true ∧ ((Nd.kind t = 0 ∧ keys = [] ∧ xs = []) ∨ (Nd.kind t = 6 ∧ keys = Nd.keys t ∧ xs = Nd.list t)) := by
  unfold mapL at h
  split at h
  · rename_i hh
    split at h
    · cases h
      exact ⟨hh.1, hh.2, rfl, rfl, Or.inl ⟨by assumption, rfl, rfl⟩⟩
    split at h
    · rename_i h6
      cases h
      refine ⟨hh.1, hh.2, okT_keys hh.1 h6, ?_, Or.inr ⟨h6, rfl, rfl⟩⟩
      obtain ⟨hf, _⟩ := okT_form hh.1
      obtain ⟨kind, num, str, keys, list⟩ := t
      have h6 : kind = 6 := h6
      cases hb : headBad kind num str keys.length list.length 6 with
      | true => rw [formT_bad hb] at hf; cases hf
      | false =>
        rw [formT_good hb, if_neg (by omega), if_neg (by omega), if_neg (by omega), if_pos h6] at hf
        simp only [Bool.and_eq_true] at hf
        exact hf.1.2
    · cases h
  · cases h
theorem mapL_mapT {d : Nat} {ps : List (ByteArray × Tr d)} {s : ByteArray} (h : okT (d + 1) (mapT d ps) = true) (hs : strOk s = true) : mapL d (mapT d ps) s = some (ps.map Prod.fst, ps.map Prod.snd) := by
  rw [mapL_ok h hs]
  rfl
theorem partGet_mapT {d : Nat} {ps : List (ByteArray × Tr (d + 1))} {s : ByteArray} (h : okT (d + 2) (mapT (d + 1) ps) = true) (hs : strOk s = true) : partGetT d (mapT (d + 1) ps) s = ((getL (ps.map Prod.fst) (ps.map Prod.snd) s).getD (zeroT d), true) := by
  unfold partGetT
  rw [if_pos ⟨h, hs⟩]
  rfl
/-- PartPut that can be done. -/
theorem put_ok {d : Nat} {t : Tr (d + 2)} {s : ByteArray} {x : Tr (d + 1)} (h : (partPutT d t s x).2 = true) :
    ∃ keys xs, mapL (d + 1) t s = some (keys, xs) ∧ okT (d + 1) x = true ∧ (partPutT d t s x).1 = mapT (d + 1) (putL keys xs s x) ∧ okT (d + 2) (mapT (d + 1) (putL keys xs s x)) = true := by
  unfold partPutT at h ⊢
  cases hm : mapL (d + 1) t s with
  | none => rw [hm] at h; cases h
  | some kx =>
    obtain ⟨keys, xs⟩ := kx
    rw [hm] at h
    by_cases hx : okT (d + 1) x = true
    · have h' : okT (d + 2) (mapT (d + 1) (putL keys xs s x)) = true := by simpa [hx] using h
      refine ⟨keys, xs, rfl, hx, ?_, h'⟩
      show (if okT (d + 1) x = true then _ else _ : Tr (d + 2) × Bool).1 = _
      rw [if_pos hx]
      show toldT (d + 1) _ = _
      unfold toldT
      rw [if_pos h']
    · have : (if okT (d + 1) x = true then (toldT (d + 1) (mapT (d + 1) (putL keys xs s x)), okT (d + 2) (mapT (d + 1) (putL keys xs s x))) else (zeroT (d + 1), false) : Tr (d + 2) × Bool).2 = true := h
      rw [if_neg hx] at this
      cases this
theorem get_put {d : Nat} {t : Tr (d + 2)} {s : ByteArray} {x : Tr (d + 1)} (h : (partPutT d t s x).2 = true) : partGetT d (partPutT d t s x).1 s = (x, true) := by
  obtain ⟨keys, xs, hm, hx, he, ho⟩ := put_ok h
  obtain ⟨_, hs, hl, _, _⟩ := mapL_some hm
  rw [he, partGet_mapT ho hs, getL_put_same s x keys xs hl]
  rfl
theorem okT_nokeys {d : Nat} {t : Tr (d + 1)} (h : okT (d + 1) t = true) (h6 : Nd.kind t ≠ 6) : Nd.keys t = [] := by
  obtain ⟨hf, _⟩ := okT_form h
  obtain ⟨kind, num, str, keys, list⟩ := t
  cases hb : headBad kind num str keys.length list.length 6 with
  | true => rw [formT_bad hb] at hf; cases hf
  | false => exact List.eq_nil_of_length_eq_zero ((headBad_iff.1 hb).2.2.2.1 h6)
theorem okT_nolist {d : Nat} {t : Tr (d + 1)} (h : okT (d + 1) t = true) (h6 : Nd.kind t < 5) : Nd.list t = [] := by
  obtain ⟨hf, _⟩ := okT_form h
  obtain ⟨kind, num, str, keys, list⟩ := t
  cases hb : headBad kind num str keys.length list.length 6 with
  | true => rw [formT_bad hb] at hf; cases hf
  | false => exact List.eq_nil_of_length_eq_zero ((headBad_iff.1 hb).2.2.2.2 h6)
theorem get_put_other {d : Nat} {t : Tr (d + 2)} {s k : ByteArray} {x y : Tr (d + 1)} {i : Nat} (h : (partPutT d t s x).2 = true) (hk : (Nd.keys t)[i]? = some k) (hy : (Nd.list t)[i]? = some y) (hne : k ≠ s) : partGetT d (partPutT d t s x).1 k = (y, true) := by
  obtain ⟨keys, xs, hm, hx, he, ho⟩ := put_ok h
  obtain ⟨hok, hs, hl, hkb, hc⟩ := mapL_some hm
  rcases hc with ⟨h0, rfl, rfl⟩ | ⟨h6, rfl, rfl⟩
  · rw [okT_nokeys hok (by omega)] at hk
    simp at hk
  · rw [he, partGet_mapT ho (keysGo_ok _ _ hkb k (List.mem_of_getElem? hk)), getL_put_other x hne _ _ hl, getL_key hkb hk hy]
    rfl
/-- PartPut behind PartPut. -/
theorem put_put {d : Nat} {a b : ByteArray} {x y : Tr (d + 1)} {keys : List ByteArray} {xs : List (Tr (d + 1))} (ho : okT (d + 2) (mapT (d + 1) (putL keys xs a x)) = true) (hb : strOk b = true) :
    partPutT d (mapT (d + 1) (putL keys xs a x)) b y = if okT (d + 1) y = true then (toldT (d + 1) (mapT (d + 1) (putL ((putL keys xs a x).map Prod.fst) ((putL keys xs a x).map Prod.snd) b y)), okT (d + 2) (mapT (d + 1) (putL ((putL keys xs a x).map Prod.fst) ((putL keys xs a x).map Prod.snd) b y))) else (zeroT (d + 1), false) := by
  unfold partPutT
  rw [mapL_mapT ho hb]
theorem putL_order {α : Type} {s : ByteArray} {x : α} {ks : List ByteArray} {xs : List α} (hs : strOk s = true) (hl : ks.length = xs.length) (hk : keysGo none ks = true) : keysGo none ((putL ks xs s x).map Prod.fst) = true :=
  putL_keys hs hl hk (fun q h => by cases h)
/-- What is put at one key last is there. -/
theorem putL_again {α : Type} {s : ByteArray} {x y : α} {ks : List ByteArray} {xs : List α} (hs : strOk s = true) (hl : ks.length = xs.length) (hk : keysGo none ks = true) :
    putL ((putL ks xs s x).map Prod.fst) ((putL ks xs s x).map Prod.snd) s y = putL ks xs s y := by
  refine assoc_ext _ _ none none (putL_order hs (putL_len2 _) (putL_order hs hl hk)) (putL_order hs hl hk) (fun k => ?_)
  by_cases e : k = s
  · subst e
    rw [getL_put_same _ _ _ _ (putL_len2 _), getL_put_same _ _ _ _ hl]
  · rw [getL_put_other _ e _ _ (putL_len2 _), getL_put_other _ e _ _ hl, getL_put_other _ e _ _ hl]
theorem putL_swap {α : Type} {a b : ByteArray} {x y : α} {ks : List ByteArray} {xs : List α} (ha : strOk a = true) (hb : strOk b = true) (hne : a ≠ b) (hl : ks.length = xs.length) (hk : keysGo none ks = true) :
    putL ((putL ks xs a x).map Prod.fst) ((putL ks xs a x).map Prod.snd) b y = putL ((putL ks xs b y).map Prod.fst) ((putL ks xs b y).map Prod.snd) a x := by
  refine assoc_ext _ _ none none (putL_order hb (putL_len2 _) (putL_order ha hl hk)) (putL_order ha (putL_len2 _) (putL_order hb hl hk)) (fun k => ?_)
  by_cases e : k = a
  · subst e
    rw [getL_put_other _ hne _ _ (putL_len2 _), getL_put_same _ _ _ _ hl, getL_put_same _ _ _ _ (putL_len2 _)]
  · by_cases e' : k = b
    · subst e'
      rw [getL_put_same _ _ _ _ (putL_len2 _), getL_put_other _ e _ _ (putL_len2 _), getL_put_same _ _ _ _ hl]
    · rw [getL_put_other _ e' _ _ (putL_len2 _), getL_put_other _ e _ _ hl, getL_put_other _ e _ _ (putL_len2 _), getL_put_other _ e' _ _ hl]
/-- At one key the last one counts. -/
theorem put_twice {d : Nat} {t : Tr (d + 2)} {a : ByteArray} {x : Tr (d + 1)} (h : (partPutT d t a x).2 = true) (y : Tr (d + 1)) : partPutT d (partPutT d t a x).1 a y = partPutT d t a y := by
  obtain ⟨keys, xs, hm, hx, he, ho⟩ := put_ok h
  obtain ⟨_, hs, hl, hkb, _⟩ := mapL_some hm
  rw [he, put_put ho hs, putL_again hs hl hkb]
  unfold partPutT
  rw [hm]
theorem put_same {d : Nat} {t : Tr (d + 2)} {a : ByteArray} {x : Tr (d + 1)} (h : (partPutT d t a x).2 = true) : partPutT d (partPutT d t a x).1 a x = ((partPutT d t a x).1, true) := by
  rw [put_twice h, ← h]
theorem put_swap {d : Nat} {t : Tr (d + 2)} {a b : ByteArray} {x y : Tr (d + 1)} (h1 : (partPutT d t a x).2 = true) (h3 : (partPutT d t b y).2 = true) (hne : a ≠ b) :
    (partPutT d (partPutT d t a x).1 b y).1 = (partPutT d (partPutT d t b y).1 a x).1 := by
  obtain ⟨keys, xs, hm, hx, he, ho⟩ := put_ok h1
  obtain ⟨_, ha, hl, hkb, hc⟩ := mapL_some hm
  obtain ⟨keys', xs', hm', hx', he', ho'⟩ := put_ok h3
  obtain ⟨_, hb, hl', _, hc'⟩ := mapL_some hm'
  obtain ⟨rfl, rfl⟩ : keys' = keys ∧ xs' = xs := by
    rcases hc with ⟨h0, rfl, rfl⟩ | ⟨h0, rfl, rfl⟩ <;> rcases hc' with ⟨h0', rfl, rfl⟩ | ⟨h0', rfl, rfl⟩ <;> first | exact ⟨rfl, rfl⟩ | omega
  rw [he, put_put ho hb, he', put_put ho' ha, if_pos hx, if_pos hx', putL_swap ha hb hne hl hkb]
end Go.Proofs.YtoangpfmjohhmaaGreatDoor
