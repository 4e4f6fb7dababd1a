/- Texts of the proof, put together by program: WSetT, WMapS, WPutR, WPutI, WPutU, WSetTo, WPutUo, WSetQ, WSetS, WSetI, WSetJ. -/
import Derived.Test.YtohdpgclokgohaaGreatDoorP23
import Derived.Test.YtohdpgclokgohaaGreatDoorP12
import Derived.Test.YtohdpgclokgohaaGreatDoorP4
import Derived.Test.YtohdpgclokgohaaGreatDoorP21
import Derived.Test.YtohdpgclokgohaaGreatDoorP22
import Derived.Deep.OwnRows
/- l2Told of the model: a tree in new memory, if it is right. -/
namespace Go.Proofs.YtohdpgclokgohaaGreatDoor
open Go.RowKit Go.Deep

set_option maxRecDepth 100000 in
set_option maxHeartbeats 4000000 in
theorem l2Told_any (d : Nat) (S : Nat → Prop) (t : Tr (d + 1)) (v : Value) (w : World) (hv : ValAt S w (d + 1) t v) (hS : Within S w) (hsm : (nodes (d + 1) t : Int) ≤ 4194304) :
    Calls Tryz.prog 42 #[v] w (SpecQ d (toldT d t) (okT (d + 1) t) w) := by
  have hv0 := hv
  obtain ⟨k, n, s, ak, lk, ck, al, ll, cl, rfl⟩ := hv.shape
  obtain ⟨W0, hW⟩ : ∃ W0, W0 = (w.alloc (.cells #[.int .i64 k, .int .i64 n, .string s, .slice ak lk ck, .slice al ll cl] 26)).alloc (.cells #[.int .i64 0, .int .i64 0, .string { data := #[] }, .slice none 0 0, .slice none 0 0] 26) := ⟨_, rfl⟩
  have hW0 : Below w.heap.size w W0 := by rw [hW]; exact below_trans (below_alloc1 _ _) (below_alloc1 _ _)
  have k0 : Blk5 W0 w.heap.size 26 (.int .i64 k) (.int .i64 n) (.string s) (.slice ak lk ck) (.slice al ll cl) := by
    rw [hW]; exact (Blk5.new w 26 _ _ _ _ _).alloc _
  have k1 : Blk5 W0 (w.heap.size + 1) 26 (.int .i64 0) (.int .i64 0) (.string { data := #[] }) (.slice none 0 0) (.slice none 0 0) := by
    have := Blk5.new (w.alloc (.cells #[.int .i64 k, .int .i64 n, .string s, .slice ak lk ck, .slice al ll cl] 26)) 26 (.int .i64 0) (.int .i64 0) (.string { data := #[] }) (.slice none 0 0) (.slice none 0 0)
    rw [World.size_alloc] at this
    rw [hW]
    exact this
  have HW := hide hW
  clear hW hv
  go_enter Tryz.func42, Tryz.ntmps42
  go_wp2_with fail
  rw [← HW.out]
  clear HW
  refine (specValOk_any (d + 1) S t _ W0 (hv0.same (hS.same hW0)) (hS.later hW0.size) hsm).mono ?_
  rintro e w1 ⟨rfl, hb1⟩
  replace k0 := k0.below hb1
  replace k1 := k1.below hb1
  have hB1 := below_trans hW0 hb1
  obtain ⟨x0, x1, x2, x3, x4⟩ := k0.cell
  have hlt := k1.lt
  clear hb1 hW0
  cases hf : okT (d + 1) t with
  | false =>
    have hz : Hid (toldT d t = zeroT d) := by
      show toldT d t = _
      rw [toldT, hf]
      rfl
    have hno : Hid (∀ wF, wF = set5 w1 (w.heap.size + 1) 0 (.int .i64 0) (.int .i64 0) (.string { data := #[] }) (.slice none 0 0) (.slice none 0 0) → Below w.heap.size w wF) := by
      intro wF hF
      rw [hF]
      exact below_set5 hB1 (by omega) _ _ _ _ _ _
    obtain ⟨y0, y1, y2, y3, y4⟩ := k1.cell
    have yf := k1.frozen
    clear k0 k1 hB1 hv0
    go_wp2_with fail
    rw [hz.out, hf]
    refine bodyPost_ret (v := .tuple #[zeroVal, .bool false]) (by simp [results, Tryz.results42, go_sem, zeroVal, y0, y1, y2, y3, y4]; rfl) rfl ⟨_, rfl, zeroAt d _ _, hno.out _ rfl⟩
  | true =>
    have hz : Hid (toldT d t = t) := by
      show toldT d t = _
      rw [toldT, hf]
      rfl
    have hwt := wtT_ok hf
    go_wp2_with fail
    refine (l1Copy_any (d + 1) S t _ w1 (hv0.same (hS.same hB1)) (hS.later hB1.size) (by omega)).mono ?_
    rintro e w3 ⟨u, rfl, hu3, hb3⟩
    obtain ⟨u0, u1, u2, u3, u4, u5, u6, u7, u8, rfl⟩ := (ValOwn.at _ _ _ _ hu3).shape
    have HF := hide (tell_end hu3 (below_trans hB1 hb3) (by omega) hlt)
    have k3 := k1.below hb3
    clear hu3 hb3 k1 k0 hv0 x0 x1 x2 x3 x4
    obtain ⟨y0, y1, y2, y3, y4⟩ := k3.cell
    have yf := k3.frozen
    clear k3
    go_wp2_with fail
    rw [hz.out, hf]
    refine bodyPost_ret (v := .tuple #[.agg #[.int .i64 u0, .int .i64 u1, .string u2, .slice u3 u4 u5, .slice u6 u7 u8], .bool true]) (by simp [results, Tryz.results42, go_sem, y0, y1, y2, y3, y4]) rfl ⟨_, rfl, ValOwn.at _ _ _ _ (HF.out _ rfl).1, (HF.out _ rfl).2⟩
end Go.Proofs.YtohdpgclokgohaaGreatDoor

/- A map, turned at a key that is there. -/
namespace Go.Proofs.YtohdpgclokgohaaGreatDoor
open Go.RowKit Go.Deep

theorem run_mapSet (w : World) (r clock j : Nat) (es : Array MapEntry) (s : ByteArray) (u v : Value) (b : Nat) (hb : w.heap[r]? = some (.map es clock)) (hj : es[j]? = some ⟨.string s, v, b⟩)
    (hn : ∀ i' e', i' < j → es[i']? = some e' → ∃ k, e'.key = .string k ∧ k ≠ s) :
    (Instr.mapUpdate 62 (.map (some r)) (.string s) u).run Tryz.prog w = .ok () (withObj w r (.map (es.modify j fun e => { e with key := .string s, val := u }) clock)) := by
  have hf := findNow_at s es.toList j 0 ⟨.string s, v, b⟩ (by rw [Array.getElem?_toList]; exact hj) rfl (fun i' e' hi he => hn i' e' hi (by rw [Array.getElem?_toList] at he; exact he))
  have hk : (Instr.checkKey false 10000 9 (.string s)).run Tryz.prog w = .ok () w :=
    MapKept.run_checkKey (P := Tryz.prog) (w := w) (k := .string s) Tryz.underlying9 trivial false 9999
  have hfk := MapKept.run_findKey (P := Tryz.prog) (w := w) Tryz.underlying9 hf
  have hst : (Instr.keyThatStays (.string s) (.string s)).run Tryz.prog w = .ok (.string s) w := MapKept.run_keyThatStays (P := Tryz.prog) (w := w) (d := .string) (k := .string s) trivial
  simp [Instr.mapUpdate, run_underlying Tryz.underlying62, getObj, setObj, Sem.run, hb, hk, hfk, hj, hst, withObj]

theorem below_withObj {N r : Nat} (w : World) (o : Obj) (h : N ≤ r) : Below N w (withObj w r o) :=
  ⟨rfl, rfl, rfl, by simp [withObj], fun b hb => withObj_block w r o b (by omega)⟩
end Go.Proofs.YtohdpgclokgohaaGreatDoor

/- partsByKeys: the map owns its memory; a map's update. -/
namespace Go.Proofs.YtohdpgclokgohaaGreatDoor
open Go.RowKit Go.Deep

/-- A map of the program's own trees that owns its memory: its trees lie in blocks from N on, not in the map's own. -/
structure MapO {d : Nat} (N : Nat) (w : World) (r : Nat) (es : Array MapEntry) (keys : List ByteArray) (xs : List (Tr d)) : Prop where
  len : xs.length ≤ 60
  good : keysB keys = true
  same : keys.length = xs.length
  ge : N ≤ r
  obj : w.heap[r]? = some (.map es keys.length)
  ent : MapG (TreeG (fun b => N ≤ b ∧ b < w.heap.size ∧ b ≠ r) w d) es (keys.zip xs)

theorem okT_map {d : Nat} {keys : List ByteArray} {xs : List (Tr d)} (h : okT (d + 1) (Nd.mk 6 0 ByteArray.empty keys xs : Nd (Tr d)) = true) : ∀ x ∈ xs, formT d x 5 = true ∧ manyT d x 5 ≤ 60 := by
  obtain ⟨hf, hm⟩ := okT_form h
  have hmm : manyT (d + 1) (Nd.mk 6 0 ByteArray.empty keys xs : Nd (Tr d)) 6 = 1 + (xs.map (fun x => manyT d x (6 - 1))).sum := rfl
  rw [hmm] at hm
  cases hb : headBad 6 0 ByteArray.empty keys.length xs.length 6 with
  | true => rw [formT_bad hb] at hf; cases hf
  | false =>
    rw [formT_good hb] at hf
    rw [if_neg (by omega), if_neg (by omega), if_neg (by omega), if_pos rfl] at hf
    simp only [Bool.and_eq_true] at hf
    intro x hx
    have h1 := many_mem (d := d) (deep := 6 - 1) hx
    exact ⟨List.all_eq_true.1 hf.2 x hx, by have h2 : manyT d x 5 = manyT d x (6 - 1) := rfl; omega⟩
theorem mapG_of {d : Nat} {S : Nat → Prop} {w : World} {es : Array MapEntry} {keys : List ByteArray} {xs : List (Tr d)} (hf : ∀ x ∈ xs, formT d x 5 = true ∧ manyT d x 5 ≤ 60) (h : MapIs (TreeAt S w d) es keys xs) : MapG (TreeG S w d) es (keys.zip xs) := by
  obtain ⟨h1, h2, h3⟩ := h
  refine ⟨by rw [List.length_zip, ← h2, Nat.min_self]; exact h1, fun i k x hp => ?_⟩
  have hp' := List.getElem?_zip_eq_some.1 hp
  obtain ⟨u, e1, e2⟩ := h3 i k x hp'.1 hp'.2
  exact ⟨u, e1, treeG_of d x 5 u (hf x (List.mem_of_getElem? hp'.2)).1 (hf x (List.mem_of_getElem? hp'.2)).2 e2⟩
theorem MapO.moved {d N r : Nat} {w w' : World} {es : Array MapEntry} {keys : List ByteArray} {xs : List (Tr d)} (h : MapO N w r es keys xs) (hb : Below w.heap.size w w') : MapO N w' r es keys xs := by
  have hz := hb.size
  exact ⟨h.len, h.good, h.same, h.ge, (hb.block r (Array.getElem?_eq_some_iff.1 h.obj).1).trans h.obj, h.ent.moved (fun x u hx => TreeG.moved (fun b hb' => hb.block b hb'.2.1) (fun b hb' => ⟨hb'.1, by have := hb'.2.1; omega, hb'.2.2⟩) d x u hx)⟩

/-- What partsByKeys is asked to give. -/
def MapOQ (d : Nat) (t : Tr (d + 1)) (s : ByteArray) (w : World) (e : Ending) (w' : World) : Prop :=
  Below w.heap.size w w' ∧ ((∃ keys xs r es, mapL d t s = some (keys, xs) ∧ e = .returned (.tuple #[.map (some r), .nilIface]) ∧ MapO w.heap.size w' r es keys xs) ∨ (mapL d t s = none ∧ ∃ why, e = .returned (.tuple #[.map none, faultV why])))

set_option maxRecDepth 100000 in
set_option maxHeartbeats 4000000 in
theorem partsByKeys_own (d : Nat) (S : Nat → Prop) (t : Tr (d + 1)) (v : Value) (s : ByteArray) (hs : s.size < 281474976710656) (w : World) (hv : ValAt S w (d + 1) t v) (hS : Within S w) :
    Calls Tryz.prog 55 #[v, .string s] w (MapOQ d t s w) := by
  obtain ⟨k, n, z, ak, lk, ck, al, ll, cl, rfl⟩ := hv.shape
  have hA := below_alloc1 w (.cells #[.int .i64 k, .int .i64 n, .string z, .slice ak lk ck, .slice al ll cl] 26)
  have hAs := hA.size
  go_enter Tryz.func55, Tryz.ntmps55
  go_wp2_with fail
  refine (given_own d S t _ _ (hv.same (hS.same hA)) (hS.later hA.size)).mono ?_
  rintro e w1 ⟨hb1, hq⟩
  have hB := below_trans hA hb1
  clear hb1 hA hv
  rcases hq with ⟨hok, u, rfl, hu, htop⟩ | ⟨hok, why, rfl⟩
  · obtain ⟨T, u', rfl⟩ := hu.iface
    go_wp2_with fail
    refine (textOk_any s w1 hs).mono ?_
    rintro e w2 ⟨rfl, hb2⟩
    have hB2 := below_trans hB hb2
    have hsz := hb2.size
    have HT := hide (htop.moved hb2 hAs)
    clear htop
    have hu2 := hu.moved ((Fresh.within (w.alloc (.cells #[.int .i64 k, .int .i64 n, .string z, .slice ak lk ck, .slice al ll cl] 26)) w1).same hb2) (S' := Fresh w w2) (fun b hb => ⟨by have := hb.1; omega, by have := hb.2; omega⟩)
    clear hu hb2 hB
    cases hstr : strOk s with
    | false =>
      have HB := hide hB2
      clear hu2 hB2
      go_wp2_with fail
      go_ret2
      exact ⟨HB.out, Or.inr ⟨mapL_no (Or.inr hstr), _, rfl⟩⟩
    | true =>
      rcases hu2 with ⟨k', h1, rfl, hT⟩ | ⟨n', h1, rfl, hT⟩ | ⟨s', h1, rfl, hT⟩ | ⟨xs, sv, h1, rfl, hT, hr⟩ | ⟨keys, xs, ps, r, es, h1, h2, h3, h4, rfl, hT, hr, hm, he⟩
      · cases hT
        have a3 := Tryz.asM_B
        go_wp2_with fail
        refine (isNothing_bare k' w2).mono ?_
        rintro e w3 ⟨rfl, hb3⟩
        have hB3 := below_trans hB2 hb3
        clear hb3 hB2
        by_cases hk0 : k' = 0
        · have hkb : (k' == 0) = true := by simpa using hk0
          have hq : Hid (mapL d (Nd.mk k' 0 ByteArray.empty [] [] : Nd (Tr d)) s = some ([], [])) := by
            refine (mapL_ok hok hstr).trans ?_
            show (if k' = 0 then _ else _) = _
            rw [if_pos hk0]
          have hA4 := below_alloc1 w3 (.map #[] 0)
          have HB := hide (below_trans hB3 hA4)
          have HM : Hid (MapO (d := d) w.heap.size (w3.alloc (.map #[] 0)) w3.heap.size #[] [] []) := ⟨by show (0 : Nat) ≤ 60; omega, rfl, rfl, hB3.size, heap_alloc_new _ _, rfl, fun i k x h => by simp at h⟩
          have hmk := fun w => run_makeMap (P := Tryz.prog) 62 w
          clear hk0 hB3 hA4
          go_wp2_with fail
          go_ret2
          exact ⟨HB.out, Or.inl ⟨[], [], _, _, hq.out, rfl, HM.out⟩⟩
        · have hkb : (k' == 0) = false := by simpa using hk0
          have hq : Hid (mapL d (Nd.mk k' 0 ByteArray.empty [] [] : Nd (Tr d)) s = none) := by
            refine (mapL_ok hok hstr).trans ?_
            show (if k' = 0 then _ else if k' = 6 then _ else _) = _
            rw [if_neg hk0, if_neg (by omega)]
          have HB := hide hB3
          clear hk0 hB3
          go_wp2_with fail
          go_ret2
          exact ⟨below_trans HB.out (below_alloc1 _ _), Or.inr ⟨hq.out, _, rfl⟩⟩
      · cases hT
        have a3 := Tryz.asM_N
        have hq : Hid (mapL d (Nd.mk 3 n' ByteArray.empty [] [] : Nd (Tr d)) s = none) := by
          exact (mapL_ok hok hstr).trans rfl
        go_wp2_with fail
        refine (isNothing_num _ w2).mono ?_
        rintro e w3 ⟨rfl, hb3⟩
        have HB := hide (below_trans hB2 hb3)
        clear hb3 hB2
        go_wp2_with fail
        go_ret2
        exact ⟨below_trans HB.out (below_alloc1 _ _), Or.inr ⟨hq.out, _, rfl⟩⟩
      · cases hT
        have a3 := Tryz.asM_S
        have hq : Hid (mapL d (Nd.mk 4 0 s' [] [] : Nd (Tr d)) s = none) := by
          exact (mapL_ok hok hstr).trans rfl
        go_wp2_with fail
        refine (isNothing_str _ w2).mono ?_
        rintro e w3 ⟨rfl, hb3⟩
        have HB := hide (below_trans hB2 hb3)
        clear hb3 hB2
        go_wp2_with fail
        go_ret2
        exact ⟨below_trans HB.out (below_alloc1 _ _), Or.inr ⟨hq.out, _, rfl⟩⟩
      · cases hT
        have a3 := Tryz.asM_R
        have hq : Hid (mapL d (Nd.mk 5 0 ByteArray.empty [] xs : Nd (Tr d)) s = none) := by
          exact (mapL_ok hok hstr).trans rfl
        go_wp2_with fail
        refine (isNothing_row _ w2).mono ?_
        rintro e w3 ⟨rfl, hb3⟩
        have HB := hide (below_trans hB2 hb3)
        clear hb3 hB2
        go_wp2_with fail
        go_ret2
        exact ⟨below_trans HB.out (below_alloc1 _ _), Or.inr ⟨hq.out, _, rfl⟩⟩
      · cases hT
        have a3 := Tryz.asM_M
        have hq : Hid (mapL d (Nd.mk 6 0 ByteArray.empty keys xs : Nd (Tr d)) s = some (keys, xs)) := by
          exact (mapL_ok hok hstr).trans rfl
        go_wp2_with fail
        refine (isNothing_map _ w2).mono ?_
        rintro e w3 ⟨rfl, hb3⟩
        have hA3 := below_alloc1 w3 (.cells #[.map (some r)] 100)
        have hb4 := below_trans hb3 hA3
        have HB := hide (below_trans hB2 hb4)
        have hmv := (Fresh.within w w2).same hb4
        have hsz4 := hb4.size
        have hfr : ∀ b, Fresh w w2 b → Fresh w (w3.alloc (.cells #[.map (some r)] 100)) b := fun b hb => ⟨hb.1, by have := hb.2; omega⟩
        have HM : Hid (∃ es', MapO w.heap.size (w3.alloc (.cells #[.map (some r)] 100)) r es' keys xs) := by
          obtain ⟨r', es', he', q1, q2, q3, q4⟩ := (HT.out.moved hb4 (Nat.le_refl _)).2 rfl
          cases he'
          exact ⟨es', (okT_kinds hok).2.1, h2, h3, q1, q3, mapG_of (okT_map hok) q4⟩
        clear hb3 hB2 hb4 hA3 hmv hfr he hm hr h4 h3 h2
        go_wp2_with fail
        go_ret2
        obtain ⟨es', hm'⟩ := HM.out
        exact ⟨HB.out, Or.inl ⟨keys, xs, r, es', hq.out, rfl, hm'⟩⟩
  · unfold faultV
    go_wp2_with fail
    go_ret2
    exact ⟨hB, Or.inr ⟨mapL_no (Or.inl hok), why, rfl⟩⟩
end Go.Proofs.YtohdpgclokgohaaGreatDoor

/- A map's update; PartPut of the program. -/
namespace Go.Proofs.YtohdpgclokgohaaGreatDoor
open Go.RowKit Go.Deep

theorem mapL_str {d : Nat} {t : Tr (d + 1)} {s : ByteArray} {p : List ByteArray × List (Tr d)} (h : mapL d t s = some p) : strOk s = true := by
  unfold mapL at h
  split at h
  · rename_i hh
    exact hh.2
  · cases h

/-- A tree is put at a key of a map that owns its memory. -/
theorem MapO.put {d N r : Nat} {w : World} {es : Array MapEntry} {keys : List ByteArray} {xs : List (Tr d)} {s : ByteArray} {x : Tr d} {u : Value} {S : Nat → Prop} (h : MapO N w r es keys xs) (hs : strOk s = true) (hu : TreeG S w d x u) (hS : ∀ b, S b → N ≤ b ∧ b < w.heap.size ∧ b ≠ r) :
    ∃ w', (Instr.mapUpdate 62 (.map (some r)) (.string s) u).run Tryz.prog w = .ok () w' ∧ Below N w w' ∧ TreeG (fun b => N ≤ b ∧ b < w'.heap.size) w' (d + 1) (mapT d (putL keys xs s x)) (.iface 100 (.agg #[.map (some r)])) := by
  have hrl := (Array.getElem?_eq_some_iff.1 h.obj).1
  have hsz : ∀ o, (withObj w r o).heap.size = w.heap.size := fun o => by simp [withObj]
  have hlen : (keys.zip xs).length = keys.length := by rw [List.length_zip, ← h.same, Nat.min_self]
  have hput := putL_length keys xs s x
  have hkl := h.same
  have hl60 := h.len
  have hmv : ∀ o y v, TreeG (fun b => N ≤ b ∧ b < w.heap.size ∧ b ≠ r) w d y v → TreeG (fun b => N ≤ b ∧ b < (withObj w r o).heap.size) (withObj w r o) d y v := fun o y v hy =>
    TreeG.moved (fun b hb => withObj_block w r o b hb.2.2) (fun b hb => ⟨hb.1, by rw [hsz]; exact hb.2.1⟩) d y v hy
  have hmu : ∀ o, TreeG (fun b => N ≤ b ∧ b < (withObj w r o).heap.size) (withObj w r o) d x u := fun o =>
    TreeG.moved (fun b hb => withObj_block w r o b (hS b hb).2.2) (fun b hb => ⟨(hS b hb).1, by rw [hsz]; exact (hS b hb).2.1⟩) d x u hu
  have hobj : ∀ o, (withObj w r o).heap[r]? = some o := fun o => by simp [withObj, hrl]
  have hge := h.ge
  by_cases hm : s ∈ keys
  · obtain ⟨j, y, hj, hy, hmin⟩ := key_at hm hkl
    have hzj : (keys.zip xs)[j]? = some (s, y) := List.getElem?_zip_eq_some.2 ⟨hj, hy⟩
    obtain ⟨v, hev, _⟩ := h.ent.2 j s y hzj
    have hjl := (List.getElem?_eq_some_iff.1 hj).1
    have hbefore : ∀ i' e', i' < j → es[i']? = some e' → ∃ k, e'.key = .string k ∧ k ≠ s := fun i' e' hi he => by
      obtain ⟨v', hv', _⟩ := h.ent.2 i' _ _ (List.getElem?_zip_eq_some.2 ⟨List.getElem?_eq_getElem (by omega : i' < keys.length), List.getElem?_eq_getElem (by omega : i' < xs.length)⟩)
      rw [he] at hv'
      cases hv'
      exact ⟨_, rfl, fun e => hmin i' hi (by rw [List.getElem?_eq_getElem (by omega : i' < keys.length), e])⟩
    have hth : putL keys xs s x = (keys.zip xs).set j (s, x) := putL_there (p := none) hkl h.good hj
    refine ⟨_, run_mapSet w r keys.length j es s u v j h.obj hev hbefore, below_withObj _ _ hge, Or.inr (Or.inr (Or.inr (Or.inr ⟨_, _, putL keys xs s x, r, es.modify j fun e => { e with key := .string s, val := u }, ?_, ?_, ?_, ?_, rfl, rfl, ⟨hge, by rw [hsz]; exact hrl⟩, ?_, ?_⟩)))⟩
    · rw [List.length_map]; omega
    · exact putL_keys hs hkl h.good (fun q e => by cases e)
    · rw [List.length_map, List.length_map]
    · rw [zip_unzip]
    · rw [hobj, hth, List.length_set, hlen]
    · rw [hth]
      refine ⟨by rw [Array.size_modify, List.length_set]; exact h.ent.1, fun i k z hi => ?_⟩
      by_cases e : j = i
      · subst e
        rw [List.getElem?_set_self (by omega)] at hi
        cases hi
        exact ⟨u, by simp [Array.getElem?_modify, hev], hmu _⟩
      · rw [List.getElem?_set_ne e] at hi
        obtain ⟨v', hv', ha⟩ := h.ent.2 i k z hi
        exact ⟨v', by rw [Array.getElem?_modify, if_neg e]; exact hv', hmv _ _ _ ha⟩
  · have hmiss := h.ent.miss (s := s) (by rw [zip_fst _ _ hkl]; exact hm)
    have hp := putL_new (x := x) hkl hm
    have hpl := hp.length_eq
    rw [List.length_append, hlen, List.length_singleton] at hpl
    refine ⟨_, run_mapPush w r keys.length es s u h.obj hmiss, below_withObj _ _ hge, Or.inr (Or.inr (Or.inr (Or.inr ⟨_, _, (keys.zip xs) ++ [(s, x)], r, es.push ⟨.string s, u, keys.length⟩, ?_, ?_, ?_, ?_, rfl, rfl, ⟨hge, by rw [hsz]; exact hrl⟩, ?_, ?_⟩)))⟩
    · rw [List.length_map]; omega
    · exact putL_keys hs hkl h.good (fun q e => by cases e)
    · rw [List.length_map, List.length_map]
    · rw [zip_unzip]; exact hp
    · rw [hobj, List.length_append, hlen, List.length_singleton]
    · refine ⟨by rw [Array.size_push, List.length_append, List.length_singleton, h.ent.1], fun i k z hi => ?_⟩
      have hes : es.size = keys.length := h.ent.1.trans hlen
      by_cases e : i < keys.length
      · rw [List.getElem?_append_left (by omega)] at hi
        obtain ⟨v', hv', ha⟩ := h.ent.2 i k z hi
        exact ⟨v', by rw [Array.getElem?_push, if_neg (by omega)]; exact hv', hmv _ _ _ ha⟩
      · have hil := (List.getElem?_eq_some_iff.1 hi).1
        rw [List.length_append, hlen, List.length_singleton] at hil
        obtain rfl : i = keys.length := by omega
        rw [List.getElem?_append_right (by omega), hlen, Nat.sub_self] at hi
        cases hi
        exact ⟨u, by rw [Array.getElem?_push, if_pos hes.symm], hmu _⟩

end Go.Proofs.YtohdpgclokgohaaGreatDoor

/- PartPut of the model. -/
namespace Go.Proofs.YtohdpgclokgohaaGreatDoor
open Go.RowKit Go.Deep

theorem mapL_eq {d : Nat} {t : Tr (d + 1)} {s : ByteArray} (h : okT (d + 1) t = true) (hs : strOk s = true) (hk : Nd.kind t = 0 ∨ Nd.kind t = 6) : mapL d t s = some (Nd.keys t, Nd.list t) ∧ (Nd.keys t).length = (Nd.list t).length ∧ keysB (Nd.keys t) = true := by
  rw [mapL_ok h hs]
  obtain ⟨hf, _⟩ := okT_form h
  obtain ⟨kind, num, str, keys, list⟩ := t
  cases hb : headBad kind num str keys.length list.length 6 with
  | true => rw [formT_bad hb] at hf; cases hf
  | false =>
    obtain ⟨_, _, _, g3, g4⟩ := headBad_iff.1 hb
    rcases hk with h0 | h6
    · have h0 : kind = 0 := h0
      subst h0
      have e1 := List.eq_nil_of_length_eq_zero (g3 (by omega))
      have e2 := List.eq_nil_of_length_eq_zero (g4 (by omega))
      subst e1 e2
      exact ⟨rfl, rfl, rfl⟩
    · have h6 : kind = 6 := h6
      subst h6
      rw [formT_good hb] at hf
      simp at hf
      exact ⟨rfl, hf.1.1, hf.1.2⟩
theorem partPut_not {d : Nat} {t : Tr (d + 2)} {s : ByteArray} {x : Tr (d + 1)} (h : mapL (d + 1) t s = none) : partPutT d t s x = (zeroT (d + 1), false) := by
  unfold partPutT
  rw [h]
theorem partPut_badx {d : Nat} {t : Tr (d + 2)} {s : ByteArray} {x : Tr (d + 1)} (hx : okT (d + 1) x = false) : partPutT d t s x = (zeroT (d + 1), false) := by
  unfold partPutT
  split
  · rfl
  · rw [if_neg (by rw [hx]; simp)]
theorem partPut_does {d : Nat} {t : Tr (d + 2)} {s : ByteArray} {x : Tr (d + 1)} {ks : List ByteArray} {xs : List (Tr (d + 1))} (h : mapL (d + 1) t s = some (ks, xs)) (hx : okT (d + 1) x = true) : partPutT d t s x = (toldT (d + 1) (mapT (d + 1) (putL ks xs s x)), okT (d + 2) (mapT (d + 1) (putL ks xs s x))) := by
  unfold partPutT
  rw [h]
  show (if okT (d + 1) x = true then _ else _) = _
  rw [if_pos hx]
theorem partPut_kind {d : Nat} {t : Tr (d + 2)} {s : ByteArray} {x : Tr (d + 1)} (h : okT (d + 2) t = true) (h0 : Nd.kind t ≠ 0) (h6 : Nd.kind t ≠ 6) : partPutT d t s x = (zeroT (d + 1), false) := by
  cases hs : strOk s with
  | false => exact partPut_not (mapL_no (Or.inr hs))
  | true => exact partPut_not (by rw [mapL_ok h hs, if_neg h0, if_neg h6])
theorem mem_putL {α : Type} {s : ByteArray} {x : α} : ∀ {ks : List ByteArray} {xs : List α} {p : ByteArray × α}, p ∈ putL ks xs s x → p ∈ ks.zip xs ∨ p = (s, x)
  | [], _, p, h => by rw [putL] at h; exact Or.inr (List.mem_singleton.1 h)
  | _ :: _, [], p, h => by rw [putL] at h; exact Or.inr (List.mem_singleton.1 h)
  | k :: ks, y :: ys, p, h => by
    rw [putL] at h
    rw [zip_cons]
    split at h
    · rcases List.mem_cons.1 h with h | h
      · exact Or.inl (by rw [h]; exact List.mem_cons_self ..)
      · rcases mem_putL h with h | h
        · exact Or.inl (List.mem_cons_of_mem _ h)
        · exact Or.inr h
    · split at h
      · rcases List.mem_cons.1 h with h | h
        · exact Or.inr h
        · exact Or.inl (List.mem_cons_of_mem _ h)
      · rcases List.mem_cons.1 h with h | h
        · exact Or.inr h
        · exact Or.inl h
theorem nodes_put {d : Nat} {ks : List ByteArray} {xs : List (Tr (d + 1))} {s : ByteArray} {x : Tr (d + 1)} (hxs : ∀ y ∈ xs, okT (d + 1) y = true) (hx : okT (d + 1) x = true) (hl : ks.length ≤ 1000) : (nodes (d + 2) (mapT (d + 1) (putL ks xs s x)) : Int) ≤ 4194304 := by
  have h1 : ∀ y ∈ (putL ks xs s x).map Prod.snd, nodes (d + 1) y ≤ 300 := fun y hy => by
    obtain ⟨p, hp, rfl⟩ := List.mem_map.1 hy
    rcases mem_putL hp with h | h
    · exact nodes_ok (hxs _ (List.of_mem_zip (show (p.1, p.2) ∈ ks.zip xs from h)).2)
    · rw [h]; exact nodes_ok hx
  have h2 := sum_le_of h1
  have h3 := putL_length ks xs s x
  have h4 : nodes (d + 2) (mapT (d + 1) (putL ks xs s x)) = 1 + (((putL ks xs s x).map Prod.snd).map (nodes (d + 1))).sum := rfl
  rw [List.length_map] at h2
  rw [h4]
  omega

end Go.Proofs.YtohdpgclokgohaaGreatDoor

/- l2Told of the model: a tree in new memory, if it is right : the answer owns its memory. -/
namespace Go.Proofs.YtohdpgclokgohaaGreatDoor
open Go.RowKit Go.Deep

set_option maxRecDepth 100000 in
set_option maxHeartbeats 4000000 in
theorem l2Told_own (d : Nat) (S : Nat → Prop) (t : Tr (d + 1)) (v : Value) (w : World) (hv : ValAt S w (d + 1) t v) (hS : Within S w) (hsm : (nodes (d + 1) t : Int) ≤ 4194304) :
    Calls Tryz.prog 42 #[v] w (TellQ d (toldT d t) (okT (d + 1) t) w) := by
  have hv0 := hv
  obtain ⟨k, n, s, ak, lk, ck, al, ll, cl, rfl⟩ := hv.shape
  obtain ⟨W0, hW⟩ : ∃ W0, W0 = (w.alloc (.cells #[.int .i64 k, .int .i64 n, .string s, .slice ak lk ck, .slice al ll cl] 26)).alloc (.cells #[.int .i64 0, .int .i64 0, .string { data := #[] }, .slice none 0 0, .slice none 0 0] 26) := ⟨_, rfl⟩
  have hW0 : Below w.heap.size w W0 := by rw [hW]; exact below_trans (below_alloc1 _ _) (below_alloc1 _ _)
  have k0 : Blk5 W0 w.heap.size 26 (.int .i64 k) (.int .i64 n) (.string s) (.slice ak lk ck) (.slice al ll cl) := by
    rw [hW]; exact (Blk5.new w 26 _ _ _ _ _).alloc _
  have k1 : Blk5 W0 (w.heap.size + 1) 26 (.int .i64 0) (.int .i64 0) (.string { data := #[] }) (.slice none 0 0) (.slice none 0 0) := by
    have := Blk5.new (w.alloc (.cells #[.int .i64 k, .int .i64 n, .string s, .slice ak lk ck, .slice al ll cl] 26)) 26 (.int .i64 0) (.int .i64 0) (.string { data := #[] }) (.slice none 0 0) (.slice none 0 0)
    rw [World.size_alloc] at this
    rw [hW]
    exact this
  have HW := hide hW
  clear hW hv
  go_enter Tryz.func42, Tryz.ntmps42
  go_wp2_with fail
  rw [← HW.out]
  clear HW
  refine (specValOk_any (d + 1) S t _ W0 (hv0.same (hS.same hW0)) (hS.later hW0.size) hsm).mono ?_
  rintro e w1 ⟨rfl, hb1⟩
  replace k0 := k0.below hb1
  replace k1 := k1.below hb1
  have hB1 := below_trans hW0 hb1
  obtain ⟨x0, x1, x2, x3, x4⟩ := k0.cell
  have hlt := k1.lt
  clear hb1 hW0
  cases hf : okT (d + 1) t with
  | false =>
    have hz : Hid (toldT d t = zeroT d) := by
      show toldT d t = _
      rw [toldT, hf]
      rfl
    have hno : Hid (∀ wF, wF = set5 w1 (w.heap.size + 1) 0 (.int .i64 0) (.int .i64 0) (.string { data := #[] }) (.slice none 0 0) (.slice none 0 0) → Below w.heap.size w wF) := by
      intro wF hF
      rw [hF]
      exact below_set5 hB1 (by omega) _ _ _ _ _ _
    obtain ⟨y0, y1, y2, y3, y4⟩ := k1.cell
    have yf := k1.frozen
    clear k0 k1 hB1 hv0
    go_wp2_with fail
    rw [hz.out, hf]
    refine bodyPost_ret (v := .tuple #[zeroVal, .bool false]) (by simp [results, Tryz.results42, go_sem, zeroVal, y0, y1, y2, y3, y4]; rfl) rfl ⟨_, rfl, zeroVal_own d _ _, hno.out _ rfl⟩
  | true =>
    have hz : Hid (toldT d t = t) := by
      show toldT d t = _
      rw [toldT, hf]
      rfl
    have hwt := wtT_ok hf
    go_wp2_with fail
    refine (l1Copy_any (d + 1) S t _ w1 (hv0.same (hS.same hB1)) (hS.later hB1.size) (by omega)).mono ?_
    rintro e w3 ⟨u, rfl, hu3, hb3⟩
    obtain ⟨u0, u1, u2, u3, u4, u5, u6, u7, u8, rfl⟩ := (ValOwn.at _ _ _ _ hu3).shape
    have HF := hide (tell_end hu3 (below_trans hB1 hb3) (by omega) hlt)
    have k3 := k1.below hb3
    clear hu3 hb3 k1 k0 hv0 x0 x1 x2 x3 x4
    obtain ⟨y0, y1, y2, y3, y4⟩ := k3.cell
    have yf := k3.frozen
    clear k3
    go_wp2_with fail
    rw [hz.out, hf]
    refine bodyPost_ret (v := .tuple #[.agg #[.int .i64 u0, .int .i64 u1, .string u2, .slice u3 u4 u5, .slice u6 u7 u8], .bool true]) (by simp [results, Tryz.results42, go_sem, y0, y1, y2, y3, y4]) rfl ⟨_, rfl, (HF.out _ rfl).1, (HF.out _ rfl).2⟩
end Go.Proofs.YtohdpgclokgohaaGreatDoor

/- PartPut of the model : the answer owns its memory. -/
namespace Go.Proofs.YtohdpgclokgohaaGreatDoor
open Go.RowKit Go.Deep

end Go.Proofs.YtohdpgclokgohaaGreatDoor

/- A row of the model's that is being made out of trees that lie elsewhere. -/
namespace Go.Proofs.YtohdpgclokgohaaGreatDoor
open Go.RowKit Go.Deep

theorem mem_padL {α : Type} {xs : List α} {z y : α} {n : Nat} (h : y ∈ padL xs z n) : y ∈ xs ∨ y = z := by
  unfold padL at h
  rcases List.mem_append.1 h with h | h
  · exact Or.inl h
  · exact Or.inr (List.eq_of_mem_replicate h)
theorem mem_setL {α : Type} {xs : List α} {z x y : α} {k : Nat} (h : y ∈ setL xs z k x) : y ∈ xs ∨ y = z ∨ y = x := by
  unfold setL at h
  rcases List.mem_or_eq_of_mem_set h with h | h
  · rcases mem_padL h with h | h
    · exact Or.inl h
    · exact Or.inr (Or.inl h)
  · exact Or.inr (Or.inr h)

end Go.Proofs.YtohdpgclokgohaaGreatDoor

/- l2Set of the model. -/
namespace Go.Proofs.YtohdpgclokgohaaGreatDoor
open Go.RowKit Go.Deep

/-- What stands while a row is made longer, in a variable's list. -/
structure L2At (d : Nat) (S : Nat → Prop) (N ob : Nat) (W wr : World) (xs : List (Tr (d + 1))) (lv : Value) (ws : List Value) : Prop where
  out : Blk5 wr ob 26 (.int .i64 5) (.int .i64 0) (.string { data := #[] }) (.slice none 0 0) lv
  row : VTo S N wr lv xs ws
  below : Below N W wr
  off : lv.ownBlock ≠ some ob
  ge : N ≤ ob

theorem L2At.step {d N ob : Nat} {S : Nat → Prop} {W wr w2 : World} {xs : List (Tr (d + 1))} {lv lv' : Value} {ws : List Value} {o : Obj} (h : L2At d S N ob W wr xs lv ws) (hS : ∀ b, S b → b < N) (hSw : Within S wr)
    (hown : w2.ownsRow N 26 5 lv' (xs.length + 1) (ws ++ [.int .i64 0, .int .i64 0, .string { data := #[] }, .slice none 0 0, .slice none 0 0])) (hg : (wr.alloc o).grownBy w2 lv.ownBlock) (hw : lv'.ownBlock = lv.ownBlock ∨ lv'.ownBlock = some (wr.alloc o).heap.size) :
    Blk5 w2 ob 26 (.int .i64 5) (.int .i64 0) (.string { data := #[] }) (.slice none 0 0) lv ∧ L2At d S N ob W (w2.setCell ⟨ob, 4, none⟩ lv') (xs ++ [zeroT d]) lv' (ws ++ [.int .i64 0, .int .i64 0, .string { data := #[] }, .slice none 0 0, .slice none 0 0]) := by
  have hol := h.out.lt
  have hge := h.ge
  have hs2 := hg.size
  have hz : (wr.alloc o).heap.size = wr.heap.size + 1 := by simp
  rw [hz] at hw
  have hrow : ∀ g, lv.ownBlock = some g → N ≤ g := fun g hg => (h.row.1.lt g hg).1
  have hblk : ∀ b, b < wr.heap.size → some b ≠ lv.ownBlock → w2.heap[b]? = wr.heap[b]? := fun b hb1 hb2 => (hg.block b (by omega) hb2).trans (Below.heap_alloc _ _ _ hb1)
  have yb : Blk5 w2 ob 26 (.int .i64 5) (.int .i64 0) (.string { data := #[] }) (.slice none 0 0) lv := h.out.of_block (hblk ob hol (fun e => h.off e.symm))
  have hsame : Same S wr w2 := fun b hb => hblk b (hSw b hb) (fun e => by have := hrow b e.symm; have := hS b hb; omega)
  have hoff : lv'.ownBlock ≠ some ob := by
    rcases hw with e | e
    · rw [e]; exact h.off
    · rw [e]; intro e2; cases e2; omega
  refine ⟨yb, yb.set4 _, ?_, ?_, hoff, hge⟩
  · have hz0 : ValAt S wr (d + 1) (zeroT d) (.agg #[.int .i64 0, .int .i64 0, .string { data := #[] }, .slice none 0 0, .slice none 0 0]) := zeroAt d S wr
    refine (h.row.grow hsame hz0 hown).moved (fun b hb => Below.heap_setCell _ _ _ _ (by have := hS b hb; show b ≠ ob; omega)) (fun g hg => Below.heap_setCell _ _ _ _ (fun e => hoff (by rw [hg, e])))
  · have hb := h.below
    refine ⟨hg.os.trans hb.os, hg.tape.trans hb.tape, hg.output.trans hb.output, ?_, fun b hbN => ?_⟩
    · have := hb.size
      simp [World.setCell]
      omega
    · exact (Below.heap_setCell _ _ _ _ (by show b ≠ ob; omega)).trans ((hblk b (by omega) (fun e => by have := hrow b e.symm; omega)).trans (hb.block b hbN))

end Go.Proofs.YtohdpgclokgohaaGreatDoor

/- setTree of the program. -/
namespace Go.Proofs.YtohdpgclokgohaaGreatDoor
open Go.RowKit Go.Deep

/-- What setTree is asked to give. -/
def SetQ (d N : Nat) (xs : List (Tr (d + 1))) (j : Int) (x : Tr (d + 1)) (w : World) (e : Ending) (w' : World) : Prop :=
  Below N w w' ∧ ((0 ≤ j ∧ j < 60 ∧ ∃ u, e = .returned (.tuple #[u, .nilIface]) ∧ TreeG (fun b => N ≤ b ∧ b < w'.heap.size) w' (d + 2) (rowT (d + 1) (setL xs (zeroT d) j.toNat x)) u) ∨ ((j < 0 ∨ 60 ≤ j) ∧ ∃ why, e = .returned (.tuple #[.nilIface, faultV why])))

end Go.Proofs.YtohdpgclokgohaaGreatDoor

/- PartSet of the program. -/
namespace Go.Proofs.YtohdpgclokgohaaGreatDoor
open Go.RowKit Go.Deep

theorem rowL_some {d : Nat} {t : Tr (d + 1)} {xs : List (Tr d)} (h : rowL d t = some xs) : okT (d + 1) t = true ∧ xs.length ≤ 60 ∧ ∀ x ∈ xs, okT d x = true := by
  unfold rowL at h
  split at h
  · rename_i hok
    split at h
    · cases h
      exact ⟨hok, by show (0 : Nat) ≤ 60; omega, fun x hx => by cases hx⟩
    · split at h
      · cases h
        exact ⟨hok, (okT_kinds hok).2.1, fun x hx => okT_part hok hx⟩
      · cases h
  · cases h
theorem partSet_none {d : Nat} {t : Tr (d + 2)} {i : Int} {x : Tr (d + 1)} (h : rowL (d + 1) t = none) : partSetT d t i x = (zeroT (d + 1), false) := by
  unfold partSetT
  rw [h]
theorem partSet_bad {d : Nat} {t : Tr (d + 2)} {i : Int} {x : Tr (d + 1)} {xs : List (Tr (d + 1))} (h : rowL (d + 1) t = some xs) (hx : okT (d + 1) x = false) : partSetT d t i x = (zeroT (d + 1), false) := by
  unfold partSetT
  rw [h]
  show (if _ then _ else _) = _
  rw [if_neg (by rw [hx]; simp)]
theorem partSet_out {d : Nat} {t : Tr (d + 2)} {i j : Int} {x : Tr (d + 1)} {xs : List (Tr (d + 1))} (h : rowL (d + 1) t = some xs) (hj : j = if i < 0 then i + (xs.length : Int) else i) (ho : j < 0 ∨ 60 ≤ j) : partSetT d t i x = (zeroT (d + 1), false) := by
  have hl := (rowL_some h).2.1
  unfold partSetT
  rw [h]
  show (if _ then _ else _) = _
  rw [if_neg (by rintro ⟨_, h1, h2⟩; split at hj <;> omega)]
theorem partSet_in {d : Nat} {t : Tr (d + 2)} {i j : Int} {x : Tr (d + 1)} {xs : List (Tr (d + 1))} (h : rowL (d + 1) t = some xs) (hx : okT (d + 1) x = true) (hj : j = if i < 0 then i + (xs.length : Int) else i) (h0 : 0 ≤ j) (h1 : j < 60) :
    partSetT d t i x = (toldT (d + 1) (rowT (d + 1) (setL xs (zeroT d) j.toNat x)), okT (d + 2) (rowT (d + 1) (setL xs (zeroT d) j.toNat x))) := by
  have hl := (rowL_some h).2.1
  unfold partSetT
  rw [h]
  show (if _ then _ else _) = _
  rw [if_pos ⟨hx, by split at hj <;> omega, by split at hj <;> omega⟩, ← hj]

theorem ErrType.of_block0 {w w' : World} (h : ErrType w) (e : w'.heap[0]? = w.heap[0]?) : ErrType w' := (World.cell?_of_block (w := w) e).trans h
theorem GTo.moved {d N : Nat} {w w' : World} {sv : Value} {xs : List (Tr d)} {vs : List Value} (h : GTo N w sv xs vs) (hb : Below w.heap.size w w') : GTo N w' sv xs vs := by
  obtain ⟨h1, h2⟩ := h
  have hz := hb.size
  refine ⟨⟨h1.1, ?_⟩, fun j x u hx hu => TreeG.moved (fun b hb' => hb.block b hb'.2.1) (fun b hb' => ⟨hb'.1, by have := hb'.2.1; omega, hb'.2.2⟩) d x u (h2 j x u hx hu)⟩
  rcases h1.2 with h | ⟨g, cap, cur, hv, hg, hh, hrest⟩
  · exact Or.inl h
  · exact Or.inr ⟨g, cap, cur, hv, hg, (hb.block g (Array.getElem?_eq_some_iff.1 hh).1).trans hh, hrest⟩

end Go.Proofs.YtohdpgclokgohaaGreatDoor
