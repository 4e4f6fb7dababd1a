/- PartLen of the model and of the program. -/
import Derived.Test.YtchekmjdmjhniaaGreatDoorWGiven
import Derived.Test.YtchekmjdmjhniaaGreatDoorWMany
namespace Go.Proofs.YtchekmjdmjhniaaGreatDoor
open Go.RowKit Go.Deep

/-- A number as a tree. -/
def numT (d : Nat) (n : Int) : Tr (d + 1) := (Nd.mk 3 n ByteArray.empty [] [] : Nd (Tr d))
/-- How long a tree is. -/
def lenT (d : Nat) (t : Tr (d + 1)) : Option Int :=
  if Nd.kind t = 0 then some 0 else if Nd.kind t = 3 then some (max (Nd.num t) (-(Nd.num t))) else if Nd.kind t = 4 then some (Nd.str t).size
  else if Nd.kind t = 5 ∨ Nd.kind t = 6 then some (Nd.list t).length else none
def partLenT (d : Nat) (t : Tr (d + 1)) : Tr (d + 1) × Bool := if okT (d + 1) t = true then (match lenT d t with | some n => (numT d n, true) | none => (zeroT d, false)) else (zeroT d, false)

theorem okT_num (d : Nat) (n : Int) (h : -1000000 ≤ n ∧ n ≤ 1000000) : okT (d + 1) (numT d n) = true := by
  have hb : headBad 3 n ByteArray.empty ([] : List ByteArray).length ([] : List (Tr d)).length 6 = false := headBad_iff.2 ⟨by omega, fun h => absurd rfl h, fun _ => empty_toList, fun _ => rfl, fun _ => rfl⟩
  have h1 : formT (d + 1) (numT d n) 6 = true := by
    show formT (d + 1) (Nd.mk 3 n ByteArray.empty [] [] : Nd (Tr d)) 6 = true
    rw [formT_good hb]
    simp [h]
  have h2 : manyT (d + 1) (numT d n) 6 = 1 := rfl
  simp only [okT, h1, h2]
  rfl

/-- What a tree that is ok can be. -/
theorem okT_kinds {d : Nat} {t : Tr (d + 1)} (h : okT (d + 1) t = true) :
    (Nd.kind t = 0 ∨ Nd.kind t = 1 ∨ Nd.kind t = 2 ∨ (Nd.kind t = 3 ∧ -1000000 ≤ Nd.num t ∧ Nd.num t ≤ 1000000) ∨ (Nd.kind t = 4 ∧ (Nd.str t).size ≤ 12) ∨ Nd.kind t = 5 ∨ Nd.kind t = 6) ∧ (Nd.list t).length ≤ 60 ∧ (Nd.kind t ≠ 3 → Nd.num t = 0) := by
  obtain ⟨hf, hm⟩ := okT_form h
  obtain ⟨kind, num, str, keys, list⟩ := t
  cases hb : headBad kind num str keys.length list.length 6 with
  | true => rw [formT_bad hb] at hf; cases hf
  | false =>
    rw [formT_good hb] at hf
    obtain ⟨_, g1, _, _, _⟩ := headBad_iff.1 hb
    have hmany : manyT (d + 1) (Nd.mk kind num str keys list) 6 = 1 + (if (0 : Int) < 6 then (list.map (fun x => manyT d x (6 - 1))).sum else 0) := rfl
    rw [hmany, if_pos (by omega)] at hm
    have hll := len_le_many (d := d) (deep := 6 - 1) list
    refine ⟨?_, by show list.length ≤ 60; omega, g1⟩
    show kind = 0 ∨ kind = 1 ∨ kind = 2 ∨ (kind = 3 ∧ -1000000 ≤ num ∧ num ≤ 1000000) ∨ (kind = 4 ∧ str.size ≤ 12) ∨ kind = 5 ∨ kind = 6
    by_cases k0 : kind = 0 ∨ kind = 1 ∨ kind = 2
    · omega
    rw [if_neg k0] at hf
    by_cases k3 : kind = 3
    · rw [if_pos k3, decide_eq_true_eq] at hf
      omega
    rw [if_neg k3] at hf
    by_cases k4 : kind = 4
    · rw [if_pos k4] at hf
      have := strOk_size hf
      omega
    rw [if_neg k4] at hf
    by_cases k6 : kind = 6
    · omega
    rw [if_neg k6] at hf
    by_cases k5 : kind = 5
    · omega
    rw [if_neg k5] at hf
    cases hf

theorem numTree_at (d : Nat) (n : Int) (hn : I64 n) (S : Nat → Prop) (w : World) : TreeG S w (d + 1) (numT d n) (.iface 94 (.agg #[.int .i64 n])) := Or.inr (Or.inl ⟨n, hn, rfl, rfl⟩)

/-- How many entries a map has. -/
theorem run_len_map (w : World) (r clock : Nat) (es : Array MapEntry) (ty : TypeId) (hb : w.heap[r]? = some (.map es clock)) :
    (Builtin.len_ #[53] ty #[.map (some r)]).run Tryz.prog w = .ok (.int .i64 es.size) w := by
  simp [Builtin.len_, run_underlying Tryz.underlying53, getObj, Sem.run, hb, goInt]

/-- What lengthOf is asked to give. -/
def LenQ (d : Nat) (t : Tr (d + 1)) (w : World) (e : Ending) (w' : World) : Prop :=
  Below w.heap.size w w' ∧ (if okT (d + 1) t = true then (match lenT d t with
    | some n => e = .returned (.tuple #[.iface 94 (.agg #[.int .i64 n]), .nilIface])
    | none => ∃ why, e = .returned (.tuple #[.nilIface, faultV why])) else ∃ why, e = .returned (.tuple #[.nilIface, faultV why]))

set_option maxRecDepth 100000 in
set_option maxHeartbeats 4000000 in
theorem lengthOf_any (d : Nat) (S : Nat → Prop) (t : Tr (d + 1)) (v : Value) (w : World) (hv : ValAt S w (d + 1) t v) (hS : Within S w) :
    Calls Tryz.prog 47 #[v] w (LenQ d t w) := by
  obtain ⟨k, n, s, ak, lk, ck, al, ll, cl, rfl⟩ := hv.shape
  have hA := below_alloc1 w (.cells #[.int .i64 k, .int .i64 n, .string s, .slice ak lk ck, .slice al ll cl] 29)
  go_enter Tryz.func47, Tryz.ntmps47
  go_wp2_with fail
  refine (given_any (d + 1) S t _ _ (hv.same (hS.same hA)) (hS.later hA.size)).mono ?_
  rintro e w1 ⟨hb1, hq⟩
  have hB := below_trans hA hb1
  clear hb1 hA hv
  rcases hq with ⟨hok, u, rfl, hu⟩ | ⟨hok, why, rfl⟩
  · obtain ⟨hkinds, hll, _⟩ := okT_kinds hok
    have HK := hide hkinds
    clear hkinds
    rcases hu with ⟨k', h1, rfl, rfl⟩ | ⟨n', h1, rfl, rfl⟩ | ⟨s', h1, rfl, rfl⟩ | ⟨xs, sv, h1, rfl, rfl, hr⟩ | ⟨keys, xs, ps, r, es, h1, h2, h3, h4, rfl, rfl, hr, hm, he⟩
    · have a1 := Tryz.asN_B
      have a2 := Tryz.asS_B
      have a3 := Tryz.asR_B
      have a4 := Tryz.asM_B
      go_wp2_with fail
      refine (isNothing_bare k' w1).mono ?_
      rintro e w2 ⟨rfl, hb2⟩
      have HB2 := hide (below_trans hB hb2)
      clear hb2 hB
      by_cases hk0 : k' = 0
      · have hkb : (k' == 0) = true := by simpa using hk0
        have hq : Hid (lenT d (Nd.mk k' 0 ByteArray.empty [] [] : Nd (Tr d)) = some 0) := by
          show (if k' = 0 then _ else _) = _
          rw [if_pos hk0]
        clear hk0
        go_wp2_with fail
        go_ret2
        refine ⟨HB2.out, ?_⟩
        rw [if_pos hok, hq.out]
        exact rfl
      · have hkb : (k' == 0) = false := by simpa using hk0
        have hq : Hid (lenT d (Nd.mk k' 0 ByteArray.empty [] [] : Nd (Tr d)) = none) := by
          show (if k' = 0 then _ else if k' = 3 then _ else if k' = 4 then _ else if k' = 5 ∨ k' = 6 then _ else _) = _
          rw [if_neg hk0, if_neg (by omega), if_neg (by omega), if_neg (by omega)]
        clear hk0
        go_wp2_with fail
        go_ret2
        refine ⟨HB2.out, ?_⟩
        rw [if_pos hok, hq.out]
        exact ⟨_, rfl⟩
    · have a1 := Tryz.asN_N
      have hn : -1000000 ≤ n' ∧ n' ≤ 1000000 := by
        have h0 : (3 : Int) = 0 ∨ (3 : Int) = 1 ∨ (3 : Int) = 2 ∨ ((3 : Int) = 3 ∧ -1000000 ≤ n' ∧ n' ≤ 1000000) ∨ ((3 : Int) = 4 ∧ ByteArray.empty.size ≤ 12) ∨ (3 : Int) = 5 ∨ (3 : Int) = 6 := HK.out
        omega
      have hq : Hid (lenT d (Nd.mk 3 n' ByteArray.empty [] [] : Nd (Tr d)) = some (max n' (-n'))) := rfl
      have HB := hide (below_trans hB (below_alloc1 w1 (.cells #[.int .i64 n'] 94)))
      have h2 := hn.1
      have h3 := hn.2
      clear hB hn
      go_wp2_with fail
      go_ret2
      refine ⟨HB.out, ?_⟩
      rw [if_pos hok, hq.out]
      exact rfl
    · have a1 := Tryz.asN_S
      have a2 := Tryz.asS_S
      have hq : Hid (lenT d (Nd.mk 4 0 s' [] [] : Nd (Tr d)) = some (s'.size : Int)) := rfl
      have HB := hide (below_trans hB (below_alloc1 w1 (.cells #[.string s'] 96)))
      clear hB
      go_wp2_with fail
      go_ret2
      refine ⟨HB.out, ?_⟩
      rw [if_pos hok, hq.out]
      exact rfl
    · have a1 := Tryz.asN_R
      have a2 := Tryz.asS_R
      have a3 := Tryz.asR_R
      obtain ⟨sa, sc, rfl, _⟩ := hr.open'
      have hq : Hid (lenT d (Nd.mk 5 0 ByteArray.empty [] xs : Nd (Tr d)) = some (xs.length : Int)) := rfl
      have HB := hide (below_trans hB (below_alloc1 w1 (.cells #[.slice sa xs.length sc] 91)))
      clear hB hr
      go_wp2_with fail
      go_ret2
      refine ⟨HB.out, ?_⟩
      rw [if_pos hok, hq.out]
      exact rfl
    · have a1 := Tryz.asN_M
      have a2 := Tryz.asS_M
      have a3 := Tryz.asR_M
      have a4 := Tryz.asM_M
      have hq : Hid (lenT d (Nd.mk 6 0 ByteArray.empty keys xs : Nd (Tr d)) = some (xs.length : Int)) := rfl
      have HB := hide (below_trans hB (below_alloc1 w1 (.cells #[.map (some r)] 77)))
      have hes : es.size = xs.length := by rw [he.1, h4.length_eq, List.length_zip, h3, Nat.min_self]
      have hlen := run_len_map (w1.alloc (.cells #[.map (some r)] 77)) r ps.length es 3 ((Below.heap_alloc _ _ _ hr.2).trans hm)
      rw [hes] at hlen
      clear hB hes he hm h4 h3 h2
      go_wp2_with fail
      go_ret2
      refine ⟨HB.out, ?_⟩
      rw [if_pos hok, hq.out]
      exact rfl
  · unfold faultV
    go_wp2_with fail
    go_ret2
    refine ⟨hB, ?_⟩
    rw [if_neg (by rw [hok]; simp)]
    exact ⟨why, rfl⟩

/-- What was told is put into the result's own cells. -/
theorem tell_end {d : Nat} {t : Tr (d + 1)} {w w1 w2 : World} {v0 v1 : Int} {v2 : ByteArray} {v3 v6 : Option Addr} {v4 v5 v7 v8 rb : Nat} (hv : ValOwn w2 (d + 1) (Fresh w1 w2) t (.agg #[.int .i64 v0, .int .i64 v1, .string v2, .slice v3 v4 v5, .slice v6 v7 v8])) (hb : Below w.heap.size w w2)
    (hr : w.heap.size ≤ rb) (hr1 : rb < w1.heap.size) :
    ∀ wF, wF = set5 w2 rb 0 (.int .i64 v0) (.int .i64 v1) (.string v2) (.slice v3 v4 v5) (.slice v6 v7 v8) → ValOwn wF (d + 1) (Fresh w wF) t (.agg #[.int .i64 v0, .int .i64 v1, .string v2, .slice v3 v4 v5, .slice v6 v7 v8]) ∧ Below w.heap.size w wF := by
  intro wF hF
  have hzF : wF.heap.size = w2.heap.size := by rw [hF, set5_size]
  refine ⟨ValOwn.moved (d + 1) (Fresh w1 w2) _ t _ hv (fun b hb => ?_) (fun b hb => ⟨by have := hb.1; omega, by have := hb.2; omega⟩), ?_⟩
  · rw [hF, set5_block _ _ _ _ _ _ _ _ _ (by have := hb.1; omega)]
  · rw [hF]
    exact below_set5 hb hr _ _ _ _ _ _

theorem lenT_bd {d : Nat} {t : Tr (d + 1)} (h : okT (d + 1) t = true) {n : Int} (hn : lenT d t = some n) : -1000000 ≤ n ∧ n ≤ 1000000 := by
  obtain ⟨hk, hl, _⟩ := okT_kinds h
  unfold lenT at hn
  split at hn
  · cases hn; omega
  split at hn
  · cases hn; omega
  split at hn
  · cases hn; omega
  split at hn
  · cases hn; omega
  · cases hn

set_option maxRecDepth 100000 in
set_option maxHeartbeats 4000000 in
theorem implPartLen_any (d : Nat) (S : Nat → Prop) (t : Tr (d + 1)) (v : Value) (w : World) (hv : ValAt S w (d + 1) t v) (hS : Within S w) (hg : ErrType w) :
    Calls Tryz.prog 19 #[v] w (TellQ d (partLenT d t).1 (partLenT d t).2 w) := by
  obtain ⟨k, n, s, ak, lk, ck, al, ll, cl, rfl⟩ := hv.shape
  obtain ⟨W0, hW⟩ : ∃ W0, W0 = (w.alloc (.cells #[.int .i64 k, .int .i64 n, .string s, .slice ak lk ck, .slice al ll cl] 29)).alloc (.cells #[.int .i64 0, .int .i64 0, .string { data := #[] }, .slice none 0 0, .slice none 0 0] 29) := ⟨_, rfl⟩
  have hW0 : Below w.heap.size w W0 := by rw [hW]; exact below_trans (below_alloc1 _ _) (below_alloc1 _ _)
  have k1 : Blk5 W0 (w.heap.size + 1) 29 (.int .i64 0) (.int .i64 0) (.string { data := #[] }) (.slice none 0 0) (.slice none 0 0) := by
    have := Blk5.new (w.alloc (.cells #[.int .i64 k, .int .i64 n, .string s, .slice ak lk ck, .slice al ll cl] 29)) 29 (.int .i64 0) (.int .i64 0) (.string { data := #[] }) (.slice none 0 0) (.slice none 0 0)
    rw [World.size_alloc] at this
    rw [hW]
    exact this
  have HW := hide hW
  clear hW
  go_enter Tryz.func19, Tryz.ntmps19
  go_wp2_with fail
  rw [← HW.out]
  clear HW
  refine (lengthOf_any d S t _ W0 (hv.same (hS.same hW0)) (hS.later hW0.size)).mono ?_
  rintro e w1 ⟨hb1, hq⟩
  have hB1 := below_trans hW0 hb1
  have k2 := k1.below hb1
  have hg1 := hg.below hB1
  have hlt := k2.lt
  -- what is told, however it is
  have hfin : ∀ (x : Tr (d + 1)) (ok : Bool), Hid (∀ e w2, TellQ d x ok w1 e w2 → ∃ v0 v1 v2 v3 v4 v5 v6 v7 v8, e = .returned (.tuple #[.agg #[.int .i64 v0, .int .i64 v1, .string v2, .slice v3 v4 v5, .slice v6 v7 v8], .bool ok]) ∧
      Blk5 w2 (w.heap.size + 1) 29 (.int .i64 0) (.int .i64 0) (.string { data := #[] }) (.slice none 0 0) (.slice none 0 0) ∧
      ∀ wF, wF = set5 w2 (w.heap.size + 1) 0 (.int .i64 v0) (.int .i64 v1) (.string v2) (.slice v3 v4 v5) (.slice v6 v7 v8) → ValOwn wF (d + 1) (Fresh w wF) x (.agg #[.int .i64 v0, .int .i64 v1, .string v2, .slice v3 v4 v5, .slice v6 v7 v8]) ∧ Below w.heap.size w wF) := fun x ok => by
    intro e w2 ⟨v, he, hv, hb2⟩
    obtain ⟨v0, v1, v2, v3, v4, v5, v6, v7, v8, rfl⟩ := (ValOwn.at _ _ _ _ hv).shape
    exact ⟨v0, v1, v2, v3, v4, v5, v6, v7, v8, he, k2.below hb2, tell_end hv (below_trans hB1 hb2) (by omega) hlt⟩
  clear hv hW0 hb1 k1 k2
  have hres : Hid (okT (d + 1) t = true → ∀ n, lenT d t = some n → partLenT d t = (toldT d (numT d n), okT (d + 1) (numT d n))) := fun h n hn => by
    have hb := lenT_bd h hn
    rw [partLenT, if_pos h, hn, okT_num d n hb, toldT, if_pos (okT_num d n hb)]
  have hres2 : Hid (okT (d + 1) t = true → lenT d t = none → partLenT d t = (zeroT d, false)) := fun h hn => by rw [partLenT, if_pos h, hn]
  have hres3 : Hid (okT (d + 1) t = false → partLenT d t = (zeroT d, false)) := fun h => by rw [partLenT, if_neg (by rw [h]; simp)]
  have key : (∃ n, okT (d + 1) t = true ∧ lenT d t = some n ∧ e = .returned (.tuple #[.iface 94 (.agg #[.int .i64 n]), .nilIface])) ∨ (partLenT d t = (zeroT d, false) ∧ ∃ why, e = .returned (.tuple #[.nilIface, faultV why])) := by
    cases hok : okT (d + 1) t with
    | false =>
      rw [if_neg (by rw [hok]; simp)] at hq
      exact Or.inr ⟨hres3.out hok, hq⟩
    | true =>
      rw [if_pos hok] at hq
      cases hl : lenT d t with
      | none =>
        rw [hl] at hq
        exact Or.inr ⟨hres2.out hok hl, hq⟩
      | some n =>
        rw [hl] at hq
        exact Or.inl ⟨n, rfl, rfl, hq⟩
  clear hq
  rcases key with ⟨n', hok, hln, rfl⟩ | ⟨hz, why, rfl⟩
  · have hbd := lenT_bd hok hln
    have HR := hide (hres.out hok n' hln)
    have hcall := hide (told_tree d (fun _ => False) (numT d n') (.iface 94 (.agg #[.int .i64 n'])) w1 (numTree_at d n' ⟨by omega, by omega⟩ _ _) (fun _ h => h.elim))
    clear hres hres2 hres3 hok hln hbd
    go_wp2_with fail
    refine Calls.mono hcall.out ?_
    intro e w2 hq
    obtain ⟨v0, v1, v2, v3, v4, v5, v6, v7, v8, rfl, k3, hF⟩ := (hfin _ _).out e w2 hq
    have HF := hide hF
    obtain ⟨y0, y1, y2, y3, y4⟩ := k3.cell
    have yf := k3.frozen
    clear hF hq hfin hcall k3
    go_wp2_with fail
    refine bodyPost_ret (v := .tuple #[.agg #[.int .i64 v0, .int .i64 v1, .string v2, .slice v3 v4 v5, .slice v6 v7 v8], .bool (okT (d + 1) (numT d n'))]) (by simp [results, Tryz.results19, go_sem, y0, y1, y2, y3, y4]) rfl ⟨_, by rw [HR.out], by rw [HR.out]; exact (HF.out _ rfl).1, (HF.out _ rfl).2⟩
  · have HR := hide hz
    have hcall := hide (told_fault d .nilIface why w1 hg1)
    unfold faultV
    clear hres hres2 hres3 hz
    go_wp2_with fail
    refine Calls.mono hcall.out ?_
    intro e w2 hq
    obtain ⟨v0, v1, v2, v3, v4, v5, v6, v7, v8, rfl, k3, hF⟩ := (hfin _ _).out e w2 hq
    have HF := hide hF
    obtain ⟨y0, y1, y2, y3, y4⟩ := k3.cell
    have yf := k3.frozen
    clear hF hq hfin hcall k3
    go_wp2_with fail
    refine bodyPost_ret (v := .tuple #[.agg #[.int .i64 v0, .int .i64 v1, .string v2, .slice v3 v4 v5, .slice v6 v7 v8], .bool false]) (by simp [results, Tryz.results19, go_sem, y0, y1, y2, y3, y4]) rfl ⟨_, by rw [HR.out], by rw [HR.out]; exact (HF.out _ rfl).1, (HF.out _ rfl).2⟩
end Go.Proofs.YtchekmjdmjhniaaGreatDoor
