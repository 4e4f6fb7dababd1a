/- treesInRow: the trees of a row, in memory of their own. -/
import Derived.Test.YtbcafaomfaainaaGreatDoorWGTo
import Derived.Test.YtbcafaomfaainaaGreatDoorWAssert
import Derived.Test.YtbcafaomfaainaaGreatDoorWVTo
import Derived.Test.YtbcafaomfaainaaGreatDoorMKa
import Derived.Test.YtbcafaomfaainaaGreatDoorWLook
import Derived.Test.YtbcafaomfaainaaGreatDoorWImplB
import Derived.Test.YtbcafaomfaainaaGreatDoorWPutL
import Derived.Test.YtbcafaomfaainaaGreatDoorWTold
import Derived.Test.YtbcafaomfaainaaGreatDoorWOwn
import Derived.Test.YtbcafaomfaainaaGreatDoorWHeld
import Derived.Test.YtbcafaomfaainaaGreatDoorBase
import Derived.Test.YtbcafaomfaainaaGreatDoorRows
import Derived.Deep.Slices
import Derived.Deep.Strs
import Derived.SizedLaws
import Derived.OpenShut
import Derived.Lib.SmallJoins
import Derived.Carry
import Derived.ChangeSame
import Derived.ChangeVars
import Derived.JoinedOf
import Derived.RowKit
import Derived.RowKitTokens
import Derived.LaidLaws
import Derived.LaidHandle
import Derived.Stop.Joined
import Derived.Test.YtbcafaomfaainaaGreatDoorWPartP
namespace Go.Proofs.YtbcafaomfaainaaGreatDoor
open Go.RowKit Go.Deep

/-- The trees of a row that is ok. -/
def treesL (d : Nat) (t : Tr (d + 1)) : Option (List (Tr d)) := if okT (d + 1) t = true then (if Nd.kind t = 5 then some (Nd.list t) else none) else none
theorem treesL_ok {d : Nat} {t : Tr (d + 1)} (h : okT (d + 1) t = true) : treesL d t = (if Nd.kind t = 5 then some (Nd.list t) else none) := if_pos h
theorem treesL_some {d : Nat} {t : Tr (d + 1)} {xs : List (Tr d)} (h : treesL d t = some xs) : okT (d + 1) t = true ∧ Nd.kind t = 5 ∧ Nd.list t = xs := by
  unfold treesL at h
  split at h
  · split at h
    · exact ⟨‹_›, ‹_›, by cases h; rfl⟩
    · cases h
  · cases h

/-- What treesInRow is asked to give. -/
def TreesOQ (d : Nat) (t : Tr (d + 1)) (w : World) (e : Ending) (w' : World) : Prop :=
  Below w.heap.size w w' ∧ ((∃ xs a cap vs, treesL d t = some xs ∧ e = .returned (.tuple #[.slice a xs.length cap, .nilIface]) ∧ GTo w.heap.size w' (.slice a xs.length cap) xs vs) ∨ (treesL d t = none ∧ ∃ why, e = .returned (.tuple #[.slice none 0 0, faultV why])))

set_option maxRecDepth 100000 in
set_option maxHeartbeats 4000000 in
theorem treesInRow_own (d : Nat) (S : Nat → Prop) (t : Tr (d + 1)) (v : Value) (w : World) (hv : ValAt S w (d + 1) t v) (hS : Within S w) :
    Calls Tryz.prog 28 #[v] w (TreesOQ d t w) := by
  obtain ⟨k, n, s, ak, lk, ck, al, ll, cl, rfl⟩ := hv.shape
  have hA := below_alloc1 w (.cells #[.int .i64 k, .int .i64 n, .string s, .slice ak lk ck, .slice al ll cl] 29)
  have hAs := hA.size
  go_enter Tryz.func28, Tryz.ntmps28
  go_wp2_with fail
  refine (given_own d S t _ _ (hv.same (hS.same hA)) (hS.later hA.size)).mono ?_
  rintro e w1 ⟨hb1, hq⟩
  have hB := below_trans hA hb1
  clear hb1 hA hv
  rcases hq with ⟨hok, u, rfl, hu, htop⟩ | ⟨hok, why, rfl⟩
  · rcases hu with ⟨k', h1, rfl, rfl⟩ | ⟨n', h1, rfl, rfl⟩ | ⟨s', h1, rfl, rfl⟩ | ⟨xs, sv, h1, rfl, rfl, hr⟩ | ⟨keys, xs, ps, r, es, h1, h2, h3, h4, rfl, rfl, hr, hm, he⟩
    · have a3 := Tryz.asR_B
      have hq : Hid (treesL d (Nd.mk k' 0 ByteArray.empty [] [] : Nd (Tr d)) = none) := by
        refine (treesL_ok hok).trans ?_
        show (if k' = 5 then _ else _) = _
        rw [if_neg (by omega)]
      have HB := hide hB
      clear hB htop
      go_wp2_with fail
      go_ret2
      exact ⟨below_trans HB.out (below_alloc1 _ _), Or.inr ⟨hq.out, _, rfl⟩⟩
    · have a3 := Tryz.asR_N
      have hq : Hid (treesL d (Nd.mk 3 n' ByteArray.empty [] [] : Nd (Tr d)) = none) := by
        exact (treesL_ok hok).trans rfl
      have HB := hide hB
      clear hB htop
      go_wp2_with fail
      go_ret2
      exact ⟨below_trans HB.out (below_alloc1 _ _), Or.inr ⟨hq.out, _, rfl⟩⟩
    · have a3 := Tryz.asR_S
      have hq : Hid (treesL d (Nd.mk 4 0 s' [] [] : Nd (Tr d)) = none) := by
        exact (treesL_ok hok).trans rfl
      have HB := hide hB
      clear hB htop
      go_wp2_with fail
      go_ret2
      exact ⟨below_trans HB.out (below_alloc1 _ _), Or.inr ⟨hq.out, _, rfl⟩⟩
    · have a3 := Tryz.asR_R
      obtain ⟨sa, sc, rfl, _⟩ := hr.open'
      have hq : Hid (treesL d (Nd.mk 5 0 ByteArray.empty [] xs : Nd (Tr d)) = some xs) := by
        exact (treesL_ok hok).trans rfl
      have hA2 := below_alloc1 w1 (.cells #[.slice sa xs.length sc] 66)
      have HB2 := hide (below_trans hB hA2)
      have hsz := hA2.size
      have HR : Hid (∃ vs, GTo w.heap.size (w1.alloc (.cells #[.slice sa xs.length sc] 66)) (.slice sa xs.length sc) xs vs) := by
        obtain ⟨sv', vs, he, hto⟩ := htop.1 rfl
        cases he
        exact ⟨vs, (gto_of (hto.moved hA2 (by omega)) (okT_row hok))⟩
      clear hB hA2 hr htop
      go_wp2_with fail
      go_ret2
      obtain ⟨vs, hvs⟩ := HR.out
      exact ⟨HB2.out, Or.inl ⟨xs, sa, sc, vs, hq.out, rfl, hvs⟩⟩
    · have a3 := Tryz.asR_M
      have hq : Hid (treesL d (Nd.mk 6 0 ByteArray.empty keys xs : Nd (Tr d)) = none) := by
        exact (treesL_ok hok).trans rfl
      have HB := hide hB
      clear hB htop he hm hr h4 h3 h2
      go_wp2_with fail
      go_ret2
      exact ⟨below_trans HB.out (below_alloc1 _ _), Or.inr ⟨hq.out, _, rfl⟩⟩
  · unfold faultV
    go_wp2_with fail
    go_ret2
    refine ⟨hB, Or.inr ⟨?_, why, rfl⟩⟩
    rw [treesL, if_neg (by rw [hok]; simp)]

end Go.Proofs.YtbcafaomfaainaaGreatDoor

/- Rows of trees: what is told of the trees of a row. -/
namespace Go.Proofs.YtbcafaomfaainaaGreatDoor
open Go.RowKit Go.Deep

/-- What is told of a row, f being what is told of its trees. -/
def rowTell {d e : Nat} (f : List (Tr d) → Option (Tr (e + 1))) (t : Tr (d + 1)) : Tr (e + 1) × Bool :=
  match treesL d t with
  | none => (zeroT e, false)
  | some xs =>
    match f xs with
    | none => (zeroT e, false)
    | some x => (toldT e x, okT (e + 1) x)
theorem okT_rowTell {d e : Nat} (f : List (Tr d) → Option (Tr (e + 1))) (t : Tr (d + 1)) : okT (e + 1) (rowTell f t).1 = true := by
  unfold rowTell
  split
  · exact okT_zero _
  · split
    · exact okT_zero _
    · exact okT_told _ _
theorem rowTell_none {d e : Nat} {f : List (Tr d) → Option (Tr (e + 1))} {t : Tr (d + 1)} (h : treesL d t = none) : rowTell f t = (zeroT e, false) := by
  unfold rowTell
  rw [h]
theorem rowTell_fault {d e : Nat} {f : List (Tr d) → Option (Tr (e + 1))} {t : Tr (d + 1)} {xs : List (Tr d)} (h : treesL d t = some xs) (hf : f xs = none) : rowTell f t = (zeroT e, false) := by
  unfold rowTell
  rw [h]
  show (match f xs with | none => _ | some x => _) = _
  rw [hf]
theorem rowTell_some {d e : Nat} {f : List (Tr d) → Option (Tr (e + 1))} {t : Tr (d + 1)} {xs : List (Tr d)} {x : Tr (e + 1)} (h : treesL d t = some xs) (hf : f xs = some x) : rowTell f t = (toldT e x, okT (e + 1) x) := by
  unfold rowTell
  rw [h]
  show (match f xs with | none => _ | some x => _) = _
  rw [hf]
/-- Rows of trees that are ok are small. -/
theorem nodes_row {d : Nat} {xs : List (Tr d)} (hxs : ∀ x ∈ xs, okT d x = true) (hl : xs.length ≤ 10000) : (nodes (d + 1) (rowT d xs) : Int) ≤ 4194304 := by
  have h1 : (xs.map (nodes d)).sum ≤ 300 * xs.length := sum_le_of (fun x hx => nodes_ok (hxs x hx))
  have h2 : nodes (d + 1) (rowT d xs) = 1 + (xs.map (nodes d)).sum := rfl
  rw [h2]
  omega
/-- What a function that tells of the trees of a row is asked to give. -/
def TellF (e N : Nat) (r : Option (Tr (e + 1))) (w : World) (en : Ending) (w' : World) : Prop :=
  Below N w w' ∧ ((∃ x u, r = some x ∧ en = .returned (.tuple #[u, .nilIface]) ∧ TreeG (fun b => N ≤ b ∧ b < w'.heap.size) w' (e + 1) x u) ∨ (r = none ∧ ∃ why, en = .returned (.tuple #[.nilIface, faultV why])))

end Go.Proofs.YtbcafaomfaainaaGreatDoor

/- l2Told of the model: a tree in new memory, if it is right. -/
namespace Go.Proofs.YtbcafaomfaainaaGreatDoor
open Go.RowKit Go.Deep

set_option maxRecDepth 100000 in
set_option maxHeartbeats 4000000 in
theorem l2Told_any (d : Nat) (S : Nat → Prop) (t : Tr (d + 1)) (v : Value) (w : World) (hv : ValAt S w (d + 1) t v) (hS : Within S w) (hsm : (nodes (d + 1) t : Int) ≤ 4194304) :
    Calls Tryz.prog 15 #[v] w (SpecQ d (toldT d t) (okT (d + 1) t) w) := by
  have hv0 := hv
  obtain ⟨k, n, s, ak, lk, ck, al, ll, cl, rfl⟩ := hv.shape
  obtain ⟨W0, hW⟩ : ∃ W0, W0 = (w.alloc (.cells #[.int .i64 k, .int .i64 n, .string s, .slice ak lk ck, .slice al ll cl] 29)).alloc (.cells #[.int .i64 0, .int .i64 0, .string { data := #[] }, .slice none 0 0, .slice none 0 0] 29) := ⟨_, rfl⟩
  have hW0 : Below w.heap.size w W0 := by rw [hW]; exact below_trans (below_alloc1 _ _) (below_alloc1 _ _)
  have k0 : Blk5 W0 w.heap.size 29 (.int .i64 k) (.int .i64 n) (.string s) (.slice ak lk ck) (.slice al ll cl) := by
    rw [hW]; exact (Blk5.new w 29 _ _ _ _ _).alloc _
  have k1 : Blk5 W0 (w.heap.size + 1) 29 (.int .i64 0) (.int .i64 0) (.string { data := #[] }) (.slice none 0 0) (.slice none 0 0) := by
    have := Blk5.new (w.alloc (.cells #[.int .i64 k, .int .i64 n, .string s, .slice ak lk ck, .slice al ll cl] 29)) 29 (.int .i64 0) (.int .i64 0) (.string { data := #[] }) (.slice none 0 0) (.slice none 0 0)
    rw [World.size_alloc] at this
    rw [hW]
    exact this
  have HW := hide hW
  clear hW hv
  go_enter Tryz.func15, Tryz.ntmps15
  go_wp2_with fail
  rw [← HW.out]
  clear HW
  refine (specValOk_any (d + 1) S t _ W0 (hv0.same (hS.same hW0)) (hS.later hW0.size) hsm).mono ?_
  rintro e w1 ⟨rfl, hb1⟩
  replace k0 := k0.below hb1
  replace k1 := k1.below hb1
  have hB1 := below_trans hW0 hb1
  obtain ⟨x0, x1, x2, x3, x4⟩ := k0.cell
  have hlt := k1.lt
  clear hb1 hW0
  cases hf : okT (d + 1) t with
  | false =>
    have hz : Hid (toldT d t = zeroT d) := by
      show toldT d t = _
      rw [toldT, hf]
      rfl
    have hno : Hid (∀ wF, wF = set5 w1 (w.heap.size + 1) 0 (.int .i64 0) (.int .i64 0) (.string { data := #[] }) (.slice none 0 0) (.slice none 0 0) → Below w.heap.size w wF) := by
      intro wF hF
      rw [hF]
      exact below_set5 hB1 (by omega) _ _ _ _ _ _
    obtain ⟨y0, y1, y2, y3, y4⟩ := k1.cell
    have yf := k1.frozen
    clear k0 k1 hB1 hv0
    go_wp2_with fail
    rw [hz.out, hf]
    refine bodyPost_ret (v := .tuple #[zeroVal, .bool false]) (by simp [results, Tryz.results15, go_sem, zeroVal, y0, y1, y2, y3, y4]; rfl) rfl ⟨_, rfl, zeroAt d _ _, hno.out _ rfl⟩
  | true =>
    have hz : Hid (toldT d t = t) := by
      show toldT d t = _
      rw [toldT, hf]
      rfl
    have hwt := wtT_ok hf
    go_wp2_with fail
    refine (l1Copy_any (d + 1) S t _ w1 (hv0.same (hS.same hB1)) (hS.later hB1.size) (by omega)).mono ?_
    rintro e w3 ⟨u, rfl, hu3, hb3⟩
    obtain ⟨u0, u1, u2, u3, u4, u5, u6, u7, u8, rfl⟩ := (ValOwn.at _ _ _ _ hu3).shape
    have HF := hide (tell_end hu3 (below_trans hB1 hb3) (by omega) hlt)
    have k3 := k1.below hb3
    clear hu3 hb3 k1 k0 hv0 x0 x1 x2 x3 x4
    obtain ⟨y0, y1, y2, y3, y4⟩ := k3.cell
    have yf := k3.frozen
    clear k3
    go_wp2_with fail
    rw [hz.out, hf]
    refine bodyPost_ret (v := .tuple #[.agg #[.int .i64 u0, .int .i64 u1, .string u2, .slice u3 u4 u5, .slice u6 u7 u8], .bool true]) (by simp [results, Tryz.results15, go_sem, y0, y1, y2, y3, y4]) rfl ⟨_, rfl, ValOwn.at _ _ _ _ (HF.out _ rfl).1, (HF.out _ rfl).2⟩
end Go.Proofs.YtbcafaomfaainaaGreatDoor

/- Rows of the model: l4Row, l4Of. -/
namespace Go.Proofs.YtbcafaomfaainaaGreatDoor
open Go.RowKit Go.Deep

theorem treesL_isSome {d : Nat} (t : Tr (d + 1)) : (treesL d t).isSome = (okT (d + 1) t && (Nd.kind t == 5)) := by
  unfold treesL
  cases okT (d + 1) t with
  | false => rfl
  | true =>
    rw [if_pos rfl]
    by_cases h : Nd.kind t = 5
    · rw [if_pos h]; simp [h]
    · rw [if_neg h]; simp [h]

set_option maxRecDepth 100000 in
set_option maxHeartbeats 1000000 in
theorem l4Row_any (d : Nat) (S : Nat → Prop) (t : Tr (d + 1)) (v : Value) (w : World) (hv : ValAt S w (d + 1) t v) (hS : Within S w) (hsm : (nodes (d + 1) t : Int) ≤ 4194304) :
    Calls Tryz.prog 13 #[v] w fun e w' => e = .returned (.bool (treesL d t).isSome) ∧ Below w.heap.size w w' := by
  rw [treesL_isSome]
  have hv0 := hv
  obtain ⟨vk, vl, rfl, i1, i2, i3, hk, hl⟩ := hv
  obtain ⟨ak, ck, rfl, hkl⟩ := hk.open'
  obtain ⟨al, cl, rfl, hll⟩ := hl.open'
  have hA := below_alloc1 w (.cells #[.int .i64 t.kind, .int .i64 t.num, .string t.str, .slice ak t.keys.length ck, .slice al t.list.length cl] 29)
  have k0 := Blk5.new w 29 (.int .i64 t.kind) (.int .i64 t.num) (.string t.str) (.slice ak t.keys.length ck) (.slice al t.list.length cl)
  go_enter Tryz.func13, Tryz.ntmps13
  go_wp2_with fail
  refine (specValOk_any (d + 1) S t _ _ (hv0.same (hS.same hA)) (hS.later hA.size) hsm).mono ?_
  rintro e w1 ⟨rfl, hb1⟩
  replace k0 := k0.below hb1
  have HB := hide (below_trans hA hb1)
  obtain ⟨x0, x1, x2, x3, x4⟩ := k0.cell
  clear hb1 hA hv0 hk hl k0
  cases hf : okT (d + 1) t with
  | false =>
    go_wp2_with fail
    go_ret
    exact ⟨by rw [hf]; rfl, HB.out⟩
  | true =>
    go_wp2_with fail
    go_ret
    exact ⟨by rw [hf]; rfl, HB.out⟩

/-- A row of the model's, made out of trees that lie elsewhere, as a tree. -/
theorem rowV_at {d N : Nat} {S : Nat → Prop} {w w' : World} {lv : Value} {xs : List (Tr d)} {vs : List Value} (h : VTo S N w lv xs vs) (hl : xs.length ≤ 100000) (hb : Below w.heap.size w w') (hS : Within S w) :
    ValAt (fun b => S b ∨ (N ≤ b ∧ b < w'.heap.size)) w' (d + 1) (rowT d xs) (.agg #[.int .i64 5, .int .i64 0, .string ByteArray.empty, .slice none 0 0, lv]) := by
  have hz := hb.size
  have hrow := h.at (by omega)
  have hmv : Same (fun b => S b ∨ (N ≤ b ∧ b < w.heap.size)) w w' := fun b hb' => hb.block b (by rcases hb' with h | h; exact hS b h; exact h.2)
  have hin : ∀ b, (S b ∨ (N ≤ b ∧ b < w.heap.size)) → (S b ∨ (N ≤ b ∧ b < w'.heap.size)) := fun b hb' => by
    rcases hb' with h | h
    · exact Or.inl h
    · exact Or.inr ⟨h.1, by omega⟩
  exact ⟨_, _, rfl, ⟨by show _ ≤ (5 : Int); omega, by show (5 : Int) ≤ _; omega⟩, ⟨by show _ ≤ (0 : Int); omega, by show (0 : Int) ≤ _; omega⟩, by show (0 : Nat) < _; omega, ⟨by show (0 : Nat) < _; omega, (fun s hs => by cases hs), none, 0, rfl, Or.inl rfl⟩, hrow.moved hmv hin (fun y u hy => ValAt.moved hmv hin _ y u hy)⟩
/-- A row's value is a slice of just so many. -/
theorem VTo.slice {d N : Nat} {S : Nat → Prop} {w : World} {lv : Value} {xs : List (Tr d)} {vs : List Value} (h : VTo S N w lv xs vs) : ∃ a c, lv = .slice a xs.length c := by
  rcases h.1.2 with ⟨rfl, h0⟩ | ⟨g, cap, cur, rfl, _⟩
  · exact ⟨none, 0, by rw [h0]⟩
  · exact ⟨_, _, rfl⟩
/-- A row of nothing, as it is made. -/
theorem VTo.start {d : Nat} (S : Nat → Prop) (w : World) : VTo (d := d) S w.heap.size (w.alloc (.cells #[] 29)) (.slice (some ⟨w.heap.size, 0, none⟩) 0 0) [] [] :=
  ⟨⟨rfl, Or.inr ⟨w.heap.size, 0, #[], rfl, Nat.le_refl _, heap_alloc_new w _, Nat.le_refl _, Nat.zero_le _, rfl, rfl⟩⟩, fun j x h => by simp at h⟩
/-- One tree more, from elsewhere. -/
theorem VTo.push {d N : Nat} {S : Nat → Prop} {w1 wr w2 : World} {lv lv' : Value} {xs : List (Tr d)} {vs : List Value} {x : Tr d} {v0 v1 v2 v3 v4 : Value} {o : Obj} (h : VTo S N wr lv xs vs) (hS : ∀ b, S b → b < N) (hN : N ≤ wr.heap.size) (hb : Below N w1 wr) (hx : ValAt S wr d x (.agg #[v0, v1, v2, v3, v4]))
    (hown : w2.ownsRow N 29 5 lv' (xs.length + 1) (vs ++ [v0, v1, v2, v3, v4])) (hg : (wr.alloc o).grownBy w2 lv.ownBlock) : VTo S N w2 lv' (xs ++ [x]) (vs ++ [v0, v1, v2, v3, v4]) ∧ Below N w1 w2 ∧ N ≤ w2.heap.size := by
  have hz : (wr.alloc o).heap.size = wr.heap.size + 1 := by simp
  have hs2 := hg.size
  have hrow : ∀ g, lv.ownBlock = some g → N ≤ g := fun g hg' => (h.1.lt g hg').1
  have hblk : ∀ b, b < N → w2.heap[b]? = wr.heap[b]? := fun b hb' => (hg.block b (by omega) (fun e => by have := hrow b e.symm; omega)).trans (Below.heap_alloc _ _ _ (by omega))
  refine ⟨h.grow (fun b hb' => hblk b (hS b hb')) hx hown, ⟨hg.os.trans hb.os, hg.tape.trans hb.tape, hg.output.trans hb.output, ?_, fun b hb' => (hblk b hb').trans (hb.block b hb')⟩, by omega⟩
  have := hb.size
  omega
end Go.Proofs.YtbcafaomfaainaaGreatDoor

/- A map, turned at a key that is there. -/
namespace Go.Proofs.YtbcafaomfaainaaGreatDoor
open Go.RowKit Go.Deep

theorem run_mapSet (w : World) (r clock j : Nat) (es : Array MapEntry) (s : ByteArray) (u v : Value) (b : Nat) (hb : w.heap[r]? = some (.map es clock)) (hj : es[j]? = some ⟨.string s, v, b⟩)
    (hn : ∀ i' e', i' < j → es[i']? = some e' → ∃ k, e'.key = .string k ∧ k ≠ s) :
    (Instr.mapUpdate 57 (.map (some r)) (.string s) u).run Tryz.prog w = .ok () (withObj w r (.map (es.modify j fun e => { e with key := .string s, val := u }) clock)) := by
  have hf := findNow_at s es.toList j 0 ⟨.string s, v, b⟩ (by rw [Array.getElem?_toList]; exact hj) rfl (fun i' e' hi he => hn i' e' hi (by rw [Array.getElem?_toList] at he; exact he))
  have hk : (Instr.checkKey false 10000 9 (.string s)).run Tryz.prog w = .ok () w :=
    MapKept.run_checkKey (P := Tryz.prog) (w := w) (k := .string s) Tryz.underlying9 trivial false 9999
  have hfk := MapKept.run_findKey (P := Tryz.prog) (w := w) Tryz.underlying9 hf
  have hst : (Instr.keyThatStays (.string s) (.string s)).run Tryz.prog w = .ok (.string s) w := MapKept.run_keyThatStays (P := Tryz.prog) (w := w) (d := .string) (k := .string s) trivial
  simp [Instr.mapUpdate, run_underlying Tryz.underlying57, getObj, setObj, Sem.run, hb, hk, hfk, hj, hst, withObj]

theorem below_withObj {N r : Nat} (w : World) (o : Obj) (h : N ≤ r) : Below N w (withObj w r o) :=
  ⟨rfl, rfl, rfl, by simp [withObj], fun b hb => withObj_block w r o b (by omega)⟩
end Go.Proofs.YtbcafaomfaainaaGreatDoor

/- RowKeys: trees by keys, out of pairs. -/
namespace Go.Proofs.YtbcafaomfaainaaGreatDoor
open Go.RowKit Go.Deep

/-- The key and the tree of a pair. -/
def pairOk {d : Nat} (x : Tr (d + 2)) : Option (ByteArray × Tr (d + 1)) :=
  if Nd.kind x = 5 then (match Nd.list x with | [a, b] => if Nd.kind a = 4 then some (Nd.str a, b) else none | _ => none) else none
/-- All pairs, one behind the other. -/
def accF {d : Nat} : List (Tr (d + 2)) → List (ByteArray × Tr (d + 1)) → Option (List (ByteArray × Tr (d + 1)))
  | [], acc => some acc
  | x :: r, acc => match pairOk x with
    | none => none
    | some p => accF r (putL (acc.map Prod.fst) (acc.map Prod.snd) p.1 p.2)
def keysF (d : Nat) (xs : List (Tr (d + 2))) : Option (Tr (d + 2)) := (accF xs []).map (mapT (d + 1))
theorem accF_step {d : Nat} {xs : List (Tr (d + 2))} {k : Nat} {x : Tr (d + 2)} (h : xs[k]? = some x) (acc : List (ByteArray × Tr (d + 1))) :
    accF (xs.drop k) acc = match pairOk x with | none => none | some p => accF (xs.drop (k + 1)) (putL (acc.map Prod.fst) (acc.map Prod.snd) p.1 p.2) := by
  obtain ⟨hk, e⟩ := List.getElem?_eq_some_iff.1 h
  rw [List.drop_eq_getElem_cons hk, e, accF]
theorem pairOk_kind {d : Nat} {x : Tr (d + 2)} (h : Nd.kind x ≠ 5) : pairOk x = none := if_neg h
theorem pairOk_len {d : Nat} {x : Tr (d + 2)} (h : (Nd.list x).length ≠ 2) : pairOk x = none := by
  unfold pairOk
  split
  · split
    · rename_i e; rw [e] at h; exact absurd rfl h
    · rfl
  · rfl
theorem pairOk_first {d : Nat} {x : Tr (d + 2)} {a b : Tr (d + 1)} (hl : Nd.list x = [a, b]) (h : Nd.kind a ≠ 4) : pairOk x = none := by
  unfold pairOk
  split
  · rw [hl]; exact if_neg h
  · rfl
theorem pairOk_some {d : Nat} {x : Tr (d + 2)} {a b : Tr (d + 1)} (h5 : Nd.kind x = 5) (hl : Nd.list x = [a, b]) (h : Nd.kind a = 4) : pairOk x = some (Nd.str a, b) := by
  unfold pairOk
  rw [if_pos h5, hl]
  exact if_pos h

/-- What is known of the trees by keys that are there by then. -/
structure AccOk {d : Nat} (k : Nat) (acc : List (ByteArray × Tr (d + 1))) : Prop where
  len : acc.length ≤ k
  good : keysB (acc.map Prod.fst) = true
  trees : ∀ p ∈ acc, okT (d + 1) p.2 = true
theorem AccOk.nil {d : Nat} : AccOk (d := d) 0 [] := ⟨Nat.le_refl _, rfl, fun p h => by cases h⟩
theorem mem_putK {α : Type} {s : ByteArray} {x : α} : ∀ {ks : List ByteArray} {xs : List α} {p : ByteArray × α}, p ∈ putL ks xs s x → p ∈ ks.zip xs ∨ p = (s, x)
  | [], _, p, h => by rw [putL] at h; exact Or.inr (List.mem_singleton.1 h)
  | _ :: _, [], p, h => by rw [putL] at h; exact Or.inr (List.mem_singleton.1 h)
  | k :: ks, y :: ys, p, h => by
    rw [putL] at h
    rw [zip_cons]
    split at h
    · rcases List.mem_cons.1 h with h | h
      · exact Or.inl (by rw [h]; exact List.mem_cons_self ..)
      · rcases mem_putK h with h | h
        · exact Or.inl (List.mem_cons_of_mem _ h)
        · exact Or.inr h
    · split at h
      · rcases List.mem_cons.1 h with h | h
        · exact Or.inr h
        · exact Or.inl (List.mem_cons_of_mem _ h)
      · rcases List.mem_cons.1 h with h | h
        · exact Or.inr h
        · exact Or.inl h
theorem AccOk.put {d k : Nat} {acc : List (ByteArray × Tr (d + 1))} {s : ByteArray} {x : Tr (d + 1)} (h : AccOk k acc) (hs : strOk s = true) (hx : okT (d + 1) x = true) : AccOk (k + 1) (putL (acc.map Prod.fst) (acc.map Prod.snd) s x) := by
  have hl := putL_length (acc.map Prod.fst) (acc.map Prod.snd) s x
  rw [List.length_map] at hl
  refine ⟨by have := h.len; omega, putL_keys hs (by rw [List.length_map, List.length_map]) h.good (fun q e => by cases e), fun p hp => ?_⟩
  rcases mem_putK hp with hp | hp
  · rw [zip_unzip] at hp
    exact h.trees p hp
  · rw [hp]; exact hx
theorem AccOk.nodes {d k : Nat} {acc : List (ByteArray × Tr (d + 1))} (h : AccOk k acc) (hk : k ≤ 1000) : (nodes (d + 2) (mapT (d + 1) acc) : Int) ≤ 4194304 := by
  have h1 : ∀ y ∈ acc.map Prod.snd, Go.Proofs.YtbcafaomfaainaaGreatDoor.nodes (d + 1) y ≤ 300 := fun y hy => by
    obtain ⟨p, hp, rfl⟩ := List.mem_map.1 hy
    exact nodes_ok (h.trees p hp)
  have h2 := sum_le_of h1
  rw [List.length_map] at h2
  have h3 := h.len
  have h4 : Go.Proofs.YtbcafaomfaainaaGreatDoor.nodes (d + 2) (mapT (d + 1) acc) = 1 + ((acc.map Prod.snd).map (Go.Proofs.YtbcafaomfaainaaGreatDoor.nodes (d + 1))).sum := rfl
  rw [h4]
  omega
/-- The parts of an ok pair. -/
theorem okT_text {d : Nat} {t : Tr (d + 1)} (h : okT (d + 1) t = true) (h4 : Nd.kind t = 4) : strOk (Nd.str t) = true := by
  obtain ⟨hf, _⟩ := okT_form h
  obtain ⟨kind, num, str, keys, list⟩ := t
  have h4 : kind = 4 := h4
  subst h4
  cases hb : headBad 4 num str keys.length list.length 6 with
  | true => rw [formT_bad hb] at hf; cases hf
  | false =>
    rw [formT_good hb] at hf
    exact hf

/-- A map of the program's that is being made: its trees lie in blocks of S. -/
structure MapB {d : Nat} (S : Nat → Prop) (w : World) (r : Nat) (es : Array MapEntry) (ps acc : List (ByteArray × Tr d)) : Prop where
  obj : w.heap[r]? = some (.map es ps.length)
  perm : ps.Perm acc
  ent : MapG (TreeG S w d) es ps
theorem MapB.moved {d r : Nat} {S : Nat → Prop} {w w' : World} {es : Array MapEntry} {ps acc : List (ByteArray × Tr d)} (h : MapB S w r es ps acc) (hr : w'.heap[r]? = w.heap[r]?) (hs : Same S w w') : MapB S w' r es ps acc :=
  ⟨hr.trans h.obj, h.perm, h.ent.moved (fun x u hx => TreeG.moved hs (fun _ h => h) d x u hx)⟩
theorem set_perm {α : Type} {s : ByteArray} {x : α} {ps acc : List (ByteArray × α)} {i j : Nat} {y z : α} (hp : ps.Perm acc) (hnd : (acc.map Prod.fst).Nodup) (hi : ps[i]? = some (s, y)) (hj : acc[j]? = some (s, z)) : (ps.set i (s, x)).Perm (acc.set j (s, x)) := by
  have hndp : (ps.map Prod.fst).Nodup := (hp.map Prod.fst).nodup_iff.2 hnd
  have split : ∀ (l : List (ByteArray × α)) (k : Nat) (v : ByteArray × α), l[k]? = some v → l.Perm (v :: l.eraseIdx k) ∧ (l.set k (s, x)).Perm ((s, x) :: l.eraseIdx k) := by
    intro l
    induction l with
    | nil => intro k v h; simp at h
    | cons a r ih =>
      intro k v h
      cases k with
      | zero =>
        simp at h
        subst h
        exact ⟨List.Perm.refl _, List.Perm.refl _⟩
      | succ k =>
        simp at h
        obtain ⟨h1, h2⟩ := ih k v h
        simp only [List.eraseIdx_cons_succ, List.set_cons_succ]
        exact ⟨(List.Perm.cons a h1).trans (List.Perm.swap _ _ _), (List.Perm.cons a h2).trans (List.Perm.swap _ _ _)⟩
  obtain ⟨a1, a2⟩ := split ps i _ hi
  obtain ⟨b1, b2⟩ := split acc j _ hj
  have hyz : y = z := by
    have hm : (s, y) ∈ acc := hp.mem_iff.1 (List.mem_of_getElem? hi)
    have hn := (b1.map Prod.fst).nodup_iff.1 hnd
    rw [List.map_cons, List.nodup_cons] at hn
    rcases List.mem_cons.1 (b1.mem_iff.1 hm) with e | e
    · cases e; rfl
    · exact absurd (List.mem_map.2 ⟨_, e, rfl⟩) hn.1
  subst hyz
  have hc : (ps.eraseIdx i).Perm (acc.eraseIdx j) := (a1.symm.trans (hp.trans b1)).cons_inv
  exact a2.trans ((List.Perm.cons _ hc).trans b2.symm)
/-- A tree is put at a key of it. -/
theorem MapB.put {d r : Nat} {S : Nat → Prop} {w : World} {es : Array MapEntry} {ps acc : List (ByteArray × Tr d)} {s : ByteArray} {x : Tr d} {u : Value} (h : MapB S w r es ps acc) (hg : keysB (acc.map Prod.fst) = true) (hr : ¬ S r) (hu : TreeG S w d x u) :
    ∃ w' es' ps', (Instr.mapUpdate 57 (.map (some r)) (.string s) u).run Tryz.prog w = .ok () w' ∧ Below r w w' ∧ w'.heap.size = w.heap.size ∧ (∀ b, b ≠ r → w'.heap[b]? = w.heap[b]?) ∧ MapB S w' r es' ps' (putL (acc.map Prod.fst) (acc.map Prod.snd) s x) := by
  have hrl := (Array.getElem?_eq_some_iff.1 h.obj).1
  have hsz : ∀ o, (withObj w r o).heap.size = w.heap.size := fun o => by simp [withObj]
  have hblk : ∀ o b, b ≠ r → (withObj w r o).heap[b]? = w.heap[b]? := fun o b hb => withObj_block w r o b hb
  have hmv : ∀ o y v, TreeG S w d y v → TreeG S (withObj w r o) d y v := fun o y v hy => TreeG.moved (fun b hb => hblk o b (fun e => hr (e ▸ hb))) (fun _ h => h) d y v hy
  have hobj : ∀ o, (withObj w r o).heap[r]? = some o := fun o => by simp [withObj, hrl]
  have hlen : (acc.map Prod.fst).length = (acc.map Prod.snd).length := by rw [List.length_map, List.length_map]
  have hnd : (acc.map Prod.fst).Nodup := keysB_nodup hg
  have hndp : (ps.map Prod.fst).Nodup := (h.perm.map Prod.fst).nodup_iff.2 hnd
  by_cases hm : s ∈ acc.map Prod.fst
  · obtain ⟨q, hq, hqs⟩ := List.mem_map.1 hm
    obtain ⟨qs, qy⟩ := q
    have hqs : qs = s := hqs
    subst hqs
    obtain ⟨j, v, hpj, hej, _, hbefore⟩ := h.ent.find hndp (h.perm.mem_iff.2 hq)
    obtain ⟨k, hk⟩ := List.getElem?_of_mem hq
    have hkk : (acc.map Prod.fst)[k]? = some qs := by rw [List.getElem?_map, hk]; rfl
    have hth : putL (acc.map Prod.fst) (acc.map Prod.snd) qs x = acc.set k (qs, x) := by
      rw [putL_there (p := none) hlen hg hkk, zip_unzip]
    have hjl := (List.getElem?_eq_some_iff.1 hpj).1
    refine ⟨_, es.modify j fun e => { e with key := .string qs, val := u }, ps.set j (qs, x), run_mapSet w r ps.length j es qs u v j h.obj hej hbefore, below_withObj _ _ (Nat.le_refl _), hsz _, hblk _, ?_, ?_, ?_⟩
    · rw [hobj, List.length_set]
    · rw [hth]; exact set_perm h.perm hnd hpj hk
    · refine ⟨by rw [Array.size_modify, List.length_set]; exact h.ent.1, fun i k' z hi => ?_⟩
      by_cases e : j = i
      · subst e
        rw [List.getElem?_set_self (by omega)] at hi
        cases hi
        exact ⟨u, by simp [Array.getElem?_modify, hej], hmv _ _ _ hu⟩
      · rw [List.getElem?_set_ne e] at hi
        obtain ⟨v', hv', ha⟩ := h.ent.2 i k' z hi
        exact ⟨v', by rw [Array.getElem?_modify, if_neg e]; exact hv', hmv _ _ _ ha⟩
  · have hmiss := h.ent.miss (s := s) (fun hp => hm ((h.perm.map Prod.fst).mem_iff.1 hp))
    have hp := putL_new (x := x) hlen hm
    rw [zip_unzip] at hp
    refine ⟨_, es.push ⟨.string s, u, ps.length⟩, ps ++ [(s, x)], run_mapPush w r ps.length es s u h.obj hmiss, below_withObj _ _ (Nat.le_refl _), hsz _, hblk _, ?_, ?_, ?_⟩
    · rw [hobj, List.length_append, List.length_singleton]
    · exact (h.perm.append_right _).trans hp
    · refine ⟨by rw [Array.size_push, List.length_append, List.length_singleton, h.ent.1], fun i k z hi => ?_⟩
      have hes : es.size = ps.length := h.ent.1
      by_cases e : i < ps.length
      · rw [List.getElem?_append_left e] at hi
        obtain ⟨v', hv', ha⟩ := h.ent.2 i k z hi
        exact ⟨v', by rw [Array.getElem?_push, if_neg (by omega)]; exact hv', hmv _ _ _ ha⟩
      · have hil := (List.getElem?_eq_some_iff.1 hi).1
        rw [List.length_append, List.length_singleton] at hil
        obtain rfl : i = ps.length := by omega
        rw [List.getElem?_append_right (Nat.le_refl _), Nat.sub_self] at hi
        cases hi
        exact ⟨u, by rw [Array.getElem?_push, if_pos hes.symm], hmv _ _ _ hu⟩
/-- .. as a tree. -/
theorem MapB.tree {d r : Nat} {S : Nat → Prop} {w : World} {es : Array MapEntry} {ps acc : List (ByteArray × Tr d)} (h : MapB S w r es ps acc) (hg : keysB (acc.map Prod.fst) = true) (hl : acc.length ≤ 1000) {N : Nat} (hr : N ≤ r) (hS : ∀ b, S b → N ≤ b ∧ b < w.heap.size) : TreeG (fun b => N ≤ b ∧ b < w.heap.size) w (d + 1) (mapT d acc) (.iface 61 (.agg #[.map (some r)])) :=
  Or.inr (Or.inr (Or.inr (Or.inr ⟨acc.map Prod.fst, acc.map Prod.snd, ps, r, es, by rw [List.length_map]; exact hl, hg, by rw [List.length_map, List.length_map], by rw [zip_unzip]; exact h.perm, rfl, rfl, ⟨hr, (Array.getElem?_eq_some_iff.1 h.obj).1⟩, h.obj, h.ent.moved (fun x u hx => TreeG.mono hx hS)⟩)))
end Go.Proofs.YtbcafaomfaainaaGreatDoor

/- RowKeys of the model. -/
namespace Go.Proofs.YtbcafaomfaainaaGreatDoor
open Go.RowKit Go.Deep

theorem Blk5.all {w : World} {b : Nat} {T : TypeId} {c0 c1 c2 c3 c4 : Value} (h : Blk5 w b T c0 c1 c2 c3 c4) (v0 v1 v2 v3 v4 : Value) : Blk5 (set5 w b 0 v0 v1 v2 v3 v4) b T v0 v1 v2 v3 v4 := by
  unfold Blk5 at h ⊢
  simp [set5, World.setCell, Array.getElem?_modify, h]
theorem ValAt.five {S : Nat → Prop} {w : World} {d : Nat} {t : Tr (d + 1)} {k n : Int} {s : ByteArray} {ak al : Option Addr} {lk ck ll cl : Nat} (h : ValAt S w (d + 1) t (.agg #[.int .i64 k, .int .i64 n, .string s, .slice ak lk ck, .slice al ll cl])) :
    k = Nd.kind t ∧ s = Nd.str t ∧ ll = (Nd.list t).length ∧ RowAt S w (ValAt S w d) (.slice al ll cl) (Nd.list t) := by
  obtain ⟨vk, vl, hv, i1, i2, i3, hk, hl⟩ := h
  obtain ⟨a, c, rfl, _⟩ := hl.open'
  simp at hv
  obtain ⟨rfl, _, rfl, _, rfl, rfl, rfl⟩ := hv
  exact ⟨rfl, rfl, rfl, hl⟩

/-- The variable that is told at the end. -/
structure OutAt (d : Nat) (S : Nat → Prop) (ob : Nat) (W wr : World) (acc : List (ByteArray × Tr (d + 1))) (kv lv : Value) : Prop where
  blk : Blk5 wr ob 29 (.int .i64 6) (.int .i64 0) (.string { data := #[] }) kv lv
  val : ValAt (fun b => S b ∨ (ob < b ∧ b < wr.heap.size)) wr (d + 2) (mapT (d + 1) acc) (.agg #[.int .i64 6, .int .i64 0, .string { data := #[] }, kv, lv])
  below : Below ob W wr
theorem OutAt.shape {d ob : Nat} {S : Nat → Prop} {W wr : World} {acc : List (ByteArray × Tr (d + 1))} {kv lv : Value} (h : OutAt d S ob W wr acc kv lv) : ∃ ka kn kc la ln lc, kv = .slice ka kn kc ∧ lv = .slice la ln lc := by
  obtain ⟨vk, vl, hve, _, _, _, hkk, hll⟩ := h.val
  obtain ⟨ka, kc, hka, _⟩ := hkk.open'
  obtain ⟨la, lc, hla, _⟩ := hll.open'
  simp at hve
  exact ⟨_, _, _, _, _, _, hve.2.2.2.1.trans hka, hve.2.2.2.2.trans hla⟩
theorem OutAt.start {d : Nat} (S : Nat → Prop) (w : World) : OutAt d S w.heap.size w (w.alloc (.cells #[.int .i64 6, .int .i64 0, .string { data := #[] }, .slice none 0 0, .slice none 0 0] 29)) [] (.slice none 0 0) (.slice none 0 0) :=
  ⟨Blk5.new _ _ _ _ _ _ _, ⟨_, _, rfl, ⟨by show _ ≤ (6 : Int); omega, by show (6 : Int) ≤ _; omega⟩, ⟨by show _ ≤ (0 : Int); omega, by show (0 : Int) ≤ _; omega⟩, by show (0 : Nat) < _; omega, ⟨by show (0 : Nat) < _; omega, (fun s hs => by cases hs), none, 0, rfl, Or.inl rfl⟩, ⟨by show (0 : Nat) < _; omega, none, 0, rfl, Or.inl rfl⟩⟩, below_alloc1 _ _⟩
theorem OutAt.step {d ob : Nat} {S : Nat → Prop} {W wr w2 : World} {acc acc' : List (ByteArray × Tr (d + 1))} {kv lv kv' lv' : Value} {o : Obj} (h : OutAt d S ob W wr acc kv lv) (hS : ∀ b, S b → b < ob) (hb : Below (wr.alloc o).heap.size (wr.alloc o) w2) (hu : ValAt (fun b => (S b ∨ (ob < b ∧ b < wr.heap.size)) ∨ ((wr.alloc o).heap.size ≤ b ∧ b < w2.heap.size)) w2 (d + 2) (mapT (d + 1) acc') (.agg #[.int .i64 6, .int .i64 0, .string { data := #[] }, kv', lv'])) :
    OutAt d S ob W (set5 w2 ob 0 (.int .i64 6) (.int .i64 0) (.string { data := #[] }) kv' lv') acc' kv' lv' := by
  have hol := h.blk.lt
  have hz : (wr.alloc o).heap.size = wr.heap.size + 1 := by simp
  have hsz := hb.size
  have hblk : ∀ b, b < wr.heap.size → w2.heap[b]? = wr.heap[b]? := fun b hb' => (hb.block b (by omega)).trans (Below.heap_alloc _ _ _ hb')
  refine ⟨(h.blk.of_block (hblk ob hol)).all _ _ _ _ _, ?_, ?_⟩
  · refine ValAt.moved (fun b hb' => set5_block _ _ _ _ _ _ _ _ _ ?_) (fun b hb' => ?_) _ _ _ hu
    · rcases hb' with (hb' | hb') | hb'
      · have := hS b hb'; omega
      · have := hb'.1; omega
      · have := hb'.1; omega
    · rw [set5_size]
      rcases hb' with (hb' | hb') | hb'
      · exact Or.inl hb'
      · exact Or.inr ⟨hb'.1, by have := hb'.2; omega⟩
      · exact Or.inr ⟨by have := hb'.1; omega, hb'.2⟩
  · refine below_set5 ?_ (Nat.le_refl _) _ _ _ _ _ _
    exact ⟨hb.os.trans h.below.os, hb.tape.trans h.below.tape, hb.output.trans h.below.output, by have := h.below.size; omega, fun b hb' => (hblk b (by omega)).trans (h.below.block b hb')⟩

set_option maxRecDepth 100000 in
set_option maxHeartbeats 40000000 in
theorem specRowKeys_any (d : Nat) (S : Nat → Prop) (t : Tr (d + 3)) (v : Value) (w : World) (hv : ValAt S w (d + 3) t v) (hS : Within S w) (hsm : (nodes (d + 3) t : Int) ≤ 4194304) :
    Calls Tryz.prog 5 #[v] w (SpecQ (d + 1) (rowTell (keysF d) t).1 (rowTell (keysF d) t).2 w) := by
  have hv0 := hv
  obtain ⟨vk, vl, rfl, i1, i2, i3, hk, hl⟩ := hv
  obtain ⟨ak, ck, rfl, hkl⟩ := hk.open'
  obtain ⟨al, cl, rfl, hll⟩ := hl.open'
  obtain ⟨W0, hW⟩ : ∃ W0, W0 = (w.alloc (.cells #[.int .i64 t.kind, .int .i64 t.num, .string t.str, .slice ak t.keys.length ck, .slice al t.list.length cl] 29)).alloc (.cells #[.int .i64 0, .int .i64 0, .string { data := #[] }, .slice none 0 0, .slice none 0 0] 29) := ⟨_, rfl⟩
  have hW0 : Below w.heap.size w W0 := by rw [hW]; exact below_trans (below_alloc1 _ _) (below_alloc1 _ _)
  have k0 : Blk5 W0 w.heap.size 29 (.int .i64 t.kind) (.int .i64 t.num) (.string t.str) (.slice ak t.keys.length ck) (.slice al t.list.length cl) := by
    rw [hW]; exact (Blk5.new w 29 _ _ _ _ _).alloc _
  have k1 : Blk5 W0 (w.heap.size + 1) 29 (.int .i64 0) (.int .i64 0) (.string { data := #[] }) (.slice none 0 0) (.slice none 0 0) := by
    have := Blk5.new (w.alloc (.cells #[.int .i64 t.kind, .int .i64 t.num, .string t.str, .slice ak t.keys.length ck, .slice al t.list.length cl] 29)) 29 (.int .i64 0) (.int .i64 0) (.string { data := #[] }) (.slice none 0 0) (.slice none 0 0)
    rw [World.size_alloc] at this
    rw [hW]
    exact this
  have HW := hide hW
  clear hW hk
  go_enter Tryz.func5, Tryz.ntmps5
  go_wp2_with fail
  rw [← HW.out]
  clear HW
  refine (l4Row_any (d + 2) S t _ W0 (hv0.same (hS.same hW0)) (hS.later hW0.size) hsm).mono ?_
  rintro e w1 ⟨rfl, hb1⟩
  replace k0 := k0.below hb1
  replace k1 := k1.below hb1
  have hB1 := below_trans hW0 hb1
  have hlt := k1.lt
  clear hb1 hW0 hv0
  cases hf : treesL (d + 2) t with
  | none =>
    have hz := hide (rowTell_none (f := keysF d) hf)
    have hno : Hid (∀ wF, wF = set5 w1 (w.heap.size + 1) 0 (.int .i64 0) (.int .i64 0) (.string { data := #[] }) (.slice none 0 0) (.slice none 0 0) → Below w.heap.size w wF) := by
      intro wF hF
      rw [hF]
      exact below_set5 hB1 (by omega) _ _ _ _ _ _
    obtain ⟨y0, y1, y2, y3, y4⟩ := k1.cell
    have yf := k1.frozen
    clear k0 k1 hB1
    go_wp2_with fail
    rw [hz.out]
    refine bodyPost_ret (v := .tuple #[zeroVal, .bool false]) (by simp [results, Tryz.results5, go_sem, zeroVal, y0, y1, y2, y3, y4]; rfl) rfl ⟨_, rfl, zeroAt (d + 1) _ _, hno.out _ rfl⟩
  | some xs =>
    obtain ⟨hok, h5, rfl⟩ := treesL_some hf
    clear h5
    have hl60 : t.list.length ≤ 60 := (okT_kinds hok).2.1
    have hR0 : Hid (∀ acc, accF t.list [] = some acc → rowTell (keysF d) t = (toldT (d + 1) (mapT (d + 1) acc), okT (d + 2) (mapT (d + 1) acc))) := fun acc ha => rowTell_some hf (by unfold keysF; rw [ha]; rfl)
    have hRn : Hid (accF t.list [] = none → rowTell (keysF d) t = (zeroT (d + 1), false)) := fun ha => rowTell_fault hf (by unfold keysF; rw [ha]; rfl)
    have hS1 : ∀ b, S b → b < w1.heap.size := hS.later hB1.size
    have hoks := hide (fun (x : Tr (d + 2)) (hx : x ∈ t.list) => okT_part hok hx)
    have hst : Hid (OutAt d S w1.heap.size w1 (w1.alloc (.cells #[.int .i64 6, .int .i64 0, .string { data := #[] }, .slice none 0 0, .slice none 0 0] 29)) [] (.slice none 0 0) (.slice none 0 0)) := OutAt.start S w1
    have hlt' : w.heap.size + 1 < w1.heap.size := hlt
    clear hf hok
    go_wp2_with fail
    go_loopw [5] (fun i wr => ∃ (m : Nat) (acc : List (ByteArray × Tr (d + 1))) (kv lv : Value), m ≤ t.list.length ∧ i = .int .i64 (m : Int) ∧ Hid (AccOk m acc) ∧ Hid (accF t.list [] = accF (t.list.drop m) acc) ∧ Hid (OutAt d S w1.heap.size w1 wr acc kv lv)) (fun i _ => t.list.length - (intOf i).toNat)
    case atStart => exact ⟨0, [], _, _, Nat.zero_le _, rfl, AccOk.nil, rfl, hst⟩
    case round =>
      clear hst
      obtain ⟨m, acc, kv, lv, hm, rfl, hacc, hfin, hout⟩ := hrel
      have hbel := hout.out.below
      have hsz : w1.heap.size < wr.heap.size := hout.out.blk.lt
      have hBr : Below w.heap.size w wr := hB1.trans (hbel.mono (by have := hB1.size; omega))
      have kbox := k0.of_block (hbel.block _ (by omega))
      have kres := k1.of_block (hbel.block _ (by omega))
      obtain ⟨x0, x1, x2, x3, x4⟩ := kbox.cell
      obtain ⟨ka, kn, kc, la, ln, lc, rfl, rfl⟩ := hout.out.shape
      obtain ⟨z0, z1, z2, z3, z4⟩ := hout.out.blk.cell
      by_cases hmt : m < t.list.length
      · have hmi : (m : Int) < (t.list.length : Int) := by omega
        obtain ⟨b, o, x, c0, c1, c2, c3, c4, rfl, hbS, hx, e0, e1, e2, e3, e4, hval⟩ := (hl.same (hS.same hBr)).cell hmt
        obtain ⟨q0, q1, q2, q3, q4, q5, q6, q7, q8, hq⟩ := hval.shape
        cases hq
        obtain ⟨rfl, rfl, rfl, hin⟩ := hval.five
        have hstp := hide (accF_step hx acc)
        have hxok := hide (hoks.out x (List.mem_of_getElem? hx))
        have hbl : b < w1.heap.size := hS1 b hbS
        have hBn := hide (below_trans hBr (below_alloc1 wr (.cells #[.int .i64 (Nd.kind x), .int .i64 q1, .string (Nd.str x), .slice q3 q4 q5, .slice q6 (Nd.list x).length q8] 29)))
        have kresA := kres.alloc (.cells #[.int .i64 (Nd.kind x), .int .i64 q1, .string (Nd.str x), .slice q3 q4 q5, .slice q6 (Nd.list x).length q8] 29)
        -- the end, where it can not be done
        have hno : Hid (∀ wF, wF = set5 (wr.alloc (.cells #[.int .i64 (Nd.kind x), .int .i64 q1, .string (Nd.str x), .slice q3 q4 q5, .slice q6 (Nd.list x).length q8] 29)) (w.heap.size + 1) 0 (.int .i64 0) (.int .i64 0) (.string { data := #[] }) (.slice none 0 0) (.slice none 0 0) → Below w.heap.size w wF) := fun wF hF => by rw [hF]; exact below_set5 hBn.out (by omega) _ _ _ _ _ _
        obtain ⟨r0, r1, r2, r3, r4⟩ := kresA.cell
        have rf := kresA.frozen
        by_cases h5 : Nd.kind x = 5
        · have n5 : (Nd.kind x != 5) = false := by simp [h5]
          by_cases h2 : (Nd.list x).length = 2
          · obtain ⟨a0, y, hxl⟩ : ∃ a0 y, Nd.list x = [a0, y] := by
              match hxx : Nd.list x, h2 with
              | [a0, y], _ => exact ⟨a0, y, rfl⟩
            have h2i : (((Nd.list x).length : Int) != 2) = false := by rw [h2]; rfl
            obtain ⟨b2, o2, a0', d0, d1, d2, d3, d4, ha6, hb2S, ha0, g0, g1, g2, g3, g4, hav⟩ := hin.cell (k := 0) (by omega)
            obtain ⟨b3, o3, y', f0, f1, f2, f3, f4, ha6', hb3S, hy0, i0, i1', i2', i3', i4', hyv⟩ := hin.cell (k := 1) (by omega)
            rw [hxl] at ha0 hy0
            cases ha0
            cases hy0
            subst ha6
            cases ha6'
            obtain ⟨p0, p1, p2, p3, p4, p5, p6, p7, p8, hq⟩ := hav.shape
            cases hq
            obtain ⟨y0, y1, y2, y3, y4, y5, y6, y7, y8, hq⟩ := hyv.shape
            cases hq
            obtain ⟨rfl, rfl, rfl, _⟩ := hav.five
            rw [Nat.zero_mul, Nat.add_zero] at g0 g1 g2 g3 g4
            rw [Nat.one_mul] at i0 i1' i2' i3' i4'
            have hb2l : b2 < w1.heap.size := hS1 b2 hb2S
            have hb2w : b2 < wr.heap.size := by omega
            have hvw : w.heap.size < wr.heap.size := by omega
            have hl0 : (0 : Int) < ((Nd.list x).length : Int) := by omega
            have hl1 : (1 : Int) < ((Nd.list x).length : Int) := by omega
            have hl0' : 0 < (Nd.list x).length := by omega
            have hl1' : 1 < (Nd.list x).length := by omega
            by_cases h4 : Nd.kind a0 = 4
            · have n4 : (Nd.kind a0 != 4) = false := by simp [h4]
              have hpk := pairOk_some h5 hxl h4
              have hyok : okT (d + 1) y = true := okT_part hxok.out (by rw [hxl]; simp)
              have hsok : strOk (Nd.str a0) = true := okT_text (okT_part hxok.out (by rw [hxl]; simp)) h4
              have hsz12 := strOk_size hsok
              have HACC := hide (hacc.out.put hsok hyok)
              have HFIN : Hid (accF t.list [] = accF (t.list.drop (m + 1)) (putL (acc.map Prod.fst) (acc.map Prod.snd) (Nd.str a0) y)) := by
                show accF t.list [] = _
                rw [hfin.out, hstp.out, hpk]
              have hal := hacc.out.len
              have hfold : endP (Nd.str a0) y (((Nd.keys (mapT (d + 1) acc)).zip (Nd.list (mapT (d + 1) acc))).foldl (stepP (Nd.str a0) y) (false, [])) = putL (acc.map Prod.fst) (acc.map Prod.snd) (Nd.str a0) y := by
                have hh := foldP_put (s := Nd.str a0) (x := y) (p := none) (ks := acc.map Prod.fst) (xs := acc.map Prod.snd) [] (by rw [List.length_map, List.length_map]) hacc.out.good
                rw [List.nil_append] at hh
                exact hh
              have hwA : Within (fun b => S b ∨ (w1.heap.size < b ∧ b < wr.heap.size)) (wr.alloc (.cells #[.int .i64 (Nd.kind x), .int .i64 q1, .string (Nd.str x), .slice q3 q4 q5, .slice (some ⟨b2, o2, none⟩) (Nd.list x).length q8] 29)) := fun b hb => by
                simp only [World.size_alloc]
                rcases hb with hb | hb
                · have := hS1 b hb; omega
                · have := hb.2; omega
              have hsame : Same (fun b => S b ∨ (w1.heap.size < b ∧ b < wr.heap.size)) wr (wr.alloc (.cells #[.int .i64 (Nd.kind x), .int .i64 q1, .string (Nd.str x), .slice q3 q4 q5, .slice (some ⟨b2, o2, none⟩) (Nd.list x).length q8] 29)).drew := fun b hb => Below.heap_alloc _ _ _ (by
                rcases hb with hb | hb
                · have := hS1 b hb; omega
                · exact hb.2)
              have hSS : Same S wr (wr.alloc (.cells #[.int .i64 (Nd.kind x), .int .i64 q1, .string (Nd.str x), .slice q3 q4 q5, .slice (some ⟨b2, o2, none⟩) (Nd.list x).length q8] 29)).drew := fun b hb => Below.heap_alloc _ _ _ (by have := hS1 b hb; omega)
              have hc0 := l2Put_any (d + 1) (fun b => S b ∨ (w1.heap.size < b ∧ b < wr.heap.size)) (mapT (d + 1) acc) _ (Nd.str a0) y _ (wr.alloc (.cells #[.int .i64 (Nd.kind x), .int .i64 q1, .string (Nd.str x), .slice q3 q4 q5, .slice (some ⟨b2, o2, none⟩) (Nd.list x).length q8] 29)).drew (hout.out.val.same hsame) ((hyv.moved (S' := fun b => S b ∨ (w1.heap.size < b ∧ b < wr.heap.size)) hSS (fun _ h => Or.inl h))) hwA (by show (acc.map Prod.fst).length = (acc.map Prod.snd).length; rw [List.length_map, List.length_map]) (by show (acc.map Prod.snd).length ≤ 60; rw [List.length_map]; omega) (by omega)
              rw [hfold] at hc0
              have hcall : Hid (Calls Tryz.prog 14 #[.agg #[.int .i64 6, .int .i64 0, .string { data := #[] }, .slice ka kn kc, .slice la ln lc], .string (Nd.str a0), .agg #[.int .i64 y0, .int .i64 y1, .string y2, .slice y3 y4 y5, .slice y6 y7 y8]] (wr.alloc (.cells #[.int .i64 (Nd.kind x), .int .i64 q1, .string (Nd.str x), .slice q3 q4 q5, .slice (some ⟨b2, o2, none⟩) (Nd.list x).length q8] 29)).drew fun e w' => ∃ v, e = .returned v ∧ (∃ kv' lv', v = .agg #[.int .i64 6, .int .i64 0, .string { data := #[] }, kv', lv'] ∧ (∃ a n c, kv' = .slice a n c) ∧ (∃ a n c, lv' = .slice a n c) ∧ Below (wr.alloc (.cells #[.int .i64 (Nd.kind x), .int .i64 q1, .string (Nd.str x), .slice q3 q4 q5, .slice (some ⟨b2, o2, none⟩) (Nd.list x).length q8] 29)).heap.size (wr.alloc (.cells #[.int .i64 (Nd.kind x), .int .i64 q1, .string (Nd.str x), .slice q3 q4 q5, .slice (some ⟨b2, o2, none⟩) (Nd.list x).length q8] 29)) w' ∧ OutAt d S w1.heap.size w1 (set5 w' w1.heap.size 0 (.int .i64 6) (.int .i64 0) (.string { data := #[] }) kv' lv') (putL (acc.map Prod.fst) (acc.map Prod.snd) (Nd.str a0) y) kv' lv')) := by
                refine hc0.mono ?_
                rintro e w' ⟨u, rfl, hu, hb⟩
                have hb' : Below (wr.alloc (.cells #[.int .i64 (Nd.kind x), .int .i64 q1, .string (Nd.str x), .slice q3 q4 q5, .slice (some ⟨b2, o2, none⟩) (Nd.list x).length q8] 29)).heap.size (wr.alloc (.cells #[.int .i64 (Nd.kind x), .int .i64 q1, .string (Nd.str x), .slice q3 q4 q5, .slice (some ⟨b2, o2, none⟩) (Nd.list x).length q8] 29)) w' := ⟨hb.os, hb.tape, hb.output, hb.size, hb.block⟩
                have hu' := hu
                obtain ⟨kv', lv', rfl, _, _, _, hk1, hl1⟩ := hu'
                obtain ⟨a1, c1', rfl, _⟩ := hk1.open'
                obtain ⟨a2, c2', rfl, _⟩ := hl1.open'
                exact ⟨_, rfl, _, _, rfl, ⟨_, _, _, rfl⟩, ⟨_, _, _, rfl⟩, hb', hout.out.step hS1 hb' hu⟩
              clear hc0 hfold hwA hsame hSS hyv hav hin hval hx hpk hyok hsok h4 h5 h2 hxl hno kresA rf r0 r1 r2 r3 r4
              obtain ⟨WA, hWA⟩ : ∃ WA, WA = wr.alloc (.cells #[.int .i64 (Nd.kind x), .int .i64 q1, .string (Nd.str x), .slice q3 q4 q5, .slice (some ⟨b2, o2, none⟩) (Nd.list x).length q8] 29) := ⟨_, rfl⟩
              have hbA : Below wr.heap.size wr WA := by rw [hWA]; exact below_alloc1 _ _
              have hpA : Blk5 WA wr.heap.size 29 (.int .i64 (Nd.kind x)) (.int .i64 q1) (.string (Nd.str x)) (.slice q3 q4 q5) (.slice (some ⟨b2, o2, none⟩) (Nd.list x).length q8) := by rw [hWA]; exact Blk5.new _ _ _ _ _ _ _
              have hoA : Blk5 WA w1.heap.size 29 (.int .i64 6) (.int .i64 0) (.string { data := #[] }) (.slice ka kn kc) (.slice la ln lc) := by rw [hWA]; exact hout.out.blk.alloc _
              rw [← hWA] at hcall
              have hcA := fun (o : Nat) => hbA.cell (p := ⟨b2, o, none⟩) hb2w
              have s2 := (hcA (o2 + 2)).trans g2
              have t0 := (hcA _).trans i0
              have t1 := (hcA _).trans i1'
              have t2 := (hcA _).trans i2'
              have t3 := (hcA _).trans i3'
              have t4 := (hcA _).trans i4'
              have HWA := hide hWA
              go_upto_region 10 with fail
              rw [← HWA.out]
              obtain ⟨_, _, _, _, pp4⟩ := hpA.cell
              obtain ⟨oo0, oo1, oo2, oo3, oo4⟩ := hoA.cell
              have HOA := hide hoA
              have hWs : w1.heap.size < WA.heap.size := Nat.lt_of_lt_of_le hsz hbA.size
              clear e0 e1 e2 e3 e4 x0 x1 x2 x3 x4 g0 g1 g2 g3 g4 n5 h2i n4 kbox kres hoks hR0 hRn hBn i0 i1' i2' i3' i4' z0 z1 z2 z3 z4 hcA hpA hoA hWA HWA hbA
              go_wp2_with fail
              go_region_law (refine step_call_run _ 14 _ (by rfl) (by go_simp) hcall.out ?_; rintro u w2 ⟨kv', lv', rfl, ⟨ka', kn', kc', rfl⟩, ⟨la', ln', lc', rfl⟩, hb2, hnew⟩; have yb2 : Blk5 w2 w1.heap.size 29 (.int .i64 6) (.int .i64 0) (.string { data := #[] }) (.slice ka kn kc) (.slice la ln lc) := HOA.out.below hb2; obtain ⟨w20, w21, w22, w23, w24⟩ := yb2.cell; have w2f := yb2.frozen)
              all_goals
                have HNEW := hide hnew
                clear hnew hb2 yb2 hcall hout hfin hstp hxok hacc
                go_wp2_with fail
                go_roundw
                case rel => exact ⟨m + 1, _, _, _, by omega, by go_num, HACC, HFIN, HNEW⟩
                case measure => simp [intOf]; omega
            · have n4 : (Nd.kind a0 != 4) = true := by simp [h4]
              have hq := hide (hRn.out (by rw [hfin.out, hstp.out, pairOk_first hxl h4]))
              clear h5 h2 h4 hxl hav hyv
              clear hout hfin hstp hxok hacc hin hval hx kbox kres kresA
              go_wp2_with fail
              rw [hq.out]
              refine bodyPost_ret (v := .tuple #[zeroVal, .bool false]) (by simp [results, Tryz.results5, go_sem, zeroVal, r0, r1, r2, r3, r4]; rfl) rfl ⟨_, rfl, zeroAt (d + 1) _ _, hno.out _ rfl⟩
          · have h2i : (((Nd.list x).length : Int) != 2) = true := by rw [bne_iff_ne]; omega
            have hq := hide (hRn.out (by rw [hfin.out, hstp.out, pairOk_len h2]))
            clear h5 h2
            clear hout hfin hstp hxok hacc hin hval hx kbox kres kresA
            go_wp2_with fail
            rw [hq.out]
            refine bodyPost_ret (v := .tuple #[zeroVal, .bool false]) (by simp [results, Tryz.results5, go_sem, zeroVal, r0, r1, r2, r3, r4]; rfl) rfl ⟨_, rfl, zeroAt (d + 1) _ _, hno.out _ rfl⟩
        · have n5 : (Nd.kind x != 5) = true := by simp [h5]
          have hq := hide (hRn.out (by rw [hfin.out, hstp.out, pairOk_kind h5]))
          clear h5
          clear hout hfin hstp hxok hacc hin hval hx kbox kres kresA
          go_wp2_with fail
          rw [hq.out]
          refine bodyPost_ret (v := .tuple #[zeroVal, .bool false]) (by simp [results, Tryz.results5, go_sem, zeroVal, r0, r1, r2, r3, r4]; rfl) rfl ⟨_, rfl, zeroAt (d + 1) _ _, hno.out _ rfl⟩
      · obtain rfl : m = t.list.length := by omega
        have ha : accF t.list [] = some acc := by
          rw [hfin.out, List.drop_eq_nil_of_le (Nat.le_refl _)]
          rfl
        have hR := hide (hR0.out acc ha)
        have hnod := hacc.out.nodes (by omega)
        have hWU : Within (fun b => S b ∨ (w1.heap.size < b ∧ b < wr.heap.size)) wr := fun b hb => by
          rcases hb with hb | hb
          · have := hS1 b hb; omega
          · exact hb.2
        have hcall2 := hide (l2Told_any (d + 1) _ _ _ wr hout.out.val hWU hnod)
        have hlt3 : w.heap.size + 1 < wr.heap.size := kres.lt
        clear ha hWU hout hfin hacc hRn hR0 hl
        go_wp2_with fail
        refine Calls.mono hcall2.out ?_
        rintro e w4 ⟨r, rfl, hr, hb4⟩
        obtain ⟨r0, r1, r2, r3, r4, r5, r6, r7, r8, rfl⟩ := hr.shape
        have HF := hide (tell_endA hr (below_trans hBr hb4) (by omega) hlt3)
        have k4 := kres.below hb4
        obtain ⟨y0, y1, y2, y3, y4⟩ := k4.cell
        have yf := k4.frozen
        clear hr hb4 k4 hcall2 kres kbox
        go_wp2_with fail
        rw [hR.out]
        exact bodyPost_ret (v := .tuple #[.agg #[.int .i64 r0, .int .i64 r1, .string r2, .slice r3 r4 r5, .slice r6 r7 r8], .bool (okT (d + 2) (mapT (d + 1) acc))]) (by simp [results, Tryz.results5, go_sem, y0, y1, y2, y3, y4]) rfl ⟨_, rfl, (HF.out _ rfl).1, (HF.out _ rfl).2⟩
end Go.Proofs.YtbcafaomfaainaaGreatDoor

/- pairOf of the program. -/
namespace Go.Proofs.YtbcafaomfaainaaGreatDoor
open Go.RowKit Go.Deep

/-- What pairOf is asked to give. -/
def PairQ (d : Nat) (S : Nat → Prop) (x : Tr (d + 2)) (w : World) (e : Ending) (w' : World) : Prop :=
  Below w.heap.size w w' ∧ ((∃ s y v, pairOk x = some (s, y) ∧ e = .returned (.tuple #[.string s, v, .nilIface]) ∧ TreeG S w' (d + 1) y v) ∨ (pairOk x = none ∧ ∃ why, e = .returned (.tuple #[.string ByteArray.empty, .nilIface, faultV why])))

set_option maxRecDepth 100000 in
set_option maxHeartbeats 4000000 in
theorem pairOf_any (d : Nat) (S : Nat → Prop) (x : Tr (d + 2)) (u : Value) (w : World) (hu : TreeG S w (d + 2) x u) (hS : Within S w) :
    Calls Tryz.prog 30 #[u] w (PairQ d S x w) := by
  go_enter Tryz.func30, Tryz.ntmps30
  rcases hu with ⟨k', h1, hxe, rfl⟩ | ⟨n', h1, hxe, rfl⟩ | ⟨s', h1, hxe, rfl⟩ | ⟨ys, sv, h1, hxe, rfl, hr⟩ | ⟨keys, ys, ps, r, es, h1, h2, h3, h4, hxe, rfl, hr, hm, he⟩
  · have a3 := Tryz.asR_B
    have hq : Hid (pairOk x = none) := pairOk_kind (by rw [hxe]; show k' ≠ 5; omega)
    clear hxe
    go_wp2_with fail
    go_ret3
    exact ⟨by first | exact below_alloc1 _ _ | exact Below.refl _ _, Or.inr ⟨hq.out, _, rfl⟩⟩
  · have a3 := Tryz.asR_N
    have hq : Hid (pairOk x = none) := pairOk_kind (by rw [hxe]; show (3 : Int) ≠ 5; omega)
    clear hxe
    go_wp2_with fail
    go_ret3
    exact ⟨by first | exact below_alloc1 _ _ | exact Below.refl _ _, Or.inr ⟨hq.out, _, rfl⟩⟩
  · have a3 := Tryz.asR_S
    have hq : Hid (pairOk x = none) := pairOk_kind (by rw [hxe]; show (4 : Int) ≠ 5; omega)
    clear hxe
    go_wp2_with fail
    go_ret3
    exact ⟨by first | exact below_alloc1 _ _ | exact Below.refl _ _, Or.inr ⟨hq.out, _, rfl⟩⟩
  · have a3 := Tryz.asR_R
    obtain ⟨sa, sc, rfl, hsl⟩ := hr.open'
    have hA := below_alloc1 w (.cells #[.slice sa ys.length sc] 66)
    have HA := hide hA
    by_cases hl2 : ys.length = 2
    · obtain ⟨a, b, rfl⟩ : ∃ a b, ys = [a, b] := by
        match ys, hl2 with
        | [a, b], _ => exact ⟨a, b, rfl⟩
      have hxl : Hid (Nd.list x = [a, b]) := by show Nd.list x = [a, b]; rw [hxe]
      have hx5 : Nd.kind x = 5 := by rw [hxe]
      have hrA := hr.moved (At' := TreeG S (w.alloc (.cells #[.slice sa [a, b].length sc] 66)) (d + 1)) (hS.same hA) (fun _ h => h) (fun x u hx => TreeG.moved (hS.same hA) (fun _ h => h) (d + 1) x u hx)
      obtain ⟨_, a', cap', hv', h3⟩ := hrA
      rcases h3 with h3 | ⟨bb, oo, hB, rfl, hc⟩
      · cases h3
      cases hv'
      obtain ⟨ua, e0, hua⟩ := hc 0 a rfl
      obtain ⟨ub, e1, hub⟩ := hc 1 b rfl
      obtain ⟨Tb, ub', rfl⟩ := hub.iface
      have hlt := hS bb hB
      have f0 : w.cell? ⟨bb, oo, none⟩ = some ua := by rw [← hA.cell (p := ⟨bb, oo, none⟩) hlt]; exact e0
      have f1 : w.cell? ⟨bb, oo + 1, none⟩ = some (.iface Tb ub') := by rw [← hA.cell (p := ⟨bb, oo + 1, none⟩) hlt]; exact e1
      have HUB := hide hub
      rcases hua with ⟨k', h1, hye, rfl⟩ | ⟨n', h1, hye, rfl⟩ | ⟨s', h1, hye, rfl⟩ | ⟨ys', sv', h1, hye, rfl, hr'⟩ | ⟨keys, ys', ps, r, es, h1, h2, h3, h4, hye, rfl, hr', hm, he⟩
      · have a4 := Tryz.asS_B
        have hq : Hid (pairOk x = none) := pairOk_first hxl.out (by rw [hye]; show k' ≠ 4; omega)
        clear hye hc hub hr hA hx5 hxe
        go_wp2_with fail
        go_ret3
        exact ⟨below_trans HA.out (below_alloc1 _ _), Or.inr ⟨hq.out, _, rfl⟩⟩
      · have a4 := Tryz.asS_N
        have hq : Hid (pairOk x = none) := pairOk_first hxl.out (by rw [hye]; show (3 : Int) ≠ 4; omega)
        clear hye hc hub hr hA hx5 hxe
        go_wp2_with fail
        go_ret3
        exact ⟨below_trans HA.out (below_alloc1 _ _), Or.inr ⟨hq.out, _, rfl⟩⟩
      · have a4 := Tryz.asS_S
        have hq : Hid (pairOk x = some (s', b)) := by
          show pairOk x = some (s', b)
          rw [pairOk_some hx5 hxl.out (by rw [hye]), hye]
        have hA2 := below_alloc1 (w.alloc (.cells #[.slice (some ⟨bb, oo, none⟩) [a, b].length sc] 66)) (.cells #[.string s'] 74)
        have HU : Hid (TreeG S ((w.alloc (.cells #[.slice (some ⟨bb, oo, none⟩) [a, b].length sc] 66)).alloc (.cells #[.string s'] 74)) (d + 1) b (.iface Tb ub')) := HUB.out.same ((hS.later hA.size).same hA2)
        have HB2 := hide (below_trans hA hA2)
        clear hye hc hub hr hA hA2 hx5 hxe HUB
        go_wp2_with fail
        go_quiet (fail)
        go_wp2_with fail
        go_ret3
        exact ⟨HB2.out.trans (below_drewN _ _ _), Or.inl ⟨_, _, _, hq.out, rfl, HU.out.same (fun _ _ => rfl)⟩⟩
      · have a4 := Tryz.asS_R
        have hq : Hid (pairOk x = none) := pairOk_first hxl.out (by rw [hye]; show (5 : Int) ≠ 4; omega)
        clear hye hc hub hr hA hx5 hxe hr'
        go_wp2_with fail
        go_ret3
        exact ⟨below_trans HA.out (below_alloc1 _ _), Or.inr ⟨hq.out, _, rfl⟩⟩
      · have a4 := Tryz.asS_M
        have hq : Hid (pairOk x = none) := pairOk_first hxl.out (by rw [hye]; show (6 : Int) ≠ 4; omega)
        clear hye hc hub hr hA hx5 hxe hr' he hm h4 h3 h2
        go_wp2_with fail
        go_ret3
        exact ⟨below_trans HA.out (below_alloc1 _ _), Or.inr ⟨hq.out, _, rfl⟩⟩
    · have hq : Hid (pairOk x = none) := pairOk_len (by rw [hxe]; exact hl2)
      have hl2' : ((ys.length : Int) != 2) = true := by rw [bne_iff_ne]; omega
      clear hxe hr hA
      go_wp2_with fail
      go_ret3
      exact ⟨HA.out, Or.inr ⟨hq.out, _, rfl⟩⟩
  · have a3 := Tryz.asR_M
    have hq : Hid (pairOk x = none) := pairOk_kind (by rw [hxe]; show (6 : Int) ≠ 5; omega)
    clear hxe he hm hr h4 h3 h2
    go_wp2_with fail
    go_ret3
    exact ⟨by first | exact below_alloc1 _ _ | exact Below.refl _ _, Or.inr ⟨hq.out, _, rfl⟩⟩
end Go.Proofs.YtbcafaomfaainaaGreatDoor

/- ofRow of the program, at keysOfPairs. -/
namespace Go.Proofs.YtbcafaomfaainaaGreatDoor
open Go.RowKit Go.Deep

set_option maxRecDepth 100000 in
set_option maxHeartbeats 2000000 in
theorem ofRow_keysOfPairs (d e : Nat) (S : Nat → Prop) (t : Tr (d + 1)) (v : Value) (f : List (Tr d) → Option (Tr (e + 1))) (w : World) (hv : ValAt S w (d + 1) t v) (hS : Within S w) (hg : ErrType w)
    (H : Hid (∀ (N : Nat) (xs : List (Tr d)) (a : Option Addr) (cap : Nat) (vs : List Value) (w1 : World), treesL d t = some xs → GTo N w1 (.slice a xs.length cap) xs vs → w.heap.size ≤ N → N ≤ w1.heap.size → ErrType w1 → Calls Tryz.prog 19 #[.slice a xs.length cap] w1 (TellF e N (f xs) w1))) :
    Calls Tryz.prog 18 #[v, .func (.func 19) #[] #[]] w (TellQ e (rowTell f t).1 (rowTell f t).2 w) := by
  obtain ⟨k, n, s, ak, lk, ck, al, ll, cl, rfl⟩ := hv.shape
  obtain ⟨W0, hW⟩ : ∃ W0, W0 = (w.alloc (.cells #[.int .i64 k, .int .i64 n, .string s, .slice ak lk ck, .slice al ll cl] 29)).alloc (.cells #[.int .i64 0, .int .i64 0, .string { data := #[] }, .slice none 0 0, .slice none 0 0] 29) := ⟨_, rfl⟩
  have hW0 : Below w.heap.size w W0 := by rw [hW]; exact below_trans (below_alloc1 _ _) (below_alloc1 _ _)
  have k1 : Blk5 W0 (w.heap.size + 1) 29 (.int .i64 0) (.int .i64 0) (.string { data := #[] }) (.slice none 0 0) (.slice none 0 0) := by
    have := Blk5.new (w.alloc (.cells #[.int .i64 k, .int .i64 n, .string s, .slice ak lk ck, .slice al ll cl] 29)) 29 (.int .i64 0) (.int .i64 0) (.string { data := #[] }) (.slice none 0 0) (.slice none 0 0)
    rw [World.size_alloc] at this
    rw [hW]
    exact this
  have HW := hide hW
  clear hW
  go_enter Tryz.func18, Tryz.ntmps18
  go_wp2_with fail
  rw [← HW.out]
  clear HW
  refine (treesInRow_own d S t _ W0 (hv.same (hS.same hW0)) (hS.later hW0.size)).mono ?_
  rintro en w1 ⟨hb1, hq⟩
  have hB1 := below_trans hW0 hb1
  have k2 := k1.below hb1
  have hg1 := hg.below hB1
  have hl1 := k1.lt
  have hs0 := hW0.size
  have hs1 := hb1.size
  clear hv
  -- what is told, however it is
  have hfin : ∀ (w1' : World), Below W0.heap.size w1 w1' → ∀ (x : Tr (e + 1)) (ok : Bool), Hid (∀ en w2, TellQ e x ok w1' en w2 → ∃ v0 v1 v2 v3 v4 v5 v6 v7 v8, en = .returned (.tuple #[.agg #[.int .i64 v0, .int .i64 v1, .string v2, .slice v3 v4 v5, .slice v6 v7 v8], .bool ok]) ∧
      Blk5 w2 (w.heap.size + 1) 29 (.int .i64 0) (.int .i64 0) (.string { data := #[] }) (.slice none 0 0) (.slice none 0 0) ∧
      ∀ wF, wF = set5 w2 (w.heap.size + 1) 0 (.int .i64 v0) (.int .i64 v1) (.string v2) (.slice v3 v4 v5) (.slice v6 v7 v8) → ValOwn wF (e + 1) (Fresh w wF) x (.agg #[.int .i64 v0, .int .i64 v1, .string v2, .slice v3 v4 v5, .slice v6 v7 v8]) ∧ Below w.heap.size w wF) := fun w1' hb' x ok => by
    intro en w2 ⟨v, he, hv, hb2⟩
    obtain ⟨v0, v1, v2, v3, v4, v5, v6, v7, v8, rfl⟩ := (ValOwn.at _ _ _ _ hv).shape
    have hs' := hb'.size
    exact ⟨v0, v1, v2, v3, v4, v5, v6, v7, v8, he, (k2.of_block (hb'.block _ hl1)).below hb2, tell_end hv (below_trans (hB1.trans (hb'.mono hs0)) hb2) (by omega) (by omega)⟩
  clear hW0 k1 hb1
  rcases hq with ⟨xs, xa, xc, vs, hrow, rfl, hto⟩ | ⟨hrow, why, rfl⟩
  · have hcall := hide (H.out W0.heap.size xs xa xc vs w1 hrow hto hs0 hs1 hg1)
    have HR := hide hrow
    clear hto H hrow
    go_wp2_with fail
    refine Calls.mono hcall.out ?_
    rintro en w2 ⟨hb2, hq⟩
    clear hcall
    have hz2 := hb2.size
    have h00 : 0 < W0.heap.size := Nat.lt_of_lt_of_le hg.lt hs0
    have hg2 : ErrType w2 := (hb2.cell (p := ⟨0, 0, none⟩) h00).trans hg1
    rcases hq with ⟨x, u, hx, rfl, hu⟩ | ⟨hx, why, rfl⟩
    · obtain ⟨T, u', rfl⟩ := hu.iface
      have hT := hide (rowTell_some HR.out hx)
      have hcall := hide (told_tree e _ x _ w2 hu (fun b hb => hb.2))
      clear hx hu
      go_wp2_with fail
      refine Calls.mono hcall.out ?_
      intro en w3 hq
      obtain ⟨v0, v1, v2, v3, v4, v5, v6, v7, v8, rfl, k3, hF⟩ := (hfin w2 hb2 _ _).out en w3 hq
      have HF := hide hF
      obtain ⟨y0, y1, y2, y3, y4⟩ := k3.cell
      have yf := k3.frozen
      clear hF hq hfin hcall k3
      go_wp2_with fail
      refine bodyPost_ret (v := .tuple #[.agg #[.int .i64 v0, .int .i64 v1, .string v2, .slice v3 v4 v5, .slice v6 v7 v8], .bool (okT (e + 1) x)]) (by simp [results, Tryz.results18, go_sem, y0, y1, y2, y3, y4]) rfl ⟨_, by rw [hT.out], by rw [hT.out]; exact (HF.out _ rfl).1, (HF.out _ rfl).2⟩
    · have hT := hide (rowTell_fault HR.out hx)
      have hcall := hide (told_fault e .nilIface why w2 hg2)
      unfold faultV
      clear hx
      go_wp2_with fail
      refine Calls.mono hcall.out ?_
      intro en w3 hq
      obtain ⟨v0, v1, v2, v3, v4, v5, v6, v7, v8, rfl, k3, hF⟩ := (hfin w2 hb2 _ _).out en w3 hq
      have HF := hide hF
      obtain ⟨y0, y1, y2, y3, y4⟩ := k3.cell
      have yf := k3.frozen
      clear hF hq hfin hcall k3
      go_wp2_with fail
      refine bodyPost_ret (v := .tuple #[.agg #[.int .i64 v0, .int .i64 v1, .string v2, .slice v3 v4 v5, .slice v6 v7 v8], .bool false]) (by simp [results, Tryz.results18, go_sem, y0, y1, y2, y3, y4]) rfl ⟨_, by rw [hT.out], by rw [hT.out]; exact (HF.out _ rfl).1, (HF.out _ rfl).2⟩
  · have hT := hide (rowTell_none (f := f) hrow)
    have hcall := hide (told_fault e .nilIface why w1 hg1)
    unfold faultV
    clear hrow H
    go_wp2_with fail
    refine Calls.mono hcall.out ?_
    intro en w2 hq
    obtain ⟨v0, v1, v2, v3, v4, v5, v6, v7, v8, rfl, k3, hF⟩ := (hfin w1 (Below.refl _ _) _ _).out en w2 hq
    have HF := hide hF
    obtain ⟨y0, y1, y2, y3, y4⟩ := k3.cell
    have yf := k3.frozen
    clear hF hq hfin hcall k3
    go_wp2_with fail
    refine bodyPost_ret (v := .tuple #[.agg #[.int .i64 v0, .int .i64 v1, .string v2, .slice v3 v4 v5, .slice v6 v7 v8], .bool false]) (by simp [results, Tryz.results18, go_sem, y0, y1, y2, y3, y4]) rfl ⟨_, by rw [hT.out], by rw [hT.out]; exact (HF.out _ rfl).1, (HF.out _ rfl).2⟩
end Go.Proofs.YtbcafaomfaainaaGreatDoor

/- keysOfPairs, RowKeys of the program. -/
namespace Go.Proofs.YtbcafaomfaainaaGreatDoor
open Go.RowKit Go.Deep

theorem Row1At.nth {α : Type} {S : Nat → Prop} {w : World} {At : α → Value → Prop} {a : Option Addr} {n cap k : Nat} {xs : List α} (h : Row1At S w At (.slice a n cap) xs) (hk : k < xs.length) : ∃ b o x u, a = some ⟨b, o, none⟩ ∧ S b ∧ xs[k]? = some x ∧ w.cell? ⟨b, o + k, none⟩ = some u ∧ At x u := by
  obtain ⟨_, a', cap', hv, h3⟩ := h
  cases hv
  rcases h3 with rfl | ⟨b, o, hB, ha, hc⟩
  · simp at hk
  · obtain ⟨u, e0, e1⟩ := hc k _ (List.getElem?_eq_getElem hk)
    exact ⟨b, o, xs[k], u, ha, hB, List.getElem?_eq_getElem hk, e0, e1⟩
theorem keysF_none {d : Nat} {xs : List (Tr (d + 2))} (h : accF xs [] = none) : keysF d xs = none := by
  unfold keysF
  rw [h]
  rfl
theorem keysF_some {d : Nat} {xs : List (Tr (d + 2))} {acc : List (ByteArray × Tr (d + 1))} (h : accF xs [] = some acc) : keysF d xs = some (mapT (d + 1) acc) := by
  unfold keysF
  rw [h]
  rfl

set_option maxRecDepth 100000 in
set_option maxHeartbeats 8000000 in
theorem keysOfPairs_any (d N : Nat) (xs : List (Tr (d + 2))) (a : Option Addr) (cap : Nat) (vs : List Value) (w : World) (hto0 : GTo N w (.slice a xs.length cap) xs vs) (hN : N ≤ w.heap.size) (hl : xs.length ≤ 60) (hoks : ∀ x ∈ xs, okT (d + 2) x = true) :
    Calls Tryz.prog 19 #[.slice a xs.length cap] w (TellF (d + 1) N (keysF d xs) w) := by
  obtain ⟨S, hSd⟩ : ∃ S : Nat → Prop, S = fun b => N ≤ b ∧ b < w.heap.size := ⟨_, rfl⟩
  have hrow0 : Row1At S w (TreeG S w (d + 2)) (.slice a xs.length cap) xs := by rw [hSd]; exact hto0.row (by omega)
  have hSw : Within S w := by rw [hSd]; exact fun b hb => hb.2
  have hSN : ∀ b, S b → N ≤ b := by rw [hSd]; exact fun b hb => hb.1
  have hmk := fun w => run_makeMap (P := Tryz.prog) 57 w
  have hA := below_alloc1 w (.map #[] 0)
  have hst : Hid (MapB (d := d + 1) S (w.alloc (.map #[] 0)) w.heap.size #[] [] []) := ⟨heap_alloc_new _ _, List.Perm.refl _, rfl, fun i k x h => by simp at h⟩
  have HOK := hide hoks
  clear hSd hto0 hoks
  go_enter Tryz.func19, Tryz.ntmps19
  go_wp2_with fail
  go_loopw [13] (fun i wr => ∃ (k : Nat) (es : Array MapEntry) (ps acc : List (ByteArray × Tr (d + 1))), k ≤ xs.length ∧ i = .int .i64 (k : Int) ∧ Hid (AccOk k acc) ∧ Hid (accF xs [] = accF (xs.drop k) acc) ∧ Hid (MapB S wr w.heap.size es ps acc) ∧ Hid (Below w.heap.size w wr) ∧ w.heap.size < wr.heap.size) (fun i _ => xs.length - (intOf i).toNat)
  case atStart => exact ⟨0, _, _, _, Nat.zero_le _, rfl, AccOk.nil, rfl, hst, hA, by simp⟩
  case round =>
    clear hst hA
    obtain ⟨k, es, ps, acc, hk, rfl, hacc, hfin, hmap, hbr, hsz⟩ := hrel
    by_cases hkl : k < xs.length
    · have hki : (k : Int) < (xs.length : Int) := by omega
      have hmv := hSw.same hbr.out
      have hrow := hrow0.moved (At' := TreeG S wr (d + 2)) hmv (fun _ h => h) (fun x u hx => TreeG.moved hmv (fun _ h => h) (d + 2) x u hx)
      obtain ⟨b, o, x, u, rfl, hb, hx, e0, hu⟩ := hrow.nth hkl
      have hstp := hide (accF_step hx acc)
      have hxok := hide (HOK.out x (List.mem_of_getElem? hx))
      obtain ⟨Tu, u', rfl⟩ := hu.iface
      have hcall := hide (pairOf_any d S x (.iface Tu u') wr hu (hSw.later (Nat.le_of_lt hsz)))
      clear hrow0 hx hrow hu hmv
      go_wp2_with fail
      refine Calls.mono hcall.out ?_
      rintro e w1 ⟨hb1, hq⟩
      have hz1 := hb1.size
      rcases hq with ⟨s, y, v, hp, rfl, hv⟩ | ⟨hp, why, rfl⟩
      · obtain ⟨Tv, v', rfl⟩ := hv.iface
        have hlist : ∃ a0, Nd.list x = [a0, y] ∧ Nd.kind a0 = 4 ∧ Nd.str a0 = s := by
          unfold pairOk at hp
          split at hp
          · split at hp
            · rename_i a0 b0 hl0
              split at hp
              · rename_i h4
                simp at hp
                exact ⟨a0, by rw [hl0, hp.2], h4, hp.1⟩
              · cases hp
            · cases hp
          · cases hp
        obtain ⟨a0, hl0, h4, hs0⟩ := hlist
        have hyok : okT (d + 1) y = true := okT_part hxok.out (by rw [hl0]; simp)
        have hsok : strOk s = true := by
          rw [← hs0]
          exact okT_text (okT_part hxok.out (by rw [hl0]; simp)) h4
        have hnS : ¬ S w.heap.size := fun h => by have := hSw _ h; omega
        have hm1 : MapB S w1 w.heap.size es ps acc := hmap.out.moved (hb1.block _ hsz) (fun b hb => hb1.block b (by have := hSw b hb; omega))
        obtain ⟨w2, es2, ps2, hrun, hbp, hsz2, hblk2, hm2⟩ := hm1.put (s := s) hacc.out.good hnS hv
        have HM := hide hm2
        have HACC := hide (hacc.out.put hsok hyok)
        have HFIN : Hid (accF xs [] = accF (xs.drop (k + 1)) (putL (acc.map Prod.fst) (acc.map Prod.snd) s y)) := by
          show accF xs [] = _
          rw [hfin.out, hstp.out, hp]
        have HB2 : Hid (Below w.heap.size w w2) := (hbr.out.trans (hb1.mono (by omega))).trans hbp
        have hsz3 : w.heap.size < w2.heap.size := by omega
        clear hp hv hl0 h4 hs0 hyok hsok hnS hm1 hbp hblk2 hm2 hmap hacc hfin hstp hbr hb1 hcall hxok
        go_wp2_with fail
        go_roundw
        case rel => exact ⟨k + 1, es2, ps2, _, by omega, by go_num, HACC, HFIN, HM, HB2, hsz3⟩
        case measure => simp [intOf]; omega
      · have hq : Hid (keysF d xs = none) := by
          refine keysF_none ?_
          rw [hfin.out, hstp.out, hp]
        have HB : Hid (Below N w w1) := ((hbr.out.trans (hb1.mono (by omega))).mono hN)
        unfold faultV
        clear hp hmap hacc hfin hstp hbr hb1 hcall
        go_wp2_with fail
        go_ret2
        exact ⟨HB.out, Or.inr ⟨hq.out, why, rfl⟩⟩
    · obtain rfl : k = xs.length := by omega
      have hq : Hid (keysF d xs = some (mapT (d + 1) acc)) := by
        refine keysF_some ?_
        rw [hfin.out, List.drop_eq_nil_of_le (Nat.le_refl _)]
        rfl
      have hal := hacc.out.len
      have HG : Hid (TreeG (fun b => N ≤ b ∧ b < wr.heap.size) wr (d + 2) (mapT (d + 1) acc) (.iface 61 (.agg #[.map (some w.heap.size)]))) := hmap.out.tree hacc.out.good (by omega) hN (fun b hb => ⟨hSN b hb, by have := hSw b hb; omega⟩)
      have HB : Hid (Below N w wr) := hbr.out.mono hN
      clear hmap hacc hfin hbr hrow0
      go_wp2_with fail
      go_ret2
      exact ⟨HB.out, Or.inl ⟨_, _, hq.out, rfl, HG.out⟩⟩

set_option maxRecDepth 100000 in
set_option maxHeartbeats 2000000 in
theorem implRowKeys_any (d : Nat) (S : Nat → Prop) (t : Tr (d + 2 + 1)) (v : Value) (w : World) (hv : ValAt S w (d + 2 + 1) t v) (hS : Within S w) (hg : ErrType w) :
    Calls Tryz.prog 7 #[v] w (TellQ (d + 1) (rowTell (keysF d) t).1 (rowTell (keysF d) t).2 w) := by
  obtain ⟨k, n, s, ak, lk, ck, al, ll, cl, rfl⟩ := hv.shape
  obtain ⟨W0, hW⟩ : ∃ W0, W0 = (w.alloc (.cells #[.int .i64 k, .int .i64 n, .string s, .slice ak lk ck, .slice al ll cl] 29)).alloc (.cells #[.int .i64 0, .int .i64 0, .string { data := #[] }, .slice none 0 0, .slice none 0 0] 29) := ⟨_, rfl⟩
  have hW0 : Below w.heap.size w W0 := by rw [hW]; exact below_trans (below_alloc1 _ _) (below_alloc1 _ _)
  have k1 : Blk5 W0 (w.heap.size + 1) 29 (.int .i64 0) (.int .i64 0) (.string { data := #[] }) (.slice none 0 0) (.slice none 0 0) := by
    have := Blk5.new (w.alloc (.cells #[.int .i64 k, .int .i64 n, .string s, .slice ak lk ck, .slice al ll cl] 29)) 29 (.int .i64 0) (.int .i64 0) (.string { data := #[] }) (.slice none 0 0) (.slice none 0 0)
    rw [World.size_alloc] at this
    rw [hW]
    exact this
  have hcall := hide (ofRow_keysOfPairs (d + 2) (d + 1) S t _ (keysF d) W0 (hv.same (hS.same hW0)) (hS.later hW0.size) (hg.below hW0) (fun N xs a cap vs w1 hrow hto _ hN _ => keysOfPairs_any d N xs a cap vs w1 hto hN (by obtain ⟨hok, _, rfl⟩ := treesL_some hrow; exact (okT_kinds hok).2.1) (by obtain ⟨hok, _, rfl⟩ := treesL_some hrow; exact fun x hx => okT_part hok hx)))
  have HW := hide hW
  have hlt := k1.lt
  clear hW hv
  go_enter Tryz.func7, Tryz.ntmps7
  go_wp2_with fail
  rw [← HW.out]
  clear HW
  refine Calls.mono hcall.out ?_
  rintro e w1 ⟨r, rfl, hr, hb1⟩
  obtain ⟨v0, v1, v2, v3, v4, v5, v6, v7, v8, rfl⟩ := (ValOwn.at _ _ _ _ hr).shape
  have HF := hide (tell_end hr (below_trans hW0 hb1) (by omega) hlt)
  have k3 := k1.below hb1
  obtain ⟨y0, y1, y2, y3, y4⟩ := k3.cell
  have yf := k3.frozen
  clear hr hb1 k3 k1 hcall hW0
  go_wp2_with fail
  refine bodyPost_ret (v := .tuple #[.agg #[.int .i64 v0, .int .i64 v1, .string v2, .slice v3 v4 v5, .slice v6 v7 v8], .bool (rowTell (keysF d) t).2]) (by simp [results, Tryz.results7, go_sem, y0, y1, y2, y3, y4]) rfl ⟨_, rfl, (HF.out _ rfl).1, (HF.out _ rfl).2⟩
end Go.Proofs.YtbcafaomfaainaaGreatDoor

/- toStringS, toVal, toValS once more: the copy owns its memory. -/
namespace Go.Proofs.YtbcafaomfaainaaGreatDoor
open Go.RowKit Go.Deep

set_option maxHeartbeats 400000 in
theorem toStringS_own (S : Nat → Prop) (ss : List ByteArray) (v : Value) (w : World) (hv : StrsAt S w v ss) (hS : Within S w) :
    Calls Tryz.prog 16 #[v] w fun e w' => ∃ u, e = .returned u ∧ StrsOwn (Fresh w w') w' u ss ∧ Below w.heap.size w w' := by
  obtain ⟨a, cap, rfl, hlen⟩ := hv.open'
  have hmk := run_make_row' (P := Tryz.prog) 22 9 (.string ByteArray.empty) 16 Tryz.underlying22 Tryz.infoStr rfl .i64 .i64 ss.length (by omega) (by omega)
  have hb0 : Below w.heap.size w (w.alloc (.cells (madeCells #[.string ByteArray.empty] ss.length) 9)) := below_alloc1 _ _
  have hr0 := World.rowIs_made w (.string ByteArray.empty) ss.length 9
  go_enter Tryz.func16, Tryz.ntmps16
  go_wp2_with fail
  go_loopw [4] (fun i wr => ∃ (k : Nat), k ≤ ss.length ∧ i = .int .i64 k ∧ wr.rowIs w.heap.size 9 ss.length (strTo ss k) ∧ Below w.heap.size w wr) (fun i _ => ss.length - (intOf i).toNat)
  case atStart => exact ⟨0, Nat.zero_le _, rfl, hr0.congr (fun i _ => rfl), hb0⟩
  case round =>
    clear hb0 hr0 hmk
    obtain ⟨k, hk, rfl, hrow, hbel⟩ := hrel
    by_cases hkl : k < ss.length
    · obtain ⟨b, o, s, rfl, hb, hs, hsb, hck⟩ := (hv.same (hS.same hbel)).cell hkl
      have hc1 := hrow.cell hkl
      have hf1 := hrow.frozen k
      have hrow' := (hrow.set k (.string s)).congr (fun j _ => strTo_set ss k hs j)
      have hbel' := hbel.setCell (p := ⟨w.heap.size, k, none⟩) (Nat.le_refl _) (.string s)
      have HR := And.intro hrow' hbel'
      have HR' : Hid _ := HR
      clear hrow' hbel' HR hv hs hrow hbel
      go_wp2_with fail
      go_roundw
      case rel => exact ⟨k + 1, by omega, by go_num, HR'.out.1, HR'.out.2⟩
      case measure => simp [intOf]; omega
    · go_wp2_with fail
      go_ret
      refine ⟨_, rfl, ⟨hlen, ?_, _, _, rfl, ?_⟩, hbel⟩
      · obtain ⟨_, h2, _⟩ := hv
        exact h2
      · refine Or.inr ⟨w.heap.size, ss.length, _, ⟨Nat.le_refl _, hrow.lt⟩, rfl, Nat.le_refl _, hrow, fun i s hi => ?_⟩
        obtain ⟨hi', e⟩ := List.getElem?_eq_some_iff.1 hi
        rw [strTo, if_pos (by omega)]
        simp [hi]

/-- The first k things of a row that is being filled, each with blocks of its own. -/
structure FilledO {d : Nat} (N n : Nat) (xs : List (Tr d)) (w : World) (k : Nat) (f : Nat → Value) (P : Nat → Nat → Prop) : Prop where
  row : w.rowIs N 29 n f
  lo : ∀ j c, j < k → P j c → N < c ∧ c < w.heap.size
  dis : ∀ i j c, i < k → j < k → P i c → P j c → i = j
  val : ∀ j x, j < k → xs[j]? = some x → ValOwn w d (P j) x (.agg #[f (j * 5), f (j * 5 + 1), f (j * 5 + 2), f (j * 5 + 3), f (j * 5 + 4)])

theorem FilledO.step {d N n : Nat} {xs : List (Tr d)} {wr w1 : World} {k : Nat} {f : Nat → Value} {P : Nat → Nat → Prop} {x : Tr d} {v0 v1 v2 v3 v4 : Value} (h : FilledO N n xs wr k f P) (hb : Below wr.heap.size wr w1)
    (hx : xs[k]? = some x) (hu : ValOwn w1 d (Fresh wr w1) x (.agg #[v0, v1, v2, v3, v4])) :
    FilledO N n xs (set5 w1 N (k * 5) v0 v1 v2 v3 v4) (k + 1) (put5 f (k * 5) v0 v1 v2 v3 v4) (fun j c => if j = k then Fresh wr w1 c else P j c) := by
  obtain ⟨hrow, hlo, hdis, hv⟩ := h
  have hN := hrow.lt
  have hs2 : ∀ R : Nat → Prop, (∀ b, R b → N < b) → Same R w1 (set5 w1 N (k * 5) v0 v1 v2 v3 v4) := fun R hR b hb => set5_block _ _ _ _ _ _ _ _ _ (by have := hR b hb; omega)
  refine ⟨rowIs_set5 (hrow.of_block (hb.block N hN)) _ _ _ _ _ _, fun j c hj hc => ?_, fun i j c hi hj hci hcj => ?_, fun j y hj hy => ?_⟩
  · rw [set5_size]
    by_cases e : j = k
    · rw [if_pos e] at hc
      have := hc.1
      exact ⟨by omega, hc.2⟩
    · rw [if_neg e] at hc
      have := hlo j c (by omega) hc
      have := hb.size
      omega
  · by_cases ei : i = k
    · by_cases ej : j = k
      · omega
      · rw [if_pos ei] at hci
        rw [if_neg ej] at hcj
        have := (hlo j c (by omega) hcj).2
        have := hci.1
        omega
    · rw [if_neg ei] at hci
      by_cases ej : j = k
      · rw [if_pos ej] at hcj
        have := (hlo i c (by omega) hci).2
        have := hcj.1
        omega
      · rw [if_neg ej] at hcj
        exact hdis i j c (by omega) (by omega) hci hcj
  · by_cases e : j = k
    · subst e
      rw [hx] at hy
      cases hy
      obtain ⟨p0, p1, p2, p3, p4⟩ := put5_at f (j * 5) v0 v1 v2 v3 v4
      rw [p0, p1, p2, p3, p4]
      simp only [if_true]
      exact hu.same (hs2 _ (fun b hb => by have := hb.1; omega))
    · rw [put5_off _ _ _ _ _ _ _ _ (by omega), put5_off _ _ _ _ _ _ _ _ (by omega), put5_off _ _ _ _ _ _ _ _ (by omega), put5_off _ _ _ _ _ _ _ _ (by omega), put5_off _ _ _ _ _ _ _ _ (by omega)]
      simp only [if_neg e]
      have h1 := hv j y (by omega) hy
      have h2 := h1.same (w' := w1) (fun b hS => hb.block b (hlo j b (by omega) hS).2)
      exact h2.same (hs2 _ (fun b hb => (hlo j b (by omega) hb).1))

/-- What toVal does with trees of this depth. -/
def ToValO (d : Nat) : Prop := ∀ (S : Nat → Prop) (t : Tr d) (v : Value) (w : World), ValAt S w d t v → Within S w →
    Calls Tryz.prog 6 #[v] w fun e w' => ∃ u, e = .returned u ∧ ValOwn w' d (Fresh w w') t u ∧ Below w.heap.size w w'

set_option maxHeartbeats 1000000 in
theorem toValS_own (d : Nat) (H : ToValO d) (S : Nat → Prop) (xs : List (Tr d)) (v : Value) (w : World) (hv : RowAt S w (ValAt S w d) v xs) (hS : Within S w) :
    Calls Tryz.prog 17 #[v] w fun e w' => ∃ u, e = .returned u ∧ RowOwn w' (fun P x u => ValOwn w' d P x u) (Fresh w w') u xs ∧ Below w.heap.size w w' := by
  obtain ⟨a, cap, rfl, hlen⟩ := hv.open'
  have hmk := run_make5 xs.length hlen
  have hb0 : Below w.heap.size w (w.alloc (.cells (madeCells zero5 (xs.length * 5)) 29)) := below_alloc1 _ _
  have hr0 : FilledO (d := d) w.heap.size (xs.length * 5) xs (w.alloc (.cells (madeCells zero5 (xs.length * 5)) 29)) 0 (fun j => (madeCells zero5 (xs.length * 5)).getD j undef) (fun _ _ => False) := by
    refine ⟨?_, fun j x hj => by omega, fun j x c hj => by omega, fun j x hj => by omega⟩
    have := World.rowIs_alloc w (madeCells zero5 (xs.length * 5)) 29 (fun j => (madeCells zero5 (xs.length * 5)).getD j undef) (fun i hi => by simp [hi])
    rwa [size_madeCells] at this
  have HB : Hid _ := And.intro hb0 hr0
  clear hb0 hr0
  go_enter Tryz.func17, Tryz.ntmps17
  go_wp2_with fail
  go_loopw [4] (fun i wr => ∃ (k : Nat) (f : Nat → Value) (P : Nat → Nat → Prop), k ≤ xs.length ∧ i = .int .i64 k ∧ FilledO w.heap.size (xs.length * 5) xs wr k f P ∧ Below w.heap.size w wr) (fun i _ => xs.length - (intOf i).toNat)
  case atStart => exact ⟨0, _, _, Nat.zero_le _, rfl, HB.out.2, HB.out.1⟩
  case round =>
    clear HB hmk
    obtain ⟨k, f, P, hk, rfl, hrow, hbel⟩ := hrel
    by_cases hkl : k < xs.length
    · obtain ⟨b, o, x, c0, c1, c2, c3, c4, rfl, hb, hx, e0, e1, e2, e3, e4, hval⟩ := (hv.same (hS.same hbel)).cell hkl
      go_wp2_with fail
      refine (H S x _ wr hval (hS.later hbel.size)).mono ?_
      rintro e w1 ⟨u, rfl, hu, hb1⟩
      obtain ⟨v0, v1, v2, v3, v4, v5, v6, v7, v8, rfl⟩ := (ValOwn.at d _ _ _ hu).shape
      have hrow' := hrow.step hb1 hx hu
      have hbel' := below_set5 (hbel.trans (hb1.mono hbel.size)) (Nat.le_refl w.heap.size) (k * 5) (.int .i64 v0) (.int .i64 v1) (.string v2) (.slice v3 v4 v5) (.slice v6 v7 v8)
      have HR : Hid _ := And.intro hrow' hbel'
      have hr1 := hrow.row.of_block (hb1.block w.heap.size hrow.row.lt)
      have g0 := hr1.cell (i := k * 5) (by omega)
      have g1 := hr1.cell (i := k * 5 + 1) (by omega)
      have g2 := hr1.cell (i := k * 5 + 2) (by omega)
      have g3 := hr1.cell (i := k * 5 + 3) (by omega)
      have g4 := hr1.cell (i := k * 5 + 4) (by omega)
      have z0 := hr1.frozen (k * 5)
      have z1 := hr1.frozen (k * 5 + 1)
      have z2 := hr1.frozen (k * 5 + 2)
      have z3 := hr1.frozen (k * 5 + 3)
      have z4 := hr1.frozen (k * 5 + 4)
      clear hrow' hbel' hr1 hrow hbel hb1 hu hval e0 e1 e2 e3 e4 hv hx
      go_wp2_with fail
      go_roundw
      case rel => exact ⟨k + 1, _, _, by omega, by go_num, HR.out.1, HR.out.2⟩
      case measure => simp [intOf]; omega
    · go_wp2_with fail
      go_ret
      obtain rfl : k = xs.length := by omega
      refine ⟨_, rfl, ⟨hlen, _, _, rfl, ?_⟩, hbel⟩
      refine Or.inr ⟨w.heap.size, xs.length * 5, f, fun j c => j < xs.length ∧ P j c, ⟨Nat.le_refl _, hrow.row.lt⟩, rfl, Nat.le_refl _, hrow.row, fun i c hc => ?_, fun i j c hi hj => hrow.dis i j c hi.1 hj.1 hi.2 hj.2, fun i x hi => ?_⟩
      · have := hrow.lo i c hc.1 hc.2
        exact ⟨⟨by omega, this.2⟩, by omega⟩
      · have hi' := (List.getElem?_eq_some_iff.1 hi).1
        exact (hrow.val i x hi' hi).mono (fun c hc => ⟨hi', hc⟩)

set_option maxHeartbeats 1000000 in
theorem toVal_own : ∀ (d : Nat), ToValO d
  | 0 => fun _ _ _ _ h => h.elim
  | d + 1 => by
    intro S t v w hv hS
    have ih := toVal_own d
    obtain ⟨vk, vl, rfl, i1, i2, i3, hk, hl⟩ := hv
    obtain ⟨ak, ck, rfl, hkl⟩ := hk.open'
    obtain ⟨al, cl, rfl, hll⟩ := hl.open'
    go_enter Tryz.func6, Tryz.ntmps6
    go_wp2_with fail
    obtain ⟨k0, k1, k2, hb0, hsz⟩ := laid3 w 25 29 29 (.int .i64 t.kind) (.int .i64 t.num) (.string t.str) (.slice ak t.keys.length ck) (.slice al t.list.length cl)
      (.int .i64 0) (.int .i64 0) (.string { data := #[] }) (.slice none 0 0) (.slice none 0 0) (.int .i64 t.kind) (.int .i64 t.num) (.string t.str) (.slice none 0 0) (.slice none 0 0)
    refine (toStringS_own S t.keys _ _ (hk.same (hS.same hb0)) (hS.later hb0.size)).mono ?_
    rintro e w1 ⟨u1, rfl, hu1, hb1⟩
    obtain ⟨a1, c1, rfl, _⟩ := hu1.open'
    replace k0 := k0.below hb1
    replace k1 := k1.below hb1
    replace k2 := k2.below hb1
    have hu1' := hu1.moved (S' := fun b => w.heap.size + 2 < b ∧ b < w1.heap.size) (Same.refl _ _) (fun b hb => ⟨by have := hb.1; omega, hb.2⟩)
    replace hb1 := below_trans hb0 hb1
    clear hb0 hsz hu1
    obtain ⟨_, _, _, _, z0⟩ := k0.cell
    obtain ⟨x0, x1, x2, x3, x4⟩ := k2.cell
    have x5 := k2.frozen 3
    have k0' := k0.other (a := ⟨w.heap.size + 1 + 1, 3, none⟩) (.slice a1 t.keys.length c1) (by simp; omega)
    have k1' := k1.other (a := ⟨w.heap.size + 1 + 1, 3, none⟩) (.slice a1 t.keys.length c1) (by simp)
    have k2' := k2.set3 (.slice a1 t.keys.length c1)
    go_wp2_with fail
    clear z0 x0 x1 x2 x3 x4 x5 k0 k1 k2 k0'
    have hs1 : Same (fun b => w.heap.size + 2 < b ∧ b < w1.heap.size) w1 (w1.setCell ⟨w.heap.size + 1 + 1, 3, none⟩ (.slice a1 t.keys.length c1)) := fun b hb => Below.heap_setCell _ _ _ _ (by have := hb.1; show b ≠ w.heap.size + 1 + 1; omega)
    have hb2 := hb1.setCell (p := ⟨w.heap.size + 1 + 1, 3, none⟩) (by show w.heap.size ≤ w.heap.size + 1 + 1; omega) (.slice a1 t.keys.length c1)
    have hu2 := hu1'.moved hs1 (fun _ h => h)
    have hz2 := size_setCell1 w1 ⟨w.heap.size + 1 + 1, 3, none⟩ (.slice a1 t.keys.length c1)
    refine (toValS_own d ih S t.list _ _ (hl.same (hS.same hb2)) (hS.later hb2.size)).mono ?_
    clear hb1 hu1' hs1
    rintro e w3 ⟨u3, rfl, hu3, hb3⟩
    obtain ⟨a3, c3, rfl, _⟩ := hu3.open'
    have hk2 := k2'.lt
    replace k1 := k1'.below hb3
    replace k2 := k2'.below hb3
    clear k1' k2'
    rw [hz2] at hk2
    have hz3 : w1.heap.size ≤ w3.heap.size := by have := hb3.size; omega
    have hu2' := hu2.moved (w' := w3) (fun b hb => hb3.block b (by rw [hz2]; exact hb.2)) (fun _ h => h)
    have hu3' := hu3.moved (S' := fun b => w1.heap.size ≤ b ∧ b < w3.heap.size) (Same.refl _ _) (fun b hb => ⟨by have h1 := hb.1; rw [hz2] at h1; exact h1, hb.2⟩) (fun _ _ _ _ h => h)
    have hb4 := below_trans hb2 hb3
    have hw3 := hb4.size
    have hw1 : w.heap.size + 2 < w1.heap.size := by omega
    clear hu2 hu3 hb2 hb3 hz2
    obtain ⟨y0, y1, y2, y3, y4⟩ := k1.cell
    have yf := k1.frozen
    obtain ⟨x0, x1, x2, x3, x4⟩ := k2.cell
    have xf := k2.frozen 4
    have hend : ∀ wF, wF = set5 (w3.setCell ⟨w.heap.size + 1 + 1, 4, none⟩ (.slice a3 t.list.length c3)) (w.heap.size + 1) 0 (.int .i64 t.kind) (.int .i64 t.num) (.string t.str) (.slice a1 t.keys.length c1) (.slice a3 t.list.length c3) →
        ValOwn wF (d + 1) (Fresh w wF) t (.agg #[.int .i64 t.kind, .int .i64 t.num, .string t.str, .slice a1 t.keys.length c1, .slice a3 t.list.length c3]) ∧ Below w.heap.size w wF := by
      intro wF hF
      have hs : ∀ R : Nat → Prop, (∀ b, R b → w.heap.size + 2 < b) → Same R w3 wF := fun R hR b hb => by
        have := hR b hb
        rw [hF, set5_block _ _ _ _ _ _ _ _ _ (by omega), Below.heap_setCell _ _ _ _ (by show b ≠ w.heap.size + 1 + 1; omega)]
      have hzF : wF.heap.size = w3.heap.size := by rw [hF, set5_size, size_setCell1]
      refine ⟨⟨_, _, _, _, rfl, i1, i2, i3, hu2'.moved (hs _ (fun b hb => hb.1)) (fun _ h => h), hu3'.moved (hs _ (fun b hb => by have := hb.1; omega)) (fun _ h => h) (fun P x u hP hx => ValOwn.moved d P P x u hx (hs P (fun b hb => by have := (hP b hb).1; omega)) (fun _ h => h)), ?_, ?_, ?_⟩, ?_⟩
      · exact fun b hb => ⟨by have := hb.1; omega, by have := hb.2; omega⟩
      · exact fun b hb => ⟨by have := hb.1; omega, by have := hb.2; omega⟩
      · exact fun b hb hb' => by have := hb.2; have := hb'.1; omega
      rw [hF]
      exact below_set5 (hb4.setCell (by show w.heap.size ≤ w.heap.size + 1 + 1; omega) _) (by omega) _ _ _ _ _ _
    have HE : Hid _ := hend
    clear hend k1 k2 hu2' hu3' hb4 hk hl
    go_wp2_with fail
    refine bodyPost_ret (v := .agg #[.int .i64 t.kind, .int .i64 t.num, .string t.str, .slice a1 t.keys.length c1, .slice a3 t.list.length c3]) (by simp [results, Tryz.results6, go_sem, y0, y1, y2, y3, y4]) rfl ⟨_, rfl, HE.out _ rfl⟩
end Go.Proofs.YtbcafaomfaainaaGreatDoor

/- Marks from 1 on. -/
namespace Go.Proofs.YtbcafaomfaainaaGreatDoor
open Go.RowKit Go.Deep

theorem markVal_one (d : Nat) (S : Nat → Prop) (t : Tr (d + 1)) (v : Value) (w : World) (hv : ValOwn w (d + 1) S t v) (hS : Within S w) (h1 : 1 + wtT (d + 1) t ≤ 1099511627776) :
    Calls Tryz.prog 9 #[v, .int .i64 1] w fun e w' => e = .returned (.int .i64 (((markTop d t 1).2 : Nat) : Int)) ∧ ValOwn w' (d + 1) S (markTop d t 1).1 v ∧ Turn S w w' :=
  markVal_any d S t v 1 w hv hS (Nat.le_refl _) h1
theorem heldVal_one (d : Nat) (S : Nat → Prop) (t : Tr (d + 1)) (v : Value) (w : World) (hv : ValAt S w (d + 1) (markTop d t 1).1 v) (hS : Within S w) (h1 : 1 + wtT (d + 1) t ≤ 1099511627776) :
    Calls Tryz.prog 10 #[v, .int .i64 1] w fun e w' => e = .returned (.int .i64 (((markTop d t 1).2 : Nat) : Int)) ∧ Below w.heap.size w w' :=
  heldVal_any d S t v 1 w hv hS (Nat.le_refl _) h1
end Go.Proofs.YtbcafaomfaainaaGreatDoor

/- A tree that came in, read as data, lies in memory as a tree. -/
namespace Go.Proofs.YtbcafaomfaainaaGreatDoor
open Go.RowKit Go.Deep

section
variable {H : Type} {enc : TypeId × Value → H} {W : World}

theorem addr_add {a : Addr} {n : Nat} (h : a.spot = none) : a.add n = ⟨a.block, a.off + n, none⟩ := by
  obtain ⟨b, o, s⟩ := a
  simp only at h
  subst h
  unfold Addr.add
  split
  · rename_i h0
    subst h0
    rfl
  · rfl
theorem cell_spot {a : Addr} {v : Value} (h : W.cell? a = some v) : a.spot = none ∧ a.block < W.heap.size := by
  refine ⟨?_, World.block_lt_of_cell? W a h⟩
  unfold World.cell? at h
  split at h
  · split at h
    · cases h
    · rename_i hs
      cases hs2 : a.spot with
      | none => rfl
      | some x => rw [hs2] at hs; simp at hs
  · cases h

theorem each_weight {e : TypeId} : ∀ {ds : List (DataW H)} {d : DataW H}, d ∈ ds → ∀ n ∈ d.weights Tryz.prog e, n ∈ DataW.weightsAll Tryz.prog e ds
  | _ :: r, d, h, n, hn => by
    rw [DataW.weightsAll]
    cases h with
    | head => exact List.mem_append_left _ hn
    | tail _ h => exact List.mem_append_right _ (each_weight h n hn)

/-- What the form's own reach says of a reading. -/
def Fits (t : TypeId) (d : DataW H) : Prop := ∀ n ∈ d.weights Tryz.prog t, n ≤ reachBytes

theorem read_strs {fuel : Nat} {cs : List Value} {x : DataW H × List MemPlace} (h : DataW.trod enc Tryz.prog W 0 (fun _ => true) true fuel 22 cs = some x) (hz : Fits 22 x.1) :
    ∃ v ss, cs = [v] ∧ StrsAt (fun b => b < W.heap.size) W v ss := by
  rcases open_strs Tryz.underlying22 Tryz.underlying9 (by kernel_rfl) h with ⟨rfl, _⟩ | ⟨a, len, cap, m, Sx, rfl, _, hl, hm, hmm, rfl, hc⟩
  · exact ⟨_, [], rfl, by simp, by simp, none, 0, rfl, Or.inl rfl⟩
  · simp only [if_true] at hmm
    subst hmm
    have hb : Tryz.prog.bytesOf 9 = 16 := by kernel_rfl
    have hw : ∀ n ∈ (((List.range len).map (fun i => (DataW.lit (.string (Sx i).data.toList) : DataW H))).length + ((List.range (m - len)).map (fun j => (DataW.lit (.string (Sx (len + j)).data.toList) : DataW H))).length) * 16 ::
        (DataW.weightsAll Tryz.prog 9 ((List.range len).map (fun i => (DataW.lit (.string (Sx i).data.toList) : DataW H))) ++ DataW.weightsAll Tryz.prog 9 ((List.range (m - len)).map (fun j => (DataW.lit (.string (Sx (len + j)).data.toList) : DataW H)))), n ≤ reachBytes := by
      intro n hn
      refine hz n ?_
      simp only [DataW.weights, Tryz.underlying22, hb]
      exact hn
    have h1 := hw _ (List.mem_cons_self ..)
    simp only [List.length_map, List.length_range] at h1
    unfold reachBytes at h1 hw
    refine ⟨_, (List.range len).map Sx, rfl, ?_, ?_, some a, m, by simp, ?_⟩
    · simp
      omega
    · intro s hs
      obtain ⟨i, hi, rfl⟩ := List.mem_map.1 hs
      have h2 := hw (Sx i).size (List.mem_cons_of_mem _ (List.mem_append_left _ (each_weight (List.mem_map.2 ⟨i, hi, rfl⟩) _ (by simp [DataW.weights]))))
      omega
    · by_cases h0 : len = 0
      · subst h0
        exact Or.inl rfl
      · have hsp := cell_spot (hc 0 (by omega)).1
        have hsp2 : a.spot = none := by
          have e : (a.add 0) = a := by simp [Addr.add]
          rw [e] at hsp
          exact hsp.1
        have hblk : a.block < W.heap.size := by
          have e : (a.add 0) = a := by simp [Addr.add]
          rw [e] at hsp
          exact hsp.2
        refine Or.inr ⟨a.block, a.off, hblk, ?_, fun i s hi => ?_⟩
        · obtain ⟨b, o, sp⟩ := a
          simp only at hsp2
          subst hsp2
          rfl
        · obtain ⟨hi1, hi2⟩ := List.getElem?_eq_some_iff.1 hi
          simp only [List.length_map, List.length_range] at hi1
          simp only [List.getElem_map, List.getElem_range] at hi2
          subst hi2
          have := (hc i (by omega)).1
          rwa [addr_add hsp2] at this

theorem wf_i64 {n : Int} (h : (Lit.int .i64 n).wf = true) : I64 n := by
  simp [Lit.wf, IntKind.min, IntKind.max, IntKind.signed, IntKind.bits] at h
  exact h

/-- The weights of a struct's parts. -/
theorem agg_weight {t : TypeId} {fs : Array Field} (ht : Tryz.prog.underlying t = some (.struct fs)) {parts : List (DataW H)} (hz : Fits t (.agg parts)) {i : Nat} {f : Field} {d : DataW H} (hf : fs[i]? = some f) (hd : parts[i]? = some d) : Fits f.type d := by
  intro n hn
  refine hz n ?_
  simp only [DataW.weights, ht]
  exact DataW.weights_mem_each (ts := fs.toList.map (·.type)) (by rw [List.getElem?_map, Array.getElem?_toList, hf]; rfl) hd n hn

theorem choose_list {α : Type} {p : Nat → α → Prop} : ∀ (n : Nat), (∀ i, i < n → ∃ x, p i x) → ∃ xs : List α, xs.length = n ∧ ∀ i x, xs[i]? = some x → p i x
  | 0, _ => ⟨[], rfl, fun i x h => by simp at h⟩
  | n + 1, h => by
    obtain ⟨xs, hl, hx⟩ := choose_list n (fun i hi => h i (by omega))
    obtain ⟨y, hy⟩ := h n (by omega)
    refine ⟨xs ++ [y], by simp [hl], fun i x hi => ?_⟩
    by_cases e : i < n
    · rw [List.getElem?_append_left (by omega)] at hi
      exact hx i x hi
    · have hlt := (List.getElem?_eq_some_iff.1 hi).1
      simp [hl] at hlt
      obtain rfl : i = n := by omega
      rw [List.getElem?_append_right (by omega), hl, Nat.sub_self] at hi
      cases hi
      exact hy

theorem cells5 {a : Addr} {cs : List Value} (h : W.cells? 0 a 5 = some cs) : ∃ c0 c1 c2 c3 c4, cs = [c0, c1, c2, c3, c4] ∧ W.cell? (a.add 0) = some c0 ∧ W.cell? (a.add 1) = some c1 ∧ W.cell? (a.add 2) = some c2 ∧ W.cell? (a.add 3) = some c3 ∧ W.cell? (a.add 4) = some c4 := by
  unfold World.cells? at h
  rw [if_pos (Nat.zero_le _)] at h
  simp only [show List.range 5 = [0, 1, 2, 3, 4] from rfl, List.mapM_cons, List.mapM_nil, Option.pure_def, Option.bind_eq_bind, Option.bind_eq_some_iff, Option.some.injEq] at h
  obtain ⟨c0, h0, r0, ⟨c1, h1, r1, ⟨c2, h2, r2, ⟨c3, h3, r3, ⟨c4, h4, r4, e5, e4⟩, e3⟩, e2⟩, e1⟩, e0⟩ := h
  subst e5 e4 e3 e2 e1 e0
  exact ⟨c0, c1, c2, c3, c4, rfl, h0, h1, h2, h3, h4⟩

set_option maxRecDepth 100000 in
theorem read_val : ∀ (N fuel : Nat), fuel ≤ N → ∀ (cs : List Value) (x : DataW H × List MemPlace), DataW.trod enc Tryz.prog W 0 (fun _ => true) true fuel 25 cs = some x → Fits 25 x.1 →
    ∃ t : Tr N, ValAt (fun b => b < W.heap.size) W N t (.agg cs.toArray)
  | 0, fuel, hN, cs, x, h, _ => by
    obtain rfl : fuel = 0 := by omega
    simp [DataW.trod] at h
  | N + 1, fuel, hN, cs, x, h, hz => by
    have ih := read_val N
    obtain ⟨xs, n, hn, rfl, hl, hlen, hf⟩ := DataW.trod_struct Tryz.underlying25 h
    have hcs : Tryz.prog.cellsOf 25 = 5 := by kernel_rfl
    have c3 : Tryz.prog.cellsOf 3 = 1 := by kernel_rfl
    have c9 : Tryz.prog.cellsOf 9 = 1 := by kernel_rfl
    have c22 : Tryz.prog.cellsOf 22 = 1 := by kernel_rfl
    have c23 : Tryz.prog.cellsOf 23 = 1 := by kernel_rfl
    have hby : Tryz.prog.bytesOf 25 = 80 := by kernel_rfl
    rw [hcs] at hl
    match cs, hl with
    | [v0, v1, v2, v3, v4], _ =>
      match xs, hlen with
      | [y0, y1, y2, y3, y4], _ =>
        have f0 := hf 0 _ rfl
        have f1 := hf 1 _ rfl
        have f2 := hf 2 _ rfl
        have f3 := hf 3 _ rfl
        have f4 := hf 4 _ rfl
        simp [c3, c9, c22, c23] at f0 f1 f2 f3 f4
        have z2 := agg_weight Tryz.underlying25 hz (i := 2) rfl rfl
        have z3 := agg_weight Tryz.underlying25 hz (i := 3) rfl rfl
        have z4 := agg_weight Tryz.underlying25 hz (i := 4) rfl rfl
        clear hf h hz
        obtain ⟨k, e0, _, w0⟩ := DataW.trod_int Tryz.underlying3 f0
        obtain ⟨m, e1, _, w1⟩ := DataW.trod_int Tryz.underlying3 f1
        obtain ⟨s, e2, e2', _⟩ := DataW.trod_string Tryz.underlying9 f2
        obtain ⟨v, ss, e3, hss⟩ := read_strs f3 z3
        cases e0
        cases e1
        cases e2
        cases e3
        have hs : s.size < 281474976710656 := by
          subst e2'
          have := z2 s.size (by simp [DataW.weights])
          unfold reachBytes at this
          omega
        rcases DataW.trod_slice Tryz.underlying23 f4 with ⟨e4, _⟩ | ⟨a, len, cap, elems, rest, q, hq, e4, e4', _, hlc, _, hel, hels, hsp, _⟩
        · cases e4
          exact ⟨Nd.mk k m s ss [], _, _, rfl, wf_i64 w0, wf_i64 w1, hs, hss, by simp, none, 0, rfl, Or.inl rfl⟩
        · cases e4
          subst e4'
          obtain ⟨hrl, _⟩ := hsp rfl
          have hw : ∀ n ∈ ((elems.map (·.1)).length + (rest.map (·.1)).length) * 80 :: (DataW.weightsAll Tryz.prog 25 (elems.map (·.1)) ++ DataW.weightsAll Tryz.prog 25 (rest.map (·.1))), n ≤ reachBytes := by
            intro n hn
            have z4' : Fits 23 (DataW.slice (elems.map (·.1)) (rest.map (·.1))) := z4
            refine z4' n ?_
            simp only [DataW.weights, Tryz.underlying23, hby]
            exact hn
          have hwl := hw _ (List.mem_cons_self ..)
          simp only [List.length_map] at hwl
          unfold reachBytes at hwl
          rw [hcs] at hels
          have each : ∀ i, i < len → ∃ t : Tr N, ∃ c0 c1 c2 c3 c4, (W.cell? ((a.add (i * 5)).add 0) = some c0 ∧ W.cell? ((a.add (i * 5)).add 1) = some c1 ∧ W.cell? ((a.add (i * 5)).add 2) = some c2 ∧ W.cell? ((a.add (i * 5)).add 3) = some c3 ∧ W.cell? ((a.add (i * 5)).add 4) = some c4) ∧
              ValAt (fun b => b < W.heap.size) W N t (.agg #[c0, c1, c2, c3, c4]) := by
            intro i hi
            have h1 := hels i hi
            rw [List.getElem?_eq_getElem (by omega)] at h1
            obtain ⟨cs', h2, h3⟩ := Option.bind_eq_some_iff.1 h1
            obtain ⟨c0, c1, c2, c3, c4, rfl, g0, g1, g2, g3, g4⟩ := cells5 h2
            obtain ⟨t, ht⟩ := ih q (by omega) _ _ h3 (fun n hn => hw n (List.mem_cons_of_mem _ (List.mem_append_left _ (each_weight (List.mem_map.2 ⟨_, List.getElem_mem (by omega), rfl⟩) n hn))))
            exact ⟨t, c0, c1, c2, c3, c4, ⟨g0, g1, g2, g3, g4⟩, ht⟩
          obtain ⟨ts, htl, hts⟩ := choose_list len each
          refine ⟨Nd.mk k m s ss ts, _, _, rfl, wf_i64 w0, wf_i64 w1, hs, hss, by show ts.length < 3518437208883; omega, some a, cap, by show _ = Value.slice (some a) ts.length cap; rw [htl], ?_⟩
          by_cases h0 : len = 0
          · exact Or.inl (List.eq_nil_of_length_eq_zero (by show ts.length = 0; omega))
          · obtain ⟨_, c0, _, _, _, _, ⟨g0, _⟩, _⟩ := each 0 (by omega)
            have hsp := cell_spot g0
            have e : ((a.add (0 * 5)).add 0) = a := by simp [Addr.add]
            rw [e] at hsp
            refine Or.inr ⟨a.block, a.off, hsp.2, ?_, fun i x hi => ?_⟩
            · obtain ⟨b, o, sp⟩ := a
              have := hsp.1
              simp only at this
              subst this
              rfl
            · obtain ⟨c0, c1, c2, c3, c4, ⟨g0, g1, g2, g3, g4⟩, hv⟩ := hts i x hi
              rw [addr_add hsp.1, addr_add rfl] at g0 g1 g2 g3 g4
              exact ⟨c0, c1, c2, c3, c4, g0, g1, g2, g3, g4, hv⟩

/-- An argument that is a tree. -/
theorem read_arg {v : Value} {d : DataW H} {p : List MemPlace} (hs : ∃ cs, v = .agg cs) (h : DataW.Trod enc Tryz.prog W 0 (fun _ => true) true 25 v d p) (hz : Fits 25 d) :
    ∃ (N : Nat) (t : Tr N), ValAt (fun b => b < W.heap.size) W N t v := by
  obtain ⟨cs, rfl⟩ := hs
  obtain ⟨fuel, hf⟩ := h
  obtain ⟨t, ht⟩ := read_val fuel fuel (Nat.le_refl _) _ _ hf hz
  exact ⟨fuel, t, by simpa [Value.cells] using ht⟩
end
end Go.Proofs.YtbcafaomfaainaaGreatDoor

/- The one variable that the rows list: what it holds when a call begins. -/
namespace Go.Proofs.YtbcafaomfaainaaGreatDoor
open Go.ChangeShapes Go.WideShapes Go.RowKit

theorem Tryz.own : ownKnob Tryz.prog.godebug = none := by kernel_rfl
theorem Tryz.laidOut : laidOutB Tryz.prog = true := by kernel_rfl
/-- The listed variable, with its datum. -/
def laidV : List (String × DataW Unit) := [("errors.errorType", Rows.laid_errors_errorType)]
/-- The name of the type that stands for a type. -/
def rtName : String := match (Rows.laid_errors_errorType : DataW Unit) with | .iface s _ => s | _ => ""
theorem Tryz.et : Tryz.prog.globalNamed "errors.errorType" = some 0 := by kernel_rfl
theorem Tryz.rt : (Tryz.prog.cutTypes.find? (·.1 == rtName)).map (·.2) = some 98 := by kernel_rfl
theorem Tryz.oneRow : ((List.range Tryz.prog.types.size).filter fun t => Tryz.prog.rowNamed t [101, 114, 114, 111, 114]) = [50] := by kernel_rfl

theorem errType_of_laid {W : World} (h : laidMetH Tryz.prog laidV W) : ErrType W := by
  have h' : laidMet Tryz.prog [] W ∧ handlesMet Tryz.prog laidV W := h
  obtain ⟨name, u, ty, e1, e2, e3, e4, e5⟩ := h'.2 _ (List.mem_singleton.2 rfl)
  have en : name = [101, 114, 114, 111, 114] := (Option.some.inj e1).symm
  subst en
  obtain rfl := Option.some.inj (Tryz.rt.symm.trans e2)
  have hm : ty ∈ (List.range Tryz.prog.types.size).filter fun t => Tryz.prog.rowNamed t [101, 114, 114, 111, 114] := List.mem_filter.2 ⟨List.mem_range.2 e3, e4⟩
  rw [Tryz.oneRow] at hm
  obtain rfl := List.mem_singleton.1 hm
  have hh : typeHandle Tryz.prog 50 = .pointer (some ⟨1, 50, none⟩) := by kernel_rfl
  rw [hh] at e5
  exact World.var?_cell Tryz.et e5 0
end Go.Proofs.YtbcafaomfaainaaGreatDoor

/- A tree as one that may be one deeper. -/
namespace Go.Proofs.YtbcafaomfaainaaGreatDoor
open Go.RowKit Go.Deep

/-- The same tree, as one that may be one deeper. -/
def up : (d : Nat) → Tr d → Tr (d + 1)
  | 0, t => Empty.elim t
  | d + 1, t => (Nd.mk (Nd.kind t) (Nd.num t) (Nd.str t) (Nd.keys t) ((Nd.list t).map (up d)) : Nd (Tr (d + 1)))

theorem all_up {d : Nat} {list : List (Tr d)} {deep : Int} (h : ∀ x, formT (d + 1) (up d x) deep = formT d x deep) : (list.map (up d)).all (fun x => formT (d + 1) x deep) = list.all (fun x => formT d x deep) := by
  rw [List.all_map]
  congr 1
  funext x
  exact h x
theorem formT_lift : ∀ (d : Nat) (t : Tr d) (deep : Int), formT (d + 1) (up d t) deep = formT d t deep
  | 0, t, _ => Empty.elim t
  | d + 1, t, deep => by
    obtain ⟨kind, num, str, keys, list⟩ := t
    have ha := all_up (list := list) (fun x => formT_lift d x (deep - 1))
    have hl : (list.map (up d)).length = list.length := List.length_map ..
    show formT (d + 2) (Nd.mk kind num str keys (list.map (up d)) : Nd (Tr (d + 1))) deep = _
    cases hb : headBad kind num str keys.length list.length deep with
    | true => rw [formT_bad hb, formT_bad (by rw [hl]; exact hb)]
    | false => rw [formT_good hb, formT_good (by rw [hl]; exact hb), hl, ha]
theorem manyT_lift : ∀ (d : Nat) (t : Tr d) (deep : Int), manyT (d + 1) (up d t) deep = manyT d t deep
  | 0, t, _ => Empty.elim t
  | d + 1, t, deep => by
    obtain ⟨kind, num, str, keys, list⟩ := t
    show 1 + (if 0 < deep then ((list.map (up d)).map (fun x => manyT (d + 1) x (deep - 1))).sum else 0) = 1 + (if 0 < deep then (list.map (fun x => manyT d x (deep - 1))).sum else 0)
    rw [List.map_map]
    have h := sum_map_eq (f := (fun x => manyT (d + 1) x (deep - 1)) ∘ up d) (g := fun x => manyT d x (deep - 1)) list (fun x _ => manyT_lift d x (deep - 1))
    rw [h]
theorem okT_lift (d : Nat) (t : Tr d) : okT (d + 1) (up d t) = okT d t := by
  unfold okT
  rw [formT_lift, manyT_lift]
theorem up_zero (d : Nat) : up (d + 1) (zeroT d) = zeroT (d + 1) := rfl

theorem RowAt.up {α β : Type} {S : Nat → Prop} {w : World} {At : α → Value → Prop} {At' : β → Value → Prop} {v : Value} {xs : List α} (f : α → β) (h : RowAt S w At v xs) (hi : ∀ x u, At x u → At' (f x) u) : RowAt S w At' v (xs.map f) := by
  obtain ⟨h1, a, cap, hv, h3⟩ := h
  refine ⟨by rw [List.length_map]; exact h1, a, cap, by rw [List.length_map]; exact hv, ?_⟩
  rcases h3 with h3 | ⟨b, o, hB, ha, hc⟩
  · exact Or.inl (by rw [h3]; rfl)
  · refine Or.inr ⟨b, o, hB, ha, fun i x hx => ?_⟩
    rw [List.getElem?_map] at hx
    obtain ⟨y, hy, rfl⟩ := Option.map_eq_some_iff.1 hx
    obtain ⟨c0, c1, c2, c3, c4, e0, e1, e2, e3, e4, e5⟩ := hc i y hy
    exact ⟨c0, c1, c2, c3, c4, e0, e1, e2, e3, e4, hi _ _ e5⟩
theorem ValAt.up {S : Nat → Prop} {w : World} : ∀ (d : Nat) (t : Tr d) (v : Value), ValAt S w d t v → ValAt S w (d + 1) (up d t) v
  | 0, _, _, h => h.elim
  | d + 1, t, v, h => by
    obtain ⟨vk, vl, hv, i1, i2, i3, hk, hl⟩ := h
    exact ⟨vk, vl, hv, i1, i2, i3, hk, hl.up (At' := ValAt S w (d + 1)) _ (fun x u hx => ValAt.up d x u hx)⟩
theorem RowOwn.up {α β : Type} {w : World} {At : (Nat → Prop) → α → Value → Prop} {At' : (Nat → Prop) → β → Value → Prop} {S : Nat → Prop} {v : Value} {xs : List α} (f : α → β) (h : RowOwn w At S v xs) (hi : ∀ P x u, At P x u → At' P (f x) u) : RowOwn w At' S v (xs.map f) := by
  obtain ⟨h1, a, cap, hv, h3⟩ := h
  refine ⟨by rw [List.length_map]; exact h1, a, cap, by rw [List.length_map]; exact hv, ?_⟩
  rcases h3 with h3 | ⟨b, n, g, P, hB, ha, hl, hr, hP, hd, hc⟩
  · exact Or.inl (by rw [h3]; rfl)
  · refine Or.inr ⟨b, n, g, P, hB, ha, by rw [List.length_map]; exact hl, hr, hP, hd, fun i x hx => ?_⟩
    rw [List.getElem?_map] at hx
    obtain ⟨y, hy, rfl⟩ := Option.map_eq_some_iff.1 hx
    exact hi _ _ _ (hc i y hy)
theorem ValOwn.up {w : World} : ∀ (d : Nat) (S : Nat → Prop) (t : Tr d) (v : Value), ValOwn w d S t v → ValOwn w (d + 1) S (up d t) v
  | 0, _, _, _, h => h.elim
  | d + 1, S, t, v, h => by
    obtain ⟨vk, vl, Sk, Sl, hv, i1, i2, i3, hk, hl, s1, s2, s3⟩ := h
    exact ⟨vk, vl, Sk, Sl, hv, i1, i2, i3, hk, hl.up (At' := fun P x u => ValOwn w (d + 1) P x u) _ (fun P x u hx => ValOwn.up d P x u hx), s1, s2, s3⟩
end Go.Proofs.YtbcafaomfaainaaGreatDoor

/- A tree that lies in memory, as one that may be as deep as one likes. -/
namespace Go.Proofs.YtbcafaomfaainaaGreatDoor

theorem deepTo {S : Nat → Prop} {w : World} {v : Value} {N : Nat} {t : Tr N} (h : ValAt S w N t v) (M : Nat) (hM : N ≤ M) : ∃ t' : Tr M, ValAt S w M t' v := by
  induction hM with
  | refl => exact ⟨t, h⟩
  | step _ ih =>
    obtain ⟨t', h'⟩ := ih
    exact ⟨up _ t', ValAt.up _ _ _ h'⟩
end Go.Proofs.YtbcafaomfaainaaGreatDoor
