/- Texts of the proof, put together by program: WLenSo, WKeyS, WKeySo, WEachS, WEachSo, WGet, WKeyI, WEachI, WTold2, LPartC. -/
import Derived.Test.YtoangpfmjohhmaaGreatDoorQ23
import Derived.Test.YtoangpfmjohhmaaGreatDoorQ9
import Derived.Test.YtoangpfmjohhmaaGreatDoorQ10
import Derived.Test.YtoangpfmjohhmaaGreatDoorQ7
import Derived.Test.YtoangpfmjohhmaaGreatDoorQ11
import Derived.Test.YtoangpfmjohhmaaGreatDoorQ8
import Derived.Test.YtoangpfmjohhmaaGreatDoorQ5
import Derived.Test.YtoangpfmjohhmaaGreatDoorQ20
import Derived.Test.YtoangpfmjohhmaaGreatDoorQ21
/- PartLen of the model : the answer owns its memory. -/
namespace Go.Proofs.YtoangpfmjohhmaaGreatDoor
open Go.RowKit Go.Deep

set_option maxRecDepth 100000 in
set_option maxHeartbeats 4000000 in
theorem specPartLen_own (d : Nat) (S : Nat → Prop) (t : Tr (d + 1)) (v : Value) (w : World) (hv : ValAt S w (d + 1) t v) (hS : Within S w) (hsm : (nodes (d + 1) t : Int) ≤ 4194304) :
    Calls Tryz.prog 16 #[v] w (TellQ d (partLenT d t).1 (partLenT d t).2 w) := by
  have hv0 := hv
  obtain ⟨vk, vl, rfl, i1, i2, i3, hk, hl⟩ := hv
  obtain ⟨ak, ck, rfl, hkl⟩ := hk.open'
  obtain ⟨al, cl, rfl, hll⟩ := hl.open'
  obtain ⟨W0, hW⟩ : ∃ W0, W0 = (w.alloc (.cells #[.int .i64 t.kind, .int .i64 t.num, .string t.str, .slice ak t.keys.length ck, .slice al t.list.length cl] 26)).alloc (.cells #[.int .i64 0, .int .i64 0, .string { data := #[] }, .slice none 0 0, .slice none 0 0] 26) := ⟨_, rfl⟩
  have hW0 : Below w.heap.size w W0 := by rw [hW]; exact below_trans (below_alloc1 _ _) (below_alloc1 _ _)
  have k0 : Blk5 W0 w.heap.size 26 (.int .i64 t.kind) (.int .i64 t.num) (.string t.str) (.slice ak t.keys.length ck) (.slice al t.list.length cl) := by
    rw [hW]; exact (Blk5.new w 26 _ _ _ _ _).alloc _
  have k1 : Blk5 W0 (w.heap.size + 1) 26 (.int .i64 0) (.int .i64 0) (.string { data := #[] }) (.slice none 0 0) (.slice none 0 0) := by
    have := Blk5.new (w.alloc (.cells #[.int .i64 t.kind, .int .i64 t.num, .string t.str, .slice ak t.keys.length ck, .slice al t.list.length cl] 26)) 26 (.int .i64 0) (.int .i64 0) (.string { data := #[] }) (.slice none 0 0) (.slice none 0 0)
    rw [World.size_alloc] at this
    rw [hW]
    exact this
  have HW := hide hW
  clear hW
  go_enter Tryz.func16, Tryz.ntmps16
  go_wp2_with fail
  rw [← HW.out]
  clear HW
  refine (specValOk_any (d + 1) S t _ W0 (hv0.same (hS.same hW0)) (hS.later hW0.size) hsm).mono ?_
  rintro e w1 ⟨rfl, hb1⟩
  replace k0 := k0.below hb1
  replace k1 := k1.below hb1
  have HB1 := hide (below_trans hW0 hb1)
  obtain ⟨x0, x1, x2, x3, x4⟩ := k0.cell
  obtain ⟨y0, y1, y2, y3, y4⟩ := k1.cell
  have yf := k1.frozen
  have hlt := k1.lt
  clear hb1 hW0 hv0 hk hl
  -- nothing is told
  have hno : Hid (∀ wF, wF = set5 w1 (w.heap.size + 1) 0 (.int .i64 0) (.int .i64 0) (.string { data := #[] }) (.slice none 0 0) (.slice none 0 0) → partLenT d t = (zeroT d, false) → ValOwn wF (d + 1) (Fresh w wF) (partLenT d t).1 zeroVal ∧ Below w.heap.size w wF) := by
    intro wF hF hz
    rw [hz]
    refine ⟨zeroVal_own d _ _, ?_⟩
    rw [hF]
    exact below_set5 HB1.out (by omega) _ _ _ _ _ _
  -- a number is told
  have hyes : Hid (∀ n, I64 n → partLenT d t = (numT d n, true) → ∀ w2, Below w1.heap.size w1 w2 → ∀ wF, wF = set5 w2 (w.heap.size + 1) 0 (.int .i64 3) (.int .i64 n) (.string ByteArray.empty) (.slice none 0 0) (.slice none 0 0) →
      ValOwn wF (d + 1) (Fresh w wF) (partLenT d t).1 (.agg #[.int .i64 3, .int .i64 n, .string ByteArray.empty, .slice none 0 0, .slice none 0 0]) ∧ Below w.heap.size w wF) := by
    intro n hn hz w2 hb2 wF hF
    rw [hz]
    refine ⟨valOwn_leaf d 3 n ByteArray.empty _ _ ⟨by omega, by omega⟩ hn (by decide), ?_⟩
    rw [hF]
    exact below_set5 (below_trans HB1.out hb2) (by omega) _ _ _ _ _ _
  cases hf : okT (d + 1) t with
  | false =>
    have hz : Hid (partLenT d t = (zeroT d, false)) := by
      show partLenT d t = _
      rw [partLenT, if_neg (by rw [hf]; simp)]
    clear k0 k1 hyes
    go_wp2_with fail
    refine bodyPost_ret (v := .tuple #[zeroVal, .bool false]) (by simp [results, Tryz.results16, go_sem, zeroVal, y0, y1, y2, y3, y4]; rfl) rfl ⟨_, by rw [hz.out], (hno.out _ rfl hz.out).1, (hno.out _ rfl hz.out).2⟩
  | true =>
    obtain ⟨hkinds, hl60, _⟩ := okT_kinds hf
    have HKI := hide hkinds
    have hp : Hid (∀ n, lenT d t = some n → partLenT d t = (numT d n, true)) := fun n hn => by rw [partLenT, if_pos hf, hn]
    clear hkinds
    by_cases e0 : t.kind = 0
    · have hz := hide (hp.out 0 (by rw [lenT, if_pos e0]))
      have q0 : (t.kind == 0) = true := by simpa using e0
      clear k0 hno e0
      go_wp2_with fail
      refine (l2Num_any 0 w1).mono ?_
      rintro e w2 ⟨rfl, hb2⟩
      have k2 := k1.below hb2
      have HF := hide (hyes.out 0 ⟨by omega, by omega⟩ hz.out w2 hb2)
      clear x0 x1 x2 x3 x4 y0 y1 y2 y3 y4 yf hb2 hyes k1
      obtain ⟨y0, y1, y2, y3, y4⟩ := k2.cell
      have yf := k2.frozen
      clear k2
      go_wp2_with fail
      refine bodyPost_ret (v := .tuple #[.agg #[.int .i64 3, .int .i64 0, .string ByteArray.empty, .slice none 0 0, .slice none 0 0], .bool true]) (by simp [results, Tryz.results16, go_sem, y0, y1, y2, y3, y4]) rfl ⟨_, by rw [hz.out], (HF.out _ rfl).1, (HF.out _ rfl).2⟩
    have q0 : (t.kind == 0) = false := by simpa using e0
    by_cases e3 : t.kind = 3
    · have hz := hide (hp.out (max t.num (-t.num)) (by rw [lenT, if_neg e0, if_pos e3]))
      have q3 : (t.kind == 3) = true := by simpa using e3
      have hnb : -1000000 ≤ t.num ∧ t.num ≤ 1000000 := by have := HKI.out; omega
      have n1 := hnb.1
      have n2 := hnb.2
      clear k0 hno e0 e3 hnb
      go_wp2_with fail
      refine (l1MaxP_any t.num (-t.num) w1).mono ?_
      rintro e w1' ⟨rfl, rfl⟩
      go_wp2_with fail
      refine (l2Num_any (max t.num (-t.num)) w1').mono ?_
      rintro e w2 ⟨rfl, hb2⟩
      have k2 := k1.below hb2
      have HF := hide (hyes.out (max t.num (-t.num)) ⟨by omega, by omega⟩ hz.out w2 hb2)
      clear x0 x1 x2 x3 x4 y0 y1 y2 y3 y4 yf hb2 hyes k1
      obtain ⟨y0, y1, y2, y3, y4⟩ := k2.cell
      have yf := k2.frozen
      clear k2
      go_wp2_with fail
      refine bodyPost_ret (v := .tuple #[.agg #[.int .i64 3, .int .i64 (max t.num (-t.num)), .string ByteArray.empty, .slice none 0 0, .slice none 0 0], .bool true]) (by simp [results, Tryz.results16, go_sem, y0, y1, y2, y3, y4]) rfl ⟨_, by rw [hz.out], (HF.out _ rfl).1, (HF.out _ rfl).2⟩
    have q3 : (t.kind == 3) = false := by simpa using e3
    by_cases e4 : t.kind = 4
    · have hz := hide (hp.out (t.str.size : Int) (by rw [lenT, if_neg e0, if_neg e3, if_pos e4]))
      have q4 : (t.kind == 4) = true := by simpa using e4
      clear k0 hno e0 e3 e4
      go_wp2_with fail
      refine (l2Num_any (t.str.size : Int) w1).mono ?_
      rintro e w2 ⟨rfl, hb2⟩
      have k2 := k1.below hb2
      have HF := hide (hyes.out (t.str.size : Int) ⟨by omega, by omega⟩ hz.out w2 hb2)
      clear x0 x1 x2 x3 x4 y0 y1 y2 y3 y4 yf hb2 hyes k1
      obtain ⟨y0, y1, y2, y3, y4⟩ := k2.cell
      have yf := k2.frozen
      clear k2
      go_wp2_with fail
      refine bodyPost_ret (v := .tuple #[.agg #[.int .i64 3, .int .i64 (t.str.size : Int), .string ByteArray.empty, .slice none 0 0, .slice none 0 0], .bool true]) (by simp [results, Tryz.results16, go_sem, y0, y1, y2, y3, y4]) rfl ⟨_, by rw [hz.out], (HF.out _ rfl).1, (HF.out _ rfl).2⟩
    have q4 : (t.kind == 4) = false := by simpa using e4
    by_cases e5 : t.kind = 5
    · have hz := hide (hp.out (t.list.length : Int) (by rw [lenT, if_neg e0, if_neg e3, if_neg e4, if_pos (Or.inl e5)]))
      have q5 : (t.kind == 5) = true := by simpa using e5
      clear k0 hno e0 e3 e4 e5
      go_wp2_with fail
      refine (l2Num_any (t.list.length : Int) w1).mono ?_
      rintro e w2 ⟨rfl, hb2⟩
      have k2 := k1.below hb2
      have HF := hide (hyes.out (t.list.length : Int) ⟨by omega, by omega⟩ hz.out w2 hb2)
      clear x0 x1 x2 x3 x4 y0 y1 y2 y3 y4 yf hb2 hyes k1
      obtain ⟨y0, y1, y2, y3, y4⟩ := k2.cell
      have yf := k2.frozen
      clear k2
      go_wp2_with fail
      refine bodyPost_ret (v := .tuple #[.agg #[.int .i64 3, .int .i64 (t.list.length : Int), .string ByteArray.empty, .slice none 0 0, .slice none 0 0], .bool true]) (by simp [results, Tryz.results16, go_sem, y0, y1, y2, y3, y4]) rfl ⟨_, by rw [hz.out], (HF.out _ rfl).1, (HF.out _ rfl).2⟩
    have q5 : (t.kind == 5) = false := by simpa using e5
    by_cases e6 : t.kind = 6
    · have hz := hide (hp.out (t.list.length : Int) (by rw [lenT, if_neg e0, if_neg e3, if_neg e4, if_pos (Or.inr e6)]))
      have q6 : (t.kind == 6) = true := by simpa using e6
      clear k0 hno e0 e3 e4 e5 e6
      go_wp2_with fail
      refine (l2Num_any (t.list.length : Int) w1).mono ?_
      rintro e w2 ⟨rfl, hb2⟩
      have k2 := k1.below hb2
      have HF := hide (hyes.out (t.list.length : Int) ⟨by omega, by omega⟩ hz.out w2 hb2)
      clear x0 x1 x2 x3 x4 y0 y1 y2 y3 y4 yf hb2 hyes k1
      obtain ⟨y0, y1, y2, y3, y4⟩ := k2.cell
      have yf := k2.frozen
      clear k2
      go_wp2_with fail
      refine bodyPost_ret (v := .tuple #[.agg #[.int .i64 3, .int .i64 (t.list.length : Int), .string ByteArray.empty, .slice none 0 0, .slice none 0 0], .bool true]) (by simp [results, Tryz.results16, go_sem, y0, y1, y2, y3, y4]) rfl ⟨_, by rw [hz.out], (HF.out _ rfl).1, (HF.out _ rfl).2⟩
    have q6 : (t.kind == 6) = false := by simpa using e6
    have hz : Hid (partLenT d t = (zeroT d, false)) := by
      show partLenT d t = _
      rw [partLenT, if_pos hf, lenT, if_neg e0, if_neg e3, if_neg e4, if_neg (by omega)]
    clear k0 k1 hyes e0 e3 e4 e5 e6
    go_wp2_with fail
    refine bodyPost_ret (v := .tuple #[zeroVal, .bool false]) (by simp [results, Tryz.results16, go_sem, zeroVal, y0, y1, y2, y3, y4]; rfl) rfl ⟨_, by rw [hz.out], (hno.out _ rfl hz.out).1, (hno.out _ rfl hz.out).2⟩
end Go.Proofs.YtoangpfmjohhmaaGreatDoor

/- PartKeys of the model. -/
namespace Go.Proofs.YtoangpfmjohhmaaGreatDoor
open Go.RowKit Go.Deep

theorem row_sliceK {w : World} {base : Nat} {e : TypeId} {size n : Nat} {v : Value} {xs : List Value} (h : w.ownsRow base e size v n xs) : ∃ a m c, v = .slice a m c := by
  rcases h.2 with ⟨rfl, _⟩ | ⟨g, cap, cur, rfl, _⟩
  · exact ⟨_, _, _, rfl⟩
  · exact ⟨_, _, _, rfl⟩

end Go.Proofs.YtoangpfmjohhmaaGreatDoor

/- PartKeys of the model : the answer owns its memory. -/
namespace Go.Proofs.YtoangpfmjohhmaaGreatDoor
open Go.RowKit Go.Deep

end Go.Proofs.YtoangpfmjohhmaaGreatDoor

/- PartEach of the model. -/
namespace Go.Proofs.YtoangpfmjohhmaaGreatDoor
open Go.RowKit Go.Deep

/-- The parts of a tree, and whether there can be some. -/
def eachT (d : Nat) (t : Tr (d + 1)) : List (Tr d) × Bool := if okT (d + 1) t = true ∧ 5 ≤ Nd.kind t then (Nd.list t, true) else ([], false)
/-- What is asked of PartEach of the model, .. of the program. -/
def SpecRQ (d : Nat) (xs : List (Tr d)) (ok : Bool) (w : World) (e : Ending) (w' : World) : Prop :=
  ∃ v, e = .returned (.tuple #[v, .bool ok]) ∧ RowAt (Fresh w w') w' (ValAt (Fresh w w') w' d) v xs ∧ Below w.heap.size w w'
def TellRQ (d : Nat) (xs : List (Tr d)) (ok : Bool) (w : World) (e : Ending) (w' : World) : Prop :=
  ∃ v, e = .returned (.tuple #[v, .bool ok]) ∧ RowOwn w' (fun P x u => ValOwn w' d P x u) (Fresh w w') v xs ∧ Below w.heap.size w w'
theorem row_nil {d : Nat} (S : Nat → Prop) (w : World) (a : Option Addr) : RowAt S w (ValAt S w d) (.slice a 0 0) [] := ⟨by show (0 : Nat) < _; omega, a, 0, rfl, Or.inl rfl⟩
theorem rowOwn_at {d : Nat} {S : Nat → Prop} {w : World} {v : Value} {xs : List (Tr d)} (h : RowOwn w (fun P x u => ValOwn w d P x u) S v xs) : RowAt S w (ValAt S w d) v xs := by
  have h1 : ValOwn w (d + 1) S (Nd.mk 5 0 ByteArray.empty [] xs : Nd (Tr d)) (.agg #[.int .i64 5, .int .i64 0, .string ByteArray.empty, .slice none 0 0, v]) :=
    ⟨_, _, fun _ => False, S, rfl, ⟨by show _ ≤ (5 : Int); omega, by show (5 : Int) ≤ _; omega⟩, ⟨by show _ ≤ (0 : Int); omega, by show (0 : Int) ≤ _; omega⟩, by show ByteArray.empty.size < _; decide, ⟨by show (0 : Nat) < _; omega, fun s h => by (cases h), none, 0, rfl, Or.inl rfl⟩, h, fun _ h => h.elim, fun _ h => h, fun _ h => h.elim⟩
  obtain ⟨vk, vl, hv, _, _, _, _, hl⟩ := ValOwn.at _ _ _ _ h1
  cases hv
  exact hl

end Go.Proofs.YtoangpfmjohhmaaGreatDoor

/- PartEach of the model : the answer owns its memory. -/
namespace Go.Proofs.YtoangpfmjohhmaaGreatDoor
open Go.RowKit Go.Deep

end Go.Proofs.YtoangpfmjohhmaaGreatDoor

/- PartGet of the program. -/
namespace Go.Proofs.YtoangpfmjohhmaaGreatDoor
open Go.RowKit Go.Deep

set_option maxRecDepth 100000 in
set_option maxHeartbeats 4000000 in
theorem implPartGet_any (d : Nat) (S : Nat → Prop) (t : Tr (d + 2)) (v : Value) (s : ByteArray) (hs : s.size < 281474976710656) (w : World) (hv : ValAt S w (d + 2) t v) (hS : Within S w) (hg : ErrType w) :
    Calls Tryz.prog 118 #[v, .string s] w (TellQ d (partGetT d t s).1 (partGetT d t s).2 w) := by
  obtain ⟨k, n, z, ak, lk, ck, al, ll, cl, rfl⟩ := hv.shape
  obtain ⟨W0, hW⟩ : ∃ W0, W0 = (w.alloc (.cells #[.int .i64 k, .int .i64 n, .string z, .slice ak lk ck, .slice al ll cl] 26)).alloc (.cells #[.int .i64 0, .int .i64 0, .string { data := #[] }, .slice none 0 0, .slice none 0 0] 26) := ⟨_, rfl⟩
  have hW0 : Below w.heap.size w W0 := by rw [hW]; exact below_trans (below_alloc1 _ _) (below_alloc1 _ _)
  have k1 : Blk5 W0 (w.heap.size + 1) 26 (.int .i64 0) (.int .i64 0) (.string { data := #[] }) (.slice none 0 0) (.slice none 0 0) := by
    have := Blk5.new (w.alloc (.cells #[.int .i64 k, .int .i64 n, .string z, .slice ak lk ck, .slice al ll cl] 26)) 26 (.int .i64 0) (.int .i64 0) (.string { data := #[] }) (.slice none 0 0) (.slice none 0 0)
    rw [World.size_alloc] at this
    rw [hW]
    exact this
  have HW := hide hW
  clear hW
  go_enter Tryz.func118, Tryz.ntmps118
  go_wp2_with fail
  rw [← HW.out]
  clear HW
  refine (partsByKeys_any (d + 1) S t _ s hs W0 (hv.same (hS.same hW0)) (hS.later hW0.size)).mono ?_
  rintro e w1 ⟨hb1, hq⟩
  have hB1 := below_trans hW0 hb1
  have k2 := k1.below hb1
  have hg1 := hg.below hB1
  have hlt := k2.lt
  -- what is told, however it is
  have hfin : ∀ (w1' : World), Below w1.heap.size w1 w1' → ∀ (x : Tr (d + 1)) (ok : Bool), Hid (∀ e w2, TellQ d x ok w1' e w2 → ∃ v0 v1 v2 v3 v4 v5 v6 v7 v8, e = .returned (.tuple #[.agg #[.int .i64 v0, .int .i64 v1, .string v2, .slice v3 v4 v5, .slice v6 v7 v8], .bool ok]) ∧
      Blk5 w2 (w.heap.size + 1) 26 (.int .i64 0) (.int .i64 0) (.string { data := #[] }) (.slice none 0 0) (.slice none 0 0) ∧
      ∀ wF, wF = set5 w2 (w.heap.size + 1) 0 (.int .i64 v0) (.int .i64 v1) (.string v2) (.slice v3 v4 v5) (.slice v6 v7 v8) → ValOwn wF (d + 1) (Fresh w wF) x (.agg #[.int .i64 v0, .int .i64 v1, .string v2, .slice v3 v4 v5, .slice v6 v7 v8]) ∧ Below w.heap.size w wF) := fun w1' hb' x ok => by
    intro e w2 ⟨v, he, hv, hb2⟩
    obtain ⟨v0, v1, v2, v3, v4, v5, v6, v7, v8, rfl⟩ := (ValOwn.at _ _ _ _ hv).shape
    exact ⟨v0, v1, v2, v3, v4, v5, v6, v7, v8, he, (k2.below hb').below hb2, tell_end hv (below_trans (below_trans hB1 hb') hb2) (by omega) (Nat.lt_of_lt_of_le hlt hb'.size)⟩
  clear hv hW0 k1 k2
  rcases hq with ⟨keys, xs, r, es, ps, hrow, rfl, hma⟩ | ⟨hrow, why, rfl⟩
  · obtain ⟨hR, hxok⟩ := partGet_some hrow
    by_cases hin : s ∈ keys
    · obtain ⟨k', x, hk1, hk2, hk3⟩ := key_at hin hma.same
      have hmem : (s, x) ∈ ps := hma.perm.mem_iff.2 (List.mem_of_getElem? (by rw [List.getElem?_zip_eq_some]; exact ⟨hk1, hk2⟩ : (keys.zip xs)[k']? = some (s, x)))
      obtain ⟨j, u, hj1, hj2, hu, hj3⟩ := hma.ent.find (perm_nodup hma.perm hma.same hma.good) hmem
      obtain ⟨T, u', rfl⟩ := hu.iface
      have hlook := run_mapGet w1 r ps.length j es s _ j true hma.obj hj2 hj3
      have hxo := hxok x (List.mem_of_getElem? hk2)
      have HR : Hid (partGetT d t s = (toldT d x, okT (d + 1) x)) := by
        show partGetT d t s = _
        rw [hR, getL_at hk1 hk2 hk3, hxo, toldT, if_pos hxo]
        rfl
      have hcall := hide (told_tree d _ x _ w1 hu (Fresh.within _ _))
      clear hR hrow hma hxok hk1 hk2 hk3 hmem hj1 hj2 hj3 hu hin hxo
      rw [if_pos rfl] at hlook
      go_wp2_with fail
      refine Calls.mono hcall.out ?_
      intro e w2 hq
      obtain ⟨v0, v1, v2, v3, v4, v5, v6, v7, v8, rfl, k3, hF⟩ := (hfin w1 (Below.refl _ _) _ _).out e w2 hq
      have HF := hide hF
      obtain ⟨y0, y1, y2, y3, y4⟩ := k3.cell
      have yf := k3.frozen
      clear hF hq hfin hcall k3
      go_wp2_with fail
      refine bodyPost_ret (v := .tuple #[.agg #[.int .i64 v0, .int .i64 v1, .string v2, .slice v3 v4 v5, .slice v6 v7 v8], .bool (okT (d + 1) x)]) (by simp [results, Tryz.results118, go_sem, y0, y1, y2, y3, y4]) rfl ⟨_, by rw [HR.out], by rw [HR.out]; exact (HF.out _ rfl).1, (HF.out _ rfl).2⟩
    · have hlook := run_mapMiss w1 r ps.length es s hma.obj (hma.ent.miss (fun h => hin (by
        have h2 := (hma.perm.map Prod.fst).mem_iff.1 h
        rw [List.map_fst_zip (by have := hma.same; omega)] at h2
        exact h2)))
      have HR : Hid (partGetT d t s = (toldT d (zeroT d), okT (d + 1) (zeroT d))) := by
        show partGetT d t s = _
        rw [hR, getL_miss hin, okT_zero d, toldT, if_pos (okT_zero d)]
        rfl
      have hcall := hide (told_tree d (fun _ => False) (zeroT d) (.iface 163 (.agg #[.int .i64 0])) w1 (bareTree_at d _ _) (fun _ h => h.elim))
      clear hR hrow hma hxok hin
      go_wp2_with fail
      refine Calls.mono hcall.out ?_
      intro e w2 hq
      obtain ⟨v0, v1, v2, v3, v4, v5, v6, v7, v8, rfl, k3, hF⟩ := (hfin w1 (Below.refl _ _) _ _).out e w2 hq
      have HF := hide hF
      obtain ⟨y0, y1, y2, y3, y4⟩ := k3.cell
      have yf := k3.frozen
      clear hF hq hfin hcall k3
      go_wp2_with fail
      refine bodyPost_ret (v := .tuple #[.agg #[.int .i64 v0, .int .i64 v1, .string v2, .slice v3 v4 v5, .slice v6 v7 v8], .bool (okT (d + 1) (zeroT d))]) (by simp [results, Tryz.results118, go_sem, y0, y1, y2, y3, y4]) rfl ⟨_, by rw [HR.out], by rw [HR.out]; exact (HF.out _ rfl).1, (HF.out _ rfl).2⟩
  · have HR := hide (partGet_none hrow)
    have hcall := hide (told_fault d .nilIface why w1 hg1)
    unfold faultV
    clear hrow
    go_wp2_with fail
    refine Calls.mono hcall.out ?_
    intro e w2 hq
    obtain ⟨v0, v1, v2, v3, v4, v5, v6, v7, v8, rfl, k3, hF⟩ := (hfin w1 (Below.refl _ _) _ _).out e w2 hq
    have HF := hide hF
    obtain ⟨y0, y1, y2, y3, y4⟩ := k3.cell
    have yf := k3.frozen
    clear hF hq hfin hcall k3
    go_wp2_with fail
    refine bodyPost_ret (v := .tuple #[.agg #[.int .i64 v0, .int .i64 v1, .string v2, .slice v3 v4 v5, .slice v6 v7 v8], .bool false]) (by simp [results, Tryz.results118, go_sem, y0, y1, y2, y3, y4]) rfl ⟨_, by rw [HR.out], by rw [HR.out]; exact (HF.out _ rfl).1, (HF.out _ rfl).2⟩
end Go.Proofs.YtoangpfmjohhmaaGreatDoor

/- PartKeys of the program. -/
namespace Go.Proofs.YtoangpfmjohhmaaGreatDoor
open Go.RowKit Go.Deep

/-- A row of trees without parts. -/
theorem row1_of_own {d N : Nat} {S : Nat → Prop} {w' : World} {sv : Value} {xs : List (Tr d)} {vs : List Value} (h1 : w'.ownsRow N 58 1 sv xs.length vs) (hl : xs.length < 17592186044416) (hS : ∀ b, N ≤ b → b < w'.heap.size → S b)
    (h2 : ∀ (i : Nat) (x : Tr d) (u : Value), xs[i]? = some x → vs[i]? = some u → TreeG S w' d x u) : Row1At S w' (TreeG S w' d) sv xs := by
  refine ⟨hl, ?_⟩
  have hlen := h1.1
  rw [Nat.mul_one] at hlen
  rcases h1.2 with ⟨rfl, h0⟩ | ⟨g, cap, cur, rfl, hg, hh, _, _, _, _⟩
  · exact ⟨none, 0, by rw [h0], Or.inl (List.eq_nil_of_length_eq_zero h0)⟩
  · refine ⟨some ⟨g, 0, none⟩, cap, rfl, Or.inr ⟨g, 0, hS g hg (Array.getElem?_eq_some_iff.1 hh).1, rfl, fun i x hx => ?_⟩⟩
    have hi := (List.getElem?_eq_some_iff.1 hx).1
    have hvi : vs[i]? = some vs[i] := List.getElem?_eq_getElem (by omega)
    have hc := h1.cells (g := g) rfl i _ hvi
    have hadd : (⟨g, 0, none⟩ : Addr).add i = ⟨g, 0 + i, none⟩ := by unfold Addr.add; split <;> simp_all
    rw [hadd] at hc
    exact ⟨vs[i], hc, h2 i x _ hx hvi⟩
/-- Places, keys as the program's own trees. -/
def placeVs (k : Nat) : List Value := (List.range k).map (fun (i : Nat) => .iface 113 (.agg #[.int .i64 (i : Int)]))
def keyVs (ks : List ByteArray) : List Value := ks.map (fun s => .iface 116 (.agg #[.string s]))
theorem placeVs_succ (k : Nat) : placeVs (k + 1) = placeVs k ++ [.iface 113 (.agg #[.int .i64 (k : Int)])] := by
  simp [placeVs, List.range_succ]
theorem keyVs_succ (ks : List ByteArray) (k : Nat) (s : ByteArray) (h : ks[k]? = some s) : keyVs (ks.take (k + 1)) = keyVs (ks.take k) ++ [.iface 116 (.agg #[.string s])] := by
  rw [List.take_add_one, h]
  simp [keyVs]

/-- What withParts is asked to give. -/
def WithQ (d : Nat) (t : Tr (d + 1)) (w : World) (e : Ending) (w' : World) : Prop :=
  Below w.heap.size w w' ∧ ((okT (d + 1) t = true ∧ 5 ≤ Nd.kind t ∧ ∃ u, e = .returned (.tuple #[u, .nilIface]) ∧ TreeG (Fresh w w') w' (d + 1) t u) ∨ (¬ (okT (d + 1) t = true ∧ 5 ≤ Nd.kind t) ∧ ∃ why, e = .returned (.tuple #[.nilIface, faultV why])))

set_option maxRecDepth 100000 in
set_option maxHeartbeats 4000000 in
theorem withParts_any (d : Nat) (S : Nat → Prop) (t : Tr (d + 1)) (v : Value) (w : World) (hv : ValAt S w (d + 1) t v) (hS : Within S w) :
    Calls Tryz.prog 83 #[v] w (WithQ d t w) := by
  obtain ⟨k, n, s, ak, lk, ck, al, ll, cl, rfl⟩ := hv.shape
  have hA := below_alloc1 w (.cells #[.int .i64 k, .int .i64 n, .string s, .slice ak lk ck, .slice al ll cl] 26)
  have hAs := hA.size
  go_enter Tryz.func83, Tryz.ntmps83
  go_wp2_with fail
  refine (given_any (d + 1) S t _ _ (hv.same (hS.same hA)) (hS.later hA.size)).mono ?_
  rintro e w1 ⟨hb1, hq⟩
  have hB := below_trans hA hb1
  have hw1s := hb1.size
  clear hb1 hA hv
  have hfr : ∀ b, Fresh (w.alloc (.cells #[.int .i64 k, .int .i64 n, .string s, .slice ak lk ck, .slice al ll cl] 26)) w1 b → Fresh w w1 b := fun b hb => ⟨by have := hb.1; omega, hb.2⟩
  rcases hq with ⟨hok, u, rfl, hu⟩ | ⟨hok, why, rfl⟩
  · have HU := hide (hu.mono hfr)
    rcases hu with ⟨k', h1, rfl, rfl⟩ | ⟨n', h1, rfl, rfl⟩ | ⟨s', h1, rfl, rfl⟩ | ⟨xs, sv, h1, rfl, rfl, hr⟩ | ⟨keys, xs, ps, r, es, h1, h2, h3, h4, rfl, rfl, hr, hm, he⟩
    · have a3 := Tryz.asR_B
      have a4 := Tryz.asM_B
      have hq : Hid (¬ (okT (d + 1) (Nd.mk k' 0 ByteArray.empty [] [] : Nd (Tr d)) = true ∧ 5 ≤ k')) := fun h => by have := h.2; omega
      go_wp2_with fail
      go_ret2
      exact ⟨by first | exact hB | exact below_trans hB (below_alloc1 _ _) | exact below_trans hB (below_trans (below_alloc1 _ _) (below_alloc1 _ _)), Or.inr ⟨hq.out, _, rfl⟩⟩
    · have a3 := Tryz.asR_N
      have a4 := Tryz.asM_N
      have hq : Hid (¬ (okT (d + 1) (Nd.mk 3 n' ByteArray.empty [] [] : Nd (Tr d)) = true ∧ 5 ≤ (3 : Int))) := fun h => by have := h.2; omega
      go_wp2_with fail
      go_ret2
      exact ⟨by first | exact hB | exact below_trans hB (below_alloc1 _ _) | exact below_trans hB (below_trans (below_alloc1 _ _) (below_alloc1 _ _)), Or.inr ⟨hq.out, _, rfl⟩⟩
    · have a3 := Tryz.asR_S
      have a4 := Tryz.asM_S
      have hq : Hid (¬ (okT (d + 1) (Nd.mk 4 0 s' [] [] : Nd (Tr d)) = true ∧ 5 ≤ (4 : Int))) := fun h => by have := h.2; omega
      go_wp2_with fail
      go_ret2
      exact ⟨by first | exact hB | exact below_trans hB (below_alloc1 _ _) | exact below_trans hB (below_trans (below_alloc1 _ _) (below_alloc1 _ _)), Or.inr ⟨hq.out, _, rfl⟩⟩
    · have a3 := Tryz.asR_R
      have a4 := Tryz.asM_R
      clear hr
      go_wp2_with fail
      go_ret2
      exact ⟨hB, Or.inl ⟨hok, by show (5 : Int) ≤ 5; omega, _, rfl, HU.out⟩⟩
    · have a3 := Tryz.asR_M
      have a4 := Tryz.asM_M
      clear hr hm he h4 h3 h2
      go_wp2_with fail
      go_ret2
      exact ⟨hB, Or.inl ⟨hok, by show (5 : Int) ≤ 6; omega, _, rfl, HU.out⟩⟩
  · unfold faultV
    go_wp2_with fail
    go_ret2
    exact ⟨hB, Or.inr ⟨fun h => by (rw [hok] at h; cases h.1), why, rfl⟩⟩

/-- What keyRow is asked to give. -/
def KeyQ (d : Nat) (t : Tr (d + 2)) (w : World) (e : Ending) (w' : World) : Prop :=
  Below w.heap.size w w' ∧ ((okT (d + 2) t = true ∧ 5 ≤ Nd.kind t ∧ ∃ u, e = .returned (.tuple #[u, .nilIface]) ∧ TreeG (Fresh w w') w' (d + 2) (rowK d (keyTs d t)) u) ∨ (¬ (okT (d + 2) t = true ∧ 5 ≤ Nd.kind t) ∧ ∃ why, e = .returned (.tuple #[.nilIface, faultV why])))

set_option maxRecDepth 100000 in
set_option maxHeartbeats 4000000 in
theorem keyRow_any (d : Nat) (S : Nat → Prop) (t : Tr (d + 2)) (v : Value) (w : World) (hv : ValAt S w (d + 2) t v) (hS : Within S w) :
    Calls Tryz.prog 47 #[v] w (KeyQ d t w) := by
  obtain ⟨k, n, s, ak, lk, ck, al, ll, cl, rfl⟩ := hv.shape
  have hA := below_alloc1 w (.cells #[.int .i64 k, .int .i64 n, .string s, .slice ak lk ck, .slice al ll cl] 26)
  have hAs := hA.size
  go_enter Tryz.func47, Tryz.ntmps47
  go_wp2_with fail
  refine (withParts_any (d + 1) S t _ _ (hv.same (hS.same hA)) (hS.later hA.size)).mono ?_
  rintro e w1 ⟨hb1, hq⟩
  have hB := below_trans hA hb1
  have hw1s := hb1.size
  clear hb1 hA hv
  rcases hq with ⟨hok, h5, u, rfl, hu⟩ | ⟨hno, why, rfl⟩
  · have hl60 := okT_len hok
    rcases hu with ⟨k', h1, rfl, rfl⟩ | ⟨n', h1, rfl, rfl⟩ | ⟨s', h1, rfl, rfl⟩ | ⟨xs, sv, h1, rfl, rfl, hr⟩ | ⟨keys, xs, ps, r, es, h1, h2, h3, h4, rfl, rfl, hr, hm, he⟩
    · exact absurd (show (5 : Int) ≤ k' from h5) (by omega)
    · exact absurd (show (5 : Int) ≤ 3 from h5) (by omega)
    · exact absurd (show (5 : Int) ≤ 4 from h5) (by omega)
    · have a3 := Tryz.asR_R
      obtain ⟨sa, sc, rfl, _⟩ := hr.open'
      have hl60 : xs.length < 60 := hl60
      clear hr
      obtain ⟨W0, hW⟩ : ∃ W0, W0 = w1.alloc (.cells #[.slice sa xs.length sc] 120) := ⟨_, rfl⟩
      have hB0 : Below w.heap.size w W0 := by rw [hW]; exact below_trans hB (below_alloc1 _ _)
      have HW := hide hW
      have HB0 := hide hB0
      have hw0s := hB0.size
      clear hW hB hB0
      go_wp2_with fail
      rw [← HW.out]
      clear HW
      go_loopw [6, 27] (fun lv i wr => ∃ (k : Nat), k ≤ xs.length ∧ i = .int .i64 k ∧ Hid (wr.ownsRow W0.heap.size 58 1 lv k (placeVs k)) ∧ Below W0.heap.size W0 wr) (fun _ i _ => xs.length - (intOf i).toNat)
      case atStart => exact ⟨0, Nat.zero_le _, rfl, World.ownsRow_nil _ _ _ _, Below.refl _ _⟩
      case round =>
        obtain ⟨k, hkk, rfl, hto, hbel⟩ := hrel
        have hNs : W0.heap.size ≤ wr.heap.size := hbel.size
        by_cases hkl : k < xs.length
        · have hki : (k : Int) < (xs.length : Int) := by omega
          have hown1 := hide (hto.out.alloc (.cells #[.iface 113 (.agg #[.int .i64 (k : Int)])] 58))
          have hrow : ∀ g, u6.ownBlock = some g → W0.heap.size ≤ g := fun g hg => (hto.out.lt g hg).1
          have hstep : Hid (∀ sv' w2, w2.ownsRow W0.heap.size 58 1 sv' (k + 1) (placeVs k ++ [.iface 113 (.agg #[.int .i64 (k : Int)])]) → (wr.alloc (.cells #[.iface 113 (.agg #[.int .i64 (k : Int)])] 58)).grownBy w2 (u6.ownBlock) →
              w2.ownsRow W0.heap.size 58 1 sv' (k + 1) (placeVs (k + 1)) ∧ Below W0.heap.size W0 w2) := by
            intro sv' w2 o1 o2
            refine ⟨by rw [placeVs_succ]; exact o1, ?_⟩
            refine ⟨o2.os.trans hbel.os, o2.tape.trans hbel.tape, o2.output.trans hbel.output, Nat.le_trans hbel.size (Nat.le_trans (by simp) o2.size), fun i hi => ?_⟩
            exact ((o2.block i (by simp; omega) (fun e => by have := hrow i e.symm; omega)).trans (Below.heap_alloc _ _ _ (by omega))).trans (hbel.block i hi)
          obtain ⟨i0, hi, hz0, hz1, hz2⟩ := info_parts Tryz.infoTree
          clear hto hbel hrow
          go_wp2_with (at_builtin; refine wpList_append_own_at _ rfl _ _ 118 rfl W0.heap.size 58 i0 .nilIface 1 16 Tryz.underlying118 hi hz0 hz1 hz2 rfl (by decide) _ _ _ rfl hown1.out ⟨wr.heap.size, 0, none⟩ 1 1 [.iface 113 (.agg #[.int .i64 (k : Int)])] rfl rfl (cell_one_new _ _ _) ?c2 ?c3 ?c4 ?c5 ?_)
          case c2 => intro y hy; simp at hy; subst hy; rfl
          case c3 => unfold maxLen; omega
          case c4 => omega
          case c5 => simp; omega
          · intro sv' w2 o1 o2 _ o3
            have HH := hide (hstep.out sv' w2 o1 o2)
            clear o1 o2 o3 hstep hown1
            go_wp2_with fail
            go_roundw
            case rel => exact ⟨k + 1, by omega, by go_num, HH.out.1, HH.out.2⟩
            case measure => simp [intOf]; omega
        · obtain rfl : k = xs.length := by omega
          have hBF := below_trans HB0.out hbel
          have hrow1 : Hid (Row1At (Fresh w wr) wr (TreeG (Fresh w wr) wr (d + 1)) u6 (placesT d xs.length)) := by
            refine row1_of_own (by rw [places_len]; exact hto.out) (by rw [places_len]; omega) (fun b h1 h2 => ⟨by omega, h2⟩) (fun i x u hx hu => ?_)
            have hi := (List.getElem?_eq_some_iff.1 hx).1
            rw [places_len] at hi
            rw [places_at d xs.length i hi] at hx
            have h9 : (placeVs xs.length)[i]? = some (.iface 113 (.agg #[.int .i64 (i : Int)])) := by simp [placeVs, hi]
            rw [h9] at hu
            cases hx
            cases hu
            exact numTree_at d i ⟨by omega, by omega⟩ _ _
          obtain ⟨la, lc, rfl, _⟩ := hrow1.out.open'
          have HBF := hide hBF
          have hkt : Hid (keyTs d (Nd.mk 5 0 ByteArray.empty [] xs : Nd (Tr (d + 1))) = placesT d xs.length) := by
            show (if (5 : Int) = 5 then _ else _) = _
            rw [if_pos rfl]
          clear hto hbel hBF
          go_wp2_with fail
          go_ret2
          refine ⟨HBF.out, Or.inl ⟨hok, h5, _, rfl, ?_⟩⟩
          rw [hkt.out]
          exact Or.inr (Or.inr (Or.inr (Or.inl ⟨placesT d xs.length, _, by rw [places_len]; omega, rfl, rfl, hrow1.out⟩)))
    · have a3 := Tryz.asR_M
      have a4 := Tryz.asM_M
      have hl60 : xs.length < 60 := hl60
      have hA1 := below_alloc1 w1 (.cells #[.map (some r)] 125)
      have hwin := (Fresh.within (w.alloc (.cells #[.int .i64 k, .int .i64 n, .string s, .slice ak lk ck, .slice al ll cl] 26)) w1)
      have hsame := hwin.same hA1
      have hkc := hide (keys_any (Fresh (w.alloc (.cells #[.int .i64 k, .int .i64 n, .string s, .slice ak lk ck, .slice al ll cl] 26)) w1) (TreeG _ _ (d + 1)) ps keys xs r es (w1.alloc (.cells #[.map (some r)] 125)) hr ((hsame r hr).trans hm) (he.moved (fun x u hx => TreeG.moved hsame (fun _ h => h) (d + 1) x u hx)) (hwin.later hA1.size) h4 h3 h2 h1)
      have HKL := hide h3
      have HKB := hide h2
      have hB1 := below_trans hB hA1
      clear hr hm he h4 h3 h2 hsame hA1 hwin hB
      go_wp2_with fail
      refine Calls.mono hkc.out ?_
      rintro e w2 ⟨u, rfl, hu2, hb2⟩
      obtain ⟨ua, uc, rfl, hul⟩ := hu2.open'
      have hB2 := below_trans hB1 hb2
      have hsa := StrsOwn.at hu2
      have hsW := Fresh.within (w1.alloc (.cells #[.map (some r)] 125)) w2
      have HB2 := hide hB2
      have hw2s := hB2.size
      have hk60 : keys.length < 60 := by have := HKL.out; omega
      clear hb2 hB1 hkc hu2 hB2 HKL
      go_wp2_with fail
      go_loopw [6, 43] (fun lv i wr => ∃ (k : Nat), k ≤ keys.length ∧ i = .int .i64 k ∧ Hid (wr.ownsRow w2.heap.size 58 1 lv k (keyVs (keys.take k))) ∧ Below w2.heap.size w2 wr) (fun _ i _ => keys.length - (intOf i).toNat)
      case atStart => exact ⟨0, Nat.zero_le _, rfl, World.ownsRow_nil _ _ _ _, Below.refl _ _⟩
      case round =>
        obtain ⟨k, hkk, rfl, hto, hbel⟩ := hrel
        have hNs : w2.heap.size ≤ wr.heap.size := hbel.size
        by_cases hkl : k < keys.length
        · have hki : (k : Int) < (keys.length : Int) := by omega
          obtain ⟨b, o, s', rfl, _, hs', _, hck⟩ := (hsa.same (hsW.same hbel)).cell hkl
          have hown1 := hide (hto.out.alloc (.cells #[.iface 116 (.agg #[.string s'])] 58))
          have hrow : ∀ g, u6.ownBlock = some g → w2.heap.size ≤ g := fun g hg => (hto.out.lt g hg).1
          have hstep : Hid (∀ sv' w3, w3.ownsRow w2.heap.size 58 1 sv' (k + 1) (keyVs (keys.take k) ++ [.iface 116 (.agg #[.string s'])]) → (wr.alloc (.cells #[.iface 116 (.agg #[.string s'])] 58)).grownBy w3 (u6.ownBlock) →
              w3.ownsRow w2.heap.size 58 1 sv' (k + 1) (keyVs (keys.take (k + 1))) ∧ Below w2.heap.size w2 w3) := by
            intro sv' w3 o1 o2
            refine ⟨by rw [keyVs_succ keys k s' hs']; exact o1, ?_⟩
            refine ⟨o2.os.trans hbel.os, o2.tape.trans hbel.tape, o2.output.trans hbel.output, Nat.le_trans hbel.size (Nat.le_trans (by simp) o2.size), fun i hi => ?_⟩
            exact ((o2.block i (by simp; omega) (fun e => by have := hrow i e.symm; omega)).trans (Below.heap_alloc _ _ _ (by omega))).trans (hbel.block i hi)
          obtain ⟨i0, hi, hz0, hz1, hz2⟩ := info_parts Tryz.infoTree
          clear hto hbel hrow hsa hs'
          go_wp2_with (at_builtin; refine wpList_append_own_at _ rfl _ _ 118 rfl w2.heap.size 58 i0 .nilIface 1 16 Tryz.underlying118 hi hz0 hz1 hz2 rfl (by decide) _ _ _ rfl hown1.out ⟨wr.heap.size, 0, none⟩ 1 1 [.iface 116 (.agg #[.string s'])] rfl rfl (cell_one_new _ _ _) ?c2 ?c3 ?c4 ?c5 ?_)
          case c2 => intro y hy; simp at hy; subst hy; rfl
          case c3 => unfold maxLen; omega
          case c4 => omega
          case c5 => simp; omega
          · intro sv' w3 o1 o2 _ o3
            have HH := hide (hstep.out sv' w3 o1 o2)
            clear o1 o2 o3 hstep hown1
            go_wp2_with fail
            go_roundw
            case rel => exact ⟨k + 1, by omega, by go_num, HH.out.1, HH.out.2⟩
            case measure => simp [intOf]; omega
        · obtain rfl : k = keys.length := by omega
          have hBF := below_trans HB2.out hbel
          have hrow1 : Hid (Row1At (Fresh w wr) wr (TreeG (Fresh w wr) wr (d + 1)) u6 (keys.map (strT d))) := by
            have h8 := hto.out
            rw [List.take_of_length_le (Nat.le_refl _)] at h8
            refine row1_of_own (by rw [List.length_map]; exact h8) (by rw [List.length_map]; omega) (fun b h1 h2 => ⟨by omega, h2⟩) (fun i x u hx hu => ?_)
            rw [List.getElem?_map] at hx
            unfold keyVs at hu
            rw [List.getElem?_map] at hu
            cases hki : keys[i]? with
            | none => rw [hki] at hx; cases hx
            | some q =>
              rw [hki] at hx hu
              cases hx
              cases hu
              exact Or.inr (Or.inr (Or.inl ⟨q, by have := strOk_size (keysB_strOk keys none HKB.out q (List.mem_of_getElem? hki)); omega, rfl, rfl⟩))
          obtain ⟨la, lc, rfl, _⟩ := hrow1.out.open'
          have HBF := hide hBF
          have hkt : Hid (keyTs d (Nd.mk 6 0 ByteArray.empty keys xs : Nd (Tr (d + 1))) = keys.map (strT d)) := by
            show (if (6 : Int) = 5 then _ else _) = _
            rw [if_neg (by omega)]
          clear hto hbel hBF hsa
          go_wp2_with fail
          go_ret2
          refine ⟨HBF.out, Or.inl ⟨hok, h5, _, rfl, ?_⟩⟩
          rw [hkt.out]
          have h7 := hrow1.out
          rw [List.length_map] at h7
          exact Or.inr (Or.inr (Or.inr (Or.inl ⟨keys.map (strT d), _, by rw [List.length_map]; omega, rfl, rfl, h7⟩)))
  · unfold faultV
    go_wp2_with fail
    go_ret2
    exact ⟨hB, Or.inr ⟨hno, why, rfl⟩⟩

set_option maxRecDepth 100000 in
set_option maxHeartbeats 4000000 in
theorem implPartKeys_any (d : Nat) (S : Nat → Prop) (t : Tr (d + 2)) (v : Value) (w : World) (hv : ValAt S w (d + 2) t v) (hS : Within S w) (hg : ErrType w) :
    Calls Tryz.prog 17 #[v] w (TellQ (d + 1) (partKeysT d t).1 (partKeysT d t).2 w) := by
  obtain ⟨k, n, s, ak, lk, ck, al, ll, cl, rfl⟩ := hv.shape
  obtain ⟨W0, hW⟩ : ∃ W0, W0 = (w.alloc (.cells #[.int .i64 k, .int .i64 n, .string s, .slice ak lk ck, .slice al ll cl] 26)).alloc (.cells #[.int .i64 0, .int .i64 0, .string { data := #[] }, .slice none 0 0, .slice none 0 0] 26) := ⟨_, rfl⟩
  have hW0 : Below w.heap.size w W0 := by rw [hW]; exact below_trans (below_alloc1 _ _) (below_alloc1 _ _)
  have k1 : Blk5 W0 (w.heap.size + 1) 26 (.int .i64 0) (.int .i64 0) (.string { data := #[] }) (.slice none 0 0) (.slice none 0 0) := by
    have := Blk5.new (w.alloc (.cells #[.int .i64 k, .int .i64 n, .string s, .slice ak lk ck, .slice al ll cl] 26)) 26 (.int .i64 0) (.int .i64 0) (.string { data := #[] }) (.slice none 0 0) (.slice none 0 0)
    rw [World.size_alloc] at this
    rw [hW]
    exact this
  have HW := hide hW
  clear hW
  go_enter Tryz.func17, Tryz.ntmps17
  go_wp2_with fail
  rw [← HW.out]
  clear HW
  refine (keyRow_any d S t _ W0 (hv.same (hS.same hW0)) (hS.later hW0.size)).mono ?_
  rintro e w1 ⟨hb1, hq⟩
  have hB1 := below_trans hW0 hb1
  have k2 := k1.below hb1
  have hg1 := hg.below hB1
  have hlt := k2.lt
  -- what is told, however it is
  have hfin : ∀ (w1' : World), Below w1.heap.size w1 w1' → ∀ (x : Tr (d + 2)) (ok : Bool), Hid (∀ e w2, TellQ (d + 1) x ok w1' e w2 → ∃ v0 v1 v2 v3 v4 v5 v6 v7 v8, e = .returned (.tuple #[.agg #[.int .i64 v0, .int .i64 v1, .string v2, .slice v3 v4 v5, .slice v6 v7 v8], .bool ok]) ∧
      Blk5 w2 (w.heap.size + 1) 26 (.int .i64 0) (.int .i64 0) (.string { data := #[] }) (.slice none 0 0) (.slice none 0 0) ∧
      ∀ wF, wF = set5 w2 (w.heap.size + 1) 0 (.int .i64 v0) (.int .i64 v1) (.string v2) (.slice v3 v4 v5) (.slice v6 v7 v8) → ValOwn wF (d + 2) (Fresh w wF) x (.agg #[.int .i64 v0, .int .i64 v1, .string v2, .slice v3 v4 v5, .slice v6 v7 v8]) ∧ Below w.heap.size w wF) := fun w1' hb' x ok => by
    intro e w2 ⟨v, he, hv, hb2⟩
    obtain ⟨v0, v1, v2, v3, v4, v5, v6, v7, v8, rfl⟩ := (ValOwn.at _ _ _ _ hv).shape
    exact ⟨v0, v1, v2, v3, v4, v5, v6, v7, v8, he, (k2.below hb').below hb2, tell_end hv (below_trans (below_trans hB1 hb') hb2) (by omega) (Nat.lt_of_lt_of_le hlt hb'.size)⟩
  clear hv hW0 k1 k2
  rcases hq with ⟨hok, h5, u, rfl, hu⟩ | ⟨hno, why, rfl⟩
  · have hxo : okT (d + 2) (rowK d (keyTs d t)) = true := by
      have := okT_partKeys d t
      rw [partKeysT, if_pos ⟨hok, h5⟩] at this
      exact this
    obtain ⟨T, u', rfl⟩ := hu.iface
    have HR : Hid (partKeysT d t = (toldT (d + 1) (rowK d (keyTs d t)), okT (d + 2) (rowK d (keyTs d t)))) := by
      show partKeysT d t = _
      rw [partKeysT, if_pos ⟨hok, h5⟩, hxo, toldT, if_pos hxo]
    have hcall := hide (told_tree (d + 1) _ (rowK d (keyTs d t)) _ w1 hu (Fresh.within _ _))
    clear hxo hu hok h5
    go_wp2_with fail
    refine Calls.mono hcall.out ?_
    intro e w2 hq
    obtain ⟨v0, v1, v2, v3, v4, v5, v6, v7, v8, rfl, k3, hF⟩ := (hfin w1 (Below.refl _ _) _ _).out e w2 hq
    have HF := hide hF
    obtain ⟨y0, y1, y2, y3, y4⟩ := k3.cell
    have yf := k3.frozen
    clear hF hq hfin hcall k3
    go_wp2_with fail
    refine bodyPost_ret (v := .tuple #[.agg #[.int .i64 v0, .int .i64 v1, .string v2, .slice v3 v4 v5, .slice v6 v7 v8], .bool (okT (d + 2) (rowK d (keyTs d t)))]) (by simp [results, Tryz.results17, go_sem, y0, y1, y2, y3, y4]) rfl ⟨_, by rw [HR.out], by rw [HR.out]; exact (HF.out _ rfl).1, (HF.out _ rfl).2⟩
  · have HR : Hid (partKeysT d t = (zeroT (d + 1), false)) := by
      show partKeysT d t = _
      rw [partKeysT, if_neg hno]
    have hcall := hide (told_fault (d + 1) .nilIface why w1 hg1)
    unfold faultV
    clear hno
    go_wp2_with fail
    refine Calls.mono hcall.out ?_
    intro e w2 hq
    obtain ⟨v0, v1, v2, v3, v4, v5, v6, v7, v8, rfl, k3, hF⟩ := (hfin w1 (Below.refl _ _) _ _).out e w2 hq
    have HF := hide hF
    obtain ⟨y0, y1, y2, y3, y4⟩ := k3.cell
    have yf := k3.frozen
    clear hF hq hfin hcall k3
    go_wp2_with fail
    refine bodyPost_ret (v := .tuple #[.agg #[.int .i64 v0, .int .i64 v1, .string v2, .slice v3 v4 v5, .slice v6 v7 v8], .bool false]) (by simp [results, Tryz.results17, go_sem, y0, y1, y2, y3, y4]) rfl ⟨_, by rw [HR.out], by rw [HR.out]; exact (HF.out _ rfl).1, (HF.out _ rfl).2⟩
end Go.Proofs.YtoangpfmjohhmaaGreatDoor

/- PartEach of the program. -/
namespace Go.Proofs.YtoangpfmjohhmaaGreatDoor
open Go.RowKit Go.Deep

end Go.Proofs.YtoangpfmjohhmaaGreatDoor

/- An answer, in a variable of its own. -/
namespace Go.Proofs.YtoangpfmjohhmaaGreatDoor
open Go.RowKit Go.Deep

/-- An answer, in a variable of its own at b. -/
structure ToldIn (e lo b : Nat) (t : Tr (e + 1)) (w wc : World) (p0 p1 : Int) (p2 : ByteArray) (p3 : Option Addr) (p4 p5 : Nat) (p6 : Option Addr) (p7 p8 : Nat) : Prop where
  var : Blk5 wc b 26 (.int .i64 p0) (.int .i64 p1) (.string p2) (.slice p3 p4 p5) (.slice p6 p7 p8)
  val : ValAt (fun x => lo ≤ x ∧ x < wc.heap.size ∧ x ≠ b) wc (e + 1) t (.agg #[.int .i64 p0, .int .i64 p1, .string p2, .slice p3 p4 p5, .slice p6 p7 p8])
  below : Below lo w wc
  lob : lo ≤ b

theorem told_set {e lo b : Nat} {t : Tr (e + 1)} {w W : World} {p0 p1 : Int} {p2 : ByteArray} {p3 : Option Addr} {p4 p5 : Nat} {p6 : Option Addr} {p7 p8 : Nat} {c0 c1 c2 c3 c4 : Value} {S : Nat → Prop} (hz : Blk5 W b 26 c0 c1 c2 c3 c4) (hlo : lo ≤ b) (hb : Below lo w W)
    (ha : ValAt S W (e + 1) t (.agg #[.int .i64 p0, .int .i64 p1, .string p2, .slice p3 p4 p5, .slice p6 p7 p8])) (hS : ∀ x, S x → lo ≤ x ∧ x < W.heap.size ∧ x ≠ b) :
    ToldIn e lo b t w (set5 W b 0 (.int .i64 p0) (.int .i64 p1) (.string p2) (.slice p3 p4 p5) (.slice p6 p7 p8)) p0 p1 p2 p3 p4 p5 p6 p7 p8 := by
  refine ⟨?_, ?_, below_set5 hb hlo _ _ _ _ _ _, hlo⟩
  · unfold Blk5 at hz ⊢
    simp [set5, World.setCell, Array.getElem?_modify, hz]
  · exact ValAt.moved (fun x hx => set5_block _ _ _ _ _ _ _ _ _ (hS x hx).2.2) (fun x hx => ⟨(hS x hx).1, by rw [set5_size]; exact (hS x hx).2.1, (hS x hx).2.2⟩) _ _ _ ha
theorem told_new {e lo : Nat} {t : Tr (e + 1)} {w W : World} {p0 p1 : Int} {p2 : ByteArray} {p3 : Option Addr} {p4 p5 : Nat} {p6 : Option Addr} {p7 p8 : Nat} {S : Nat → Prop} (hlo : lo ≤ W.heap.size) (hb : Below lo w W)
    (ha : ValAt S W (e + 1) t (.agg #[.int .i64 p0, .int .i64 p1, .string p2, .slice p3 p4 p5, .slice p6 p7 p8])) (hS : ∀ x, S x → lo ≤ x ∧ x < W.heap.size) :
    ToldIn e lo W.heap.size t w (W.alloc (.cells #[.int .i64 p0, .int .i64 p1, .string p2, .slice p3 p4 p5, .slice p6 p7 p8] 26)) p0 p1 p2 p3 p4 p5 p6 p7 p8 := by
  refine ⟨Blk5.new _ _ _ _ _ _ _, ?_, hb.alloc hlo _, hlo⟩
  exact ValAt.moved (fun x hx => Below.heap_alloc _ _ _ (hS x hx).2) (fun x hx => ⟨(hS x hx).1, by have := (hS x hx).2; simp; omega, by have := (hS x hx).2; omega⟩) _ _ _ ha
theorem Fresh.within' (w : World) {w' w2 : World} (h : w'.heap.size ≤ w2.heap.size) : Within (Fresh w w') w2 := fun _ hb => Nat.lt_of_lt_of_le hb.2 h
theorem newDrew (w : World) (T : TypeId) (c0 c1 c2 c3 c4 : Value) : Blk5 (w.alloc (.cells #[c0, c1, c2, c3, c4] T)).drew w.heap.size T c0 c1 c2 c3 c4 := Blk5.new w T c0 c1 c2 c3 c4
theorem belowChain {n b : Nat} {w W : World} {T : TypeId} {c0 c1 c2 c3 c4 : Value} (hb : Below n w W) (_hz : Blk5 W b T c0 c1 c2 c3 c4) (hle : n ≤ b) (v0 v1 v2 v3 v4 : Value) : Below n w (((((W.setCell ⟨b, 0, none⟩ v0).setCell ⟨b, 1, none⟩ v1).setCell ⟨b, 2, none⟩ v2).setCell ⟨b, 3, none⟩ v3).setCell ⟨b, 4, none⟩ v4) :=
  below_set5 hb hle 0 v0 v1 v2 v3 v4
end Go.Proofs.YtoangpfmjohhmaaGreatDoor

/- The laws of chapter 2: what their calls give, and how their variables lie. -/
namespace Go.Proofs.YtoangpfmjohhmaaGreatDoor
open Go.RowKit Go.Deep

/-- What is told: a tree in new plain memory, and whether it can be done. -/
def TQ (w : World) (d : Nat) (t : Tr d) (ok : Bool) (W : World) (e : Ending) (w' : World) : Prop :=
  ∃ (c0 c1 : Int) (c2 : ByteArray) (c3 : Option Addr) (c4 c5 : Nat) (c6 : Option Addr) (c7 c8 : Nat), e = .returned (.tuple #[.agg #[.int .i64 c0, .int .i64 c1, .string c2, .slice c3 c4 c5, .slice c6 c7 c8], .bool ok]) ∧
    ValAt (FreshP w w') w' d t (.agg #[.int .i64 c0, .int .i64 c1, .string c2, .slice c3 c4 c5, .slice c6 c7 c8]) ∧ Below W.heap.size W w'
theorem tq_of {w W w' : World} {d : Nat} {t : Tr (d + 1)} {ok : Bool} {e : Ending} (hl : w.heap.size ≤ W.heap.size) (h : TellQ d t ok W e w') : TQ w (d + 1) t ok W e w' := by
  obtain ⟨v, rfl, hv, hb⟩ := h
  have hp := (own_plain (d + 1) _ t v hv).mono (S' := FreshP w w') (fun b hb' => ⟨⟨Nat.le_trans hl hb'.1.1, hb'.1.2⟩, hb'.2⟩)
  obtain ⟨c0, c1, c2, c3, c4, c5, c6, c7, c8, rfl⟩ := hp.shape
  exact ⟨c0, c1, c2, c3, c4, c5, c6, c7, c8, rfl, hp, hb⟩
theorem nodes_small {d : Nat} {t : Tr d} (h : wtT d t ≤ 10000) : (nodes d t : Int) ≤ 4194304 := by
  have := nodes_wt' d t
  omega

theorem getI {d : Nat} {w W : World} {t : Tr (d + 2)} {v : Value} {s : ByteArray} (h : ValAt (FreshP w W) W (d + 2) t v) (hs : s.size < 281474976710656) (hg : ErrType W) (hl : w.heap.size ≤ W.heap.size) :
    Calls Tryz.prog 118 #[v, .string s] W (TQ w (d + 1) (partGetT d t s).1 (partGetT d t s).2 W) := (implPartGet_any d _ t v s hs W h within_P hg).mono (fun _ _ h => tq_of hl h)
theorem atI {d : Nat} {w W : World} {t : Tr (d + 2)} {v : Value} {i : Int} (h : ValAt (FreshP w W) W (d + 2) t v) (hi : I64 i) (hg : ErrType W) (hl : w.heap.size ≤ W.heap.size) :
    Calls Tryz.prog 119 #[v, .int .i64 i] W (TQ w (d + 1) (partAtT d t i).1 (partAtT d t i).2 W) := (implPartAt_any d _ t v i hi W h within_P hg).mono (fun _ _ h => tq_of hl h)
theorem putI {d : Nat} {w W : World} {t : Tr (d + 2)} {x : Tr (d + 1)} {v u : Value} {s : ByteArray} (h : ValAt (FreshP w W) W (d + 2) t v) (hx : ValAt (FreshP w W) W (d + 1) x u) (hs : s.size < 281474976710656) (hg : ErrType W) (hl : w.heap.size ≤ W.heap.size) :
    Calls Tryz.prog 96 #[v, .string s, u] W (TQ w (d + 2) (partPutT d t s x).1 (partPutT d t s x).2 W) := (implPartPut_any d _ t v s hs _ x u W h within_P hx within_P hg).mono (fun _ _ h => tq_of hl h)
theorem putS {d : Nat} {w W : World} {t : Tr (d + 2)} {x : Tr (d + 1)} {v u : Value} {s : ByteArray} (h : ValAt (FreshP w W) W (d + 2) t v) (hx : ValAt (FreshP w W) W (d + 1) x u) (hs : s.size < 281474976710656) (hz : wtT (d + 2) t ≤ 10000) (hz' : wtT (d + 1) x ≤ 10000) (hl : w.heap.size ≤ W.heap.size) :
    Calls Tryz.prog 92 #[v, .string s, u] W (TQ w (d + 2) (partPutT d t s x).1 (partPutT d t s x).2 W) := (specPartPut_own d _ t v s hs _ x u W h within_P hx within_P (nodes_small hz) (nodes_small hz')).mono (fun _ _ h => tq_of hl h)
theorem setI {d : Nat} {w W : World} {t : Tr (d + 2)} {x : Tr (d + 1)} {v u : Value} {i : Int} (h : ValAt (FreshP w W) W (d + 2) t v) (hx : ValAt (FreshP w W) W (d + 1) x u) (hi : I64 i) (hg : ErrType W) (hl : w.heap.size ≤ W.heap.size) :
    Calls Tryz.prog 97 #[v, .int .i64 i, u] W (TQ w (d + 2) (partSetT d t i x).1 (partSetT d t i x).2 W) := (implPartSet_any d _ t v i hi _ x u W h within_P hx within_P hg).mono (fun _ _ h => tq_of hl h)
theorem setS {d : Nat} {w W : World} {t : Tr (d + 2)} {x : Tr (d + 1)} {v u : Value} {i : Int} (h : ValAt (FreshP w W) W (d + 2) t v) (hx : ValAt (FreshP w W) W (d + 1) x u) (hi : I64 i) (hz : wtT (d + 2) t ≤ 10000) (hz' : wtT (d + 1) x ≤ 10000) (hl : w.heap.size ≤ W.heap.size) :
    Calls Tryz.prog 93 #[v, .int .i64 i, u] W (TQ w (d + 2) (partSetT d t i x).1 (partSetT d t i x).2 W) := (specPartSet_own d _ t v i hi _ x u W h within_P hx within_P (nodes_small hz) (nodes_small hz')).mono (fun _ _ h => tq_of hl h)
theorem lenI {d : Nat} {w W : World} {t : Tr (d + 1)} {v : Value} (h : ValAt (FreshP w W) W (d + 1) t v) (hg : ErrType W) (hl : w.heap.size ≤ W.heap.size) :
    Calls Tryz.prog 15 #[v] W (TQ w (d + 1) (partLenT d t).1 (partLenT d t).2 W) := (implPartLen_any d _ t v W h within_P hg).mono (fun _ _ h => tq_of hl h)
theorem lenS {d : Nat} {w W : World} {t : Tr (d + 1)} {v : Value} (h : ValAt (FreshP w W) W (d + 1) t v) (hz : wtT (d + 1) t ≤ 10000) (hl : w.heap.size ≤ W.heap.size) :
    Calls Tryz.prog 16 #[v] W (TQ w (d + 1) (partLenT d t).1 (partLenT d t).2 W) := (specPartLen_own d _ t v W h within_P (nodes_small hz)).mono (fun _ _ h => tq_of hl h)
theorem keysI {d : Nat} {w W : World} {t : Tr (d + 2)} {v : Value} (h : ValAt (FreshP w W) W (d + 2) t v) (hg : ErrType W) (hl : w.heap.size ≤ W.heap.size) :
    Calls Tryz.prog 17 #[v] W (TQ w (d + 2) (partKeysT d t).1 (partKeysT d t).2 W) := (implPartKeys_any d _ t v W h within_P hg).mono (fun _ _ h => tq_of hl h)
/-- A row of trees in plain memory, and whether it can be told. -/
def RQ (w : World) (d : Nat) (xs : List (Tr d)) (ok : Bool) (W : World) (e : Ending) (w' : World) : Prop :=
  ∃ (a : Option Addr) (c : Nat), e = .returned (.tuple #[.slice a xs.length c, .bool ok]) ∧ RowAt (FreshP w w') w' (ValAt (FreshP w w') w' d) (.slice a xs.length c) xs ∧ Below W.heap.size W w'
theorem rq_of {w W w' : World} {d : Nat} {xs : List (Tr d)} {ok : Bool} {e : Ending} (hl : w.heap.size ≤ W.heap.size) (h : TellRQ d xs ok W e w') : RQ w d xs ok W e w' := by
  obtain ⟨v, rfl, hv, hb⟩ := h
  have h1 : ValOwn w' (d + 1) (Fresh W w') (Nd.mk 5 0 ByteArray.empty [] xs : Nd (Tr d)) (.agg #[.int .i64 5, .int .i64 0, .string ByteArray.empty, .slice none 0 0, v]) :=
    ⟨_, _, fun _ => False, Fresh W w', rfl, ⟨by show _ ≤ (5 : Int); omega, by show (5 : Int) ≤ _; omega⟩, ⟨by show _ ≤ (0 : Int); omega, by show (0 : Int) ≤ _; omega⟩, by show ByteArray.empty.size < _; decide, ⟨by show (0 : Nat) < _; omega, fun s h => by (cases h), none, 0, rfl, Or.inl rfl⟩, hv, fun _ h => h.elim, fun _ h => h, fun _ h => h.elim⟩
  have hp := (own_plain (d + 1) _ _ _ h1).mono (S' := FreshP w w') (fun b hb' => ⟨⟨Nat.le_trans hl hb'.1.1, hb'.1.2⟩, hb'.2⟩)
  obtain ⟨vk, vl, hv', _, _, _, _, hrow⟩ := hp
  cases hv'
  obtain ⟨a, c, rfl, _⟩ := hrow.open'
  exact ⟨a, c, rfl, hrow, hb⟩
/-- The same, the answer being known to lie in what is new. -/
theorem getG {d : Nat} {w W : World} {t : Tr (d + 2)} {v : Value} {s : ByteArray} (h : ValAt (FreshP w W) W (d + 2) t v) (hs : s.size < 281474976710656) (hg : ErrType W) (_hl : w.heap.size ≤ W.heap.size) :
    Calls Tryz.prog 118 #[v, .string s] W (TQ W (d + 1) (partGetT d t s).1 (partGetT d t s).2 W) := (implPartGet_any d _ t v s hs W h within_P hg).mono (fun _ _ h => tq_of (Nat.le_refl _) h)
theorem setG {d : Nat} {w W : World} {t : Tr (d + 2)} {x : Tr (d + 1)} {v u : Value} {i : Int} (h : ValAt (FreshP w W) W (d + 2) t v) (hx : ValAt (FreshP w W) W (d + 1) x u) (hi : I64 i) (hg : ErrType W) :
    Calls Tryz.prog 97 #[v, .int .i64 i, u] W (TQ W (d + 2) (partSetT d t i x).1 (partSetT d t i x).2 W) := (implPartSet_any d _ t v i hi _ x u W h within_P hx within_P hg).mono (fun _ _ h => tq_of (Nat.le_refl _) h)
theorem putG {d : Nat} {w W : World} {t : Tr (d + 2)} {x : Tr (d + 1)} {v u : Value} {s : ByteArray} (h : ValAt (FreshP w W) W (d + 2) t v) (hx : ValAt (FreshP w W) W (d + 1) x u) (hs : s.size < 281474976710656) (hg : ErrType W) :
    Calls Tryz.prog 96 #[v, .string s, u] W (TQ W (d + 2) (partPutT d t s x).1 (partPutT d t s x).2 W) := (implPartPut_any d _ t v s hs _ x u W h within_P hx within_P hg).mono (fun _ _ h => tq_of (Nat.le_refl _) h)
/-- One tree, twice. -/
theorem samE {d : Nat} {w W : World} {t : Tr d} {v v' : Value} (h : ValAt (FreshP w W) W d t v) (h' : ValAt (FreshP w W) W d t v') (hs : wtT d t ≤ 10000) : Calls Tryz.prog 11 #[v, v'] W fun e w' => e = .returned (.bool true) ∧ Below W.heap.size W w' := by
  have hc := samI_at h h' hs
  rw [(ord_T d).self t] at hc
  exact hc
theorem okS_at {d : Nat} {w W : World} {t : Tr d} {v : Value} (h : ValAt (FreshP w W) W d t v) (hs : wtT d t ≤ 10000) : Calls Tryz.prog 12 #[v] W fun e w' => e = .returned (.bool (okT d t)) ∧ Below W.heap.size W w' :=
  specValOk_any d _ t v W h within_P (nodes_small hs)

theorem toList_ne {a b : ByteArray} (h : a ≠ b) : (a.toList == b.toList) = false := by
  cases hb : (a.toList == b.toList)
  · rfl
  · have e := beq_iff_eq.1 hb
    rw [ByteArray.toList_eq, ByteArray.toList_eq] at e
    refine absurd ?_ h
    cases a with
    | mk a =>
      cases b with
      | mk b =>
        have e : a.toList = b.toList := e
        cases a; cases b
        simp at e
        rw [e]
theorem yes_at (S : Nat → Prop) (w : World) (d : Nat) : ValAt S w (d + 1) (yesT d) (.agg #[.int .i64 2, .int .i64 0, .string { data := #[] }, .slice none 0 0, .slice none 0 0]) :=
  bareT_at S w d 2 0 ⟨#[]⟩ ⟨by omega, by omega⟩ ⟨by omega, by omega⟩ (by show (0 : Nat) < _; omega)
theorem zero_at (S : Nat → Prop) (w : World) (d : Nat) : ValAt S w (d + 1) (zeroT d) (.agg #[.int .i64 0, .int .i64 0, .string { data := #[] }, .slice none 0 0, .slice none 0 0]) :=
  bareT_at S w d 0 0 ⟨#[]⟩ ⟨by omega, by omega⟩ ⟨by omega, by omega⟩ (by show (0 : Nat) < _; omega)
/-- A variable that holds a tree. -/
structure VarAt (w W : World) (b : Nat) (c0 c1 : Int) (c2 : ByteArray) (c3 : Option Addr) (c4 c5 : Nat) (c6 : Option Addr) (c7 c8 : Nat) (d : Nat) (t : Tr d) : Prop where
  blk : Blk5 W b 26 (.int .i64 c0) (.int .i64 c1) (.string c2) (.slice c3 c4 c5) (.slice c6 c7 c8)
  val : ValAt (FreshP w W) W d t (.agg #[.int .i64 c0, .int .i64 c1, .string c2, .slice c3 c4 c5, .slice c6 c7 c8])
theorem VarAt.go {w W W' : World} {b : Nat} {c0 c1 : Int} {c2 : ByteArray} {c3 : Option Addr} {c4 c5 : Nat} {c6 : Option Addr} {c7 c8 : Nat} {d : Nat} {t : Tr d} (h : VarAt w W b c0 c1 c2 c3 c4 c5 c6 c7 c8 d t) (hb : Below W.heap.size W W') : VarAt w W' b c0 c1 c2 c3 c4 c5 c6 c7 c8 d t :=
  ⟨h.blk.below hb, freshP_go h.val hb⟩
theorem VarAt.new {w W : World} {c0 c1 : Int} {c2 : ByteArray} {c3 : Option Addr} {c4 c5 : Nat} {c6 : Option Addr} {c7 c8 : Nat} {d : Nat} {t : Tr d} (h : ValAt (FreshP w W) W d t (.agg #[.int .i64 c0, .int .i64 c1, .string c2, .slice c3 c4 c5, .slice c6 c7 c8])) :
    VarAt w (W.alloc (.cells #[.int .i64 c0, .int .i64 c1, .string c2, .slice c3 c4 c5, .slice c6 c7 c8] 26)) W.heap.size c0 c1 c2 c3 c4 c5 c6 c7 c8 d t :=
  ⟨Blk5.new W _ _ _ _ _ _, freshP_go h (below_alloc1 _ _)⟩
theorem VarAt.two {w W : World} {c0 c1 : Int} {c2 : ByteArray} {c3 : Option Addr} {c4 c5 : Nat} {c6 : Option Addr} {c7 c8 : Nat} {d : Nat} {t : Tr d} {q0 q1 : Int} {q2 : ByteArray} {q3 : Option Addr} {q4 q5 : Nat} {q6 : Option Addr} {q7 q8 : Nat} {d' : Nat} {t' : Tr d'}
    (h : ValAt (FreshP w W) W d t (.agg #[.int .i64 c0, .int .i64 c1, .string c2, .slice c3 c4 c5, .slice c6 c7 c8])) (h' : ValAt (FreshP w W) W d' t' (.agg #[.int .i64 q0, .int .i64 q1, .string q2, .slice q3 q4 q5, .slice q6 q7 q8])) :
    VarAt w ((W.alloc (.cells #[.int .i64 c0, .int .i64 c1, .string c2, .slice c3 c4 c5, .slice c6 c7 c8] 26)).alloc (.cells #[.int .i64 q0, .int .i64 q1, .string q2, .slice q3 q4 q5, .slice q6 q7 q8] 26)) W.heap.size c0 c1 c2 c3 c4 c5 c6 c7 c8 d t ∧
    VarAt w ((W.alloc (.cells #[.int .i64 c0, .int .i64 c1, .string c2, .slice c3 c4 c5, .slice c6 c7 c8] 26)).alloc (.cells #[.int .i64 q0, .int .i64 q1, .string q2, .slice q3 q4 q5, .slice q6 q7 q8] 26)) (W.heap.size + 1) q0 q1 q2 q3 q4 q5 q6 q7 q8 d' t' ∧
    Below W.heap.size W ((W.alloc (.cells #[.int .i64 c0, .int .i64 c1, .string c2, .slice c3 c4 c5, .slice c6 c7 c8] 26)).alloc (.cells #[.int .i64 q0, .int .i64 q1, .string q2, .slice q3 q4 q5, .slice q6 q7 q8] 26)) := by
  have h1 := below_alloc1 W (.cells #[.int .i64 c0, .int .i64 c1, .string c2, .slice c3 c4 c5, .slice c6 c7 c8] 26)
  have h2 := VarAt.new (freshP_go h' h1)
  rw [World.size_alloc] at h2
  exact ⟨(VarAt.new h).go (below_alloc1 _ _), h2, below_trans h1 (below_alloc1 _ _)⟩
/-- An answer that is written into a new variable, made ahead of the call or behind it. -/
theorem var_set {w Wc W : World} {b : Nat} {z0 z1 z2 z3 z4 : Value} {c0 c1 : Int} {c2 : ByteArray} {c3 : Option Addr} {c4 c5 : Nat} {c6 : Option Addr} {c7 c8 : Nat} {d : Nat} {t : Tr d} (hz : Blk5 W b 26 z0 z1 z2 z3 z4) (hb : b < Wc.heap.size) (hl : w.heap.size ≤ Wc.heap.size)
    (h : ValAt (FreshP Wc W) W d t (.agg #[.int .i64 c0, .int .i64 c1, .string c2, .slice c3 c4 c5, .slice c6 c7 c8])) :
    VarAt w (set5 W b 0 (.int .i64 c0) (.int .i64 c1) (.string c2) (.slice c3 c4 c5) (.slice c6 c7 c8)) b c0 c1 c2 c3 c4 c5 c6 c7 c8 d t := by
  have hs : ∀ x, x ≠ b → (set5 W b 0 (.int .i64 c0) (.int .i64 c1) (.string c2) (.slice c3 c4 c5) (.slice c6 c7 c8)).heap[x]? = W.heap[x]? := fun x hx => set5_block _ _ _ _ _ _ _ _ _ hx
  refine ⟨blk_set5 hz _ _ _ _ _, ValAt.moved (fun x hx => hs x (by have := hx.1.1; omega)) (fun x hx => ?_) d t _ h⟩
  exact ⟨⟨Nat.le_trans hl hx.1.1, by rw [set5_size]; exact hx.1.2⟩, hx.2.of_block (hs x (by have := hx.1.1; omega))⟩
theorem var_new {w Wc W : World} {c0 c1 : Int} {c2 : ByteArray} {c3 : Option Addr} {c4 c5 : Nat} {c6 : Option Addr} {c7 c8 : Nat} {d : Nat} {t : Tr d} (hl : w.heap.size ≤ Wc.heap.size) (h : ValAt (FreshP Wc W) W d t (.agg #[.int .i64 c0, .int .i64 c1, .string c2, .slice c3 c4 c5, .slice c6 c7 c8])) :
    VarAt w (W.alloc (.cells #[.int .i64 c0, .int .i64 c1, .string c2, .slice c3 c4 c5, .slice c6 c7 c8] 26)) W.heap.size c0 c1 c2 c3 c4 c5 c6 c7 c8 d t := VarAt.new (freshP_wide h hl)
/-- What has come since a world: nothing that was there has turned. -/
structure Since (W0 W : World) : Prop where
  bel : Below W0.heap.size W0 W
theorem Since.go {W0 W W' : World} (h : Since W0 W) (hb : Below W.heap.size W W') : Since W0 W' := ⟨below_trans h.bel hb⟩
theorem Since.start (W : World) : Since W W := ⟨Below.refl _ _⟩
/-- A row of trees that came of a call. -/
structure RowsAt (w W : World) (a : Option Addr) (c d : Nat) (xs : List (Tr d)) : Prop where
  row : RowAt (FreshP w W) W (ValAt (FreshP w W) W d) (.slice a xs.length c) xs
theorem RowsAt.go {w W W' : World} {a : Option Addr} {c d : Nat} {xs : List (Tr d)} (h : RowsAt w W a c d xs) (hb : Below W.heap.size W W') : RowsAt w W' a c d xs := by
  have hs : Same (FreshP w W) W W' := fun b hb' => hb.block b hb'.1.2
  exact ⟨h.row.moved hs (fun b hb' => ⟨⟨hb'.1.1, Nat.lt_of_lt_of_le hb'.1.2 hb.size⟩, hb'.2.of_block (hs b hb')⟩) (fun x u hx => freshP_go hx hb)⟩
/-- The tree at a place of a row, with its cells. -/
theorem row_elem {w W : World} {a : Option Addr} {n c d k : Nat} {xs : List (Tr d)} (h : RowAt (FreshP w W) W (ValAt (FreshP w W) W d) (.slice a n c) xs) (hk : k < xs.length) :
    ∃ (b o : Nat) (x : Tr d) (c0 c1 : Int) (c2 : ByteArray) (c3 : Option Addr) (c4 c5 : Nat) (c6 : Option Addr) (c7 c8 : Nat), a = some ⟨b, o, none⟩ ∧ b < W.heap.size ∧ xs[k]? = some x ∧
      W.cell? ⟨b, o + k * 5, none⟩ = some (.int .i64 c0) ∧ W.cell? ⟨b, o + k * 5 + 1, none⟩ = some (.int .i64 c1) ∧ W.cell? ⟨b, o + k * 5 + 2, none⟩ = some (.string c2) ∧ W.cell? ⟨b, o + k * 5 + 3, none⟩ = some (.slice c3 c4 c5) ∧ W.cell? ⟨b, o + k * 5 + 4, none⟩ = some (.slice c6 c7 c8) ∧
      ValAt (FreshP w W) W d x (.agg #[.int .i64 c0, .int .i64 c1, .string c2, .slice c3 c4 c5, .slice c6 c7 c8]) := by
  obtain ⟨b, o, x, c0, c1, c2, c3, c4, ha, hS, hx, e0, e1, e2, e3, e4, hv⟩ := h.cell hk
  obtain ⟨p0, p1, p2, p3, p4, p5, p6, p7, p8, hp⟩ := hv.shape
  cases hp
  exact ⟨b, o, x, _, _, _, _, _, _, _, _, _, ha, hS.1.2, hx, e0, e1, e2, e3, e4, hv⟩
/-- The key at a place, with its cell. -/
theorem key_elem {w W : World} {a : Option Addr} {n c k : Nat} {ks : List ByteArray} (h : StrsAt (FreshP w W) W (.slice a n c) ks) (hk : k < ks.length) :
    ∃ (b o : Nat) (s : ByteArray), a = some ⟨b, o, none⟩ ∧ b < W.heap.size ∧ ks[k]? = some s ∧ s.size < 281474976710656 ∧ W.cell? ⟨b, o + k, none⟩ = some (.string s) := by
  obtain ⟨b, o, s, ha, hS, hx, hz, hc⟩ := h.cell hk
  exact ⟨b, o, s, ha, hS.1.2, hx, hz, hc⟩
theorem val_parts {w W : World} {d : Nat} {t : Tr (d + 1)} {c0 c1 : Int} {c2 : ByteArray} {c3 : Option Addr} {c4 c5 : Nat} {c6 : Option Addr} {c7 c8 : Nat} (h : ValAt (FreshP w W) W (d + 1) t (.agg #[.int .i64 c0, .int .i64 c1, .string c2, .slice c3 c4 c5, .slice c6 c7 c8])) :
    c0 = Nd.kind t ∧ c1 = Nd.num t ∧ c2 = Nd.str t ∧ c4 = (Nd.keys t).length ∧ c7 = (Nd.list t).length ∧ StrsAt (FreshP w W) W (.slice c3 c4 c5) (Nd.keys t) ∧ RowAt (FreshP w W) W (ValAt (FreshP w W) W d) (.slice c6 c7 c8) (Nd.list t) := by
  obtain ⟨h0, h1, h2, _, _, _, hk, hl⟩ := parts_of h
  obtain ⟨_, _, e1, _⟩ := hk.open'
  obtain ⟨_, _, e2, _⟩ := hl.open'
  cases h0
  cases h1
  cases h2
  cases e1
  cases e2
  exact ⟨rfl, rfl, rfl, rfl, rfl, hk, hl⟩
/-- What stands all along. -/
structure Amid (w W : World) : Prop where
  bel : Below w.heap.size w W
  err : ErrType W
theorem Amid.go {w W W' : World} (h : Amid w W) (hb : Below W.heap.size W W') : Amid w W' := ⟨below_trans h.bel hb, h.err.below hb⟩
theorem Amid.le {w W : World} (h : Amid w W) : w.heap.size ≤ W.heap.size := h.bel.size
end Go.Proofs.YtoangpfmjohhmaaGreatDoor
