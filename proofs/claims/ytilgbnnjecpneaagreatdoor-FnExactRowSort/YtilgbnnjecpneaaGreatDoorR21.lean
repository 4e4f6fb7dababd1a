/- Texts of the proof, put together by program: WMrgC, WRd, WDrawA. -/
import Derived.Test.YtilgbnnjecpneaaGreatDoorR20
import Derived.Test.YtilgbnnjecpneaaGreatDoorR6
import Derived.Laws.Bits64
import Derived.Laws.Closers25
import Derived.Deep.QuietTactic
import Derived.Test.YtilgbnnjecpneaaGreatDoorR7
import Derived.Test.YtilgbnnjecpneaaGreatDoorR15
/- slices.Concat at three rows of the program's trees, one behind the other. -/
namespace Go.Proofs.YtilgbnnjecpneaaGreatDoor
open Go.RowKit Go.Deep

/-- The first m of three rows, one behind the other. -/
def threeL {α : Type} (xs ys zs : List α) (m : Nat) : List α := if m = 0 then [] else if m = 1 then xs else if m = 2 then xs ++ ys else xs ++ (ys ++ zs)
set_option maxRecDepth 100000 in
set_option maxHeartbeats 4000000 in
theorem concat3_any (d : Nat) (S : Nat → Prop) (xs ys zs : List (Tr d)) (aa ba da : Option Addr) (ca cb cd g : Nat) (w : World) (hx : Row1At S w (TreeG S w d) (.slice aa xs.length ca) xs) (hy : Row1At S w (TreeG S w d) (.slice ba ys.length cb) ys) (hz : Row1At S w (TreeG S w d) (.slice da zs.length cd) zs) (hS : Within S w)
    (c0 : w.cell? ⟨g, 0, none⟩ = some (.slice aa xs.length ca)) (c1 : w.cell? ⟨g, 1, none⟩ = some (.slice ba ys.length cb)) (c2 : w.cell? ⟨g, 2, none⟩ = some (.slice da zs.length cd)) (hg : g < w.heap.size) (hlx : xs.length ≤ 1000) (hly : ys.length ≤ 1000) (hlz : zs.length ≤ 1000) :
    Calls Tryz.prog 82 #[.slice (some ⟨g, 0, none⟩) 3 3] w fun e w' => ∃ sv vs, e = .returned sv ∧ GF S w.heap.size w' sv (xs ++ (ys ++ zs)) vs ∧ Below w.heap.size w w' := by
  have n1 : ¬ ((xs.length : Int) < 0) := by omega
  have n2 : ¬ ((xs.length : Int) + (ys.length : Int) < 0) := by omega
  have n3 : ¬ ((xs.length : Int) + (ys.length : Int) + (zs.length : Int) < 0) := by omega
  have w3 : wrap64 ((xs.length : Int) + (ys.length : Int) + (zs.length : Int)) = (xs.length : Int) + (ys.length : Int) + (zs.length : Int) := by unfold wrap64; omega
  have w1 : wrap64 (xs.length : Int) = (xs.length : Int) := by unfold wrap64; omega
  have w2 : wrap64 ((xs.length : Int) + (ys.length : Int)) = (xs.length : Int) + (ys.length : Int) := by unfold wrap64; omega
  go_enter Tryz.func82, Tryz.ntmps82
  go_wp2_with fail
  go_loop [3, 11] (fun s i => (i = .int .i64 0 ∧ s = .int .i64 0) ∨ (i = .int .i64 1 ∧ s = .int .i64 (xs.length : Int)) ∨ (i = .int .i64 2 ∧ s = .int .i64 ((xs.length : Int) + (ys.length : Int))) ∨ (i = .int .i64 3 ∧ s = .int .i64 ((xs.length : Int) + (ys.length : Int) + (zs.length : Int)))) (fun _ i => 3 - (intOf i).toNat)
  case atStart => exact Or.inl ⟨rfl, rfl⟩
  case round =>
    rcases hrel with ⟨rfl, rfl⟩ | ⟨rfl, rfl⟩ | ⟨rfl, rfl⟩ | ⟨rfl, rfl⟩
    · go_wp2_with fail
      go_round
      case rel => exact Or.inr (Or.inl ⟨rfl, by simp⟩)
      case measure => simp [intOf]
    · go_wp2_with fail
      go_round
      case rel => exact Or.inr (Or.inr (Or.inl ⟨rfl, rfl⟩))
      case measure => simp [intOf]
    · go_wp2_with fail
      go_round
      case rel => exact Or.inr (Or.inr (Or.inr ⟨rfl, rfl⟩))
      case measure => simp [intOf]
    · go_upto_region 9 with fail
      go_wp2_with fail
      have hgr := hide (grow_nil d (xs.length + ys.length + zs.length) (by omega) S w)
      rw [show ((xs.length + ys.length + zs.length : Nat) : Int) = (xs.length : Int) + (ys.length : Int) + (zs.length : Int) by omega] at hgr
      refine Calls.mono hgr.out ?_
      rintro e w3 ⟨a0, cap0, rfl, hgf, hb3⟩
      have HX := hide hx
      have HY := hide hy
      have HZ := hide hz
      have HSX := hide hS
      have hst : Hid (GF S w.heap.size w3 (.slice a0 0 cap0) (threeL xs ys zs 0) []) := hgf
      have hB3 := hide hb3
      have hc0 := hb3.cell (p := ⟨g, 0, none⟩) hg
      have hc1 := hb3.cell (p := ⟨g, 1, none⟩) hg
      have hc2 := hb3.cell (p := ⟨g, 2, none⟩) hg
      clear hgf hb3 hgr hx hy hz hS
      go_wp2_with fail
      go_loopw [6, 27] (fun sv i wr => ∃ (m n : Nat) (a : Option Addr) (c : Nat) (vs : List Value), m ≤ 3 ∧ i = .int .i64 (m : Int) ∧ sv = .slice a n c ∧ Hid (GF S w.heap.size wr (.slice a n c) (threeL xs ys zs m) vs) ∧ Hid (Below w.heap.size w wr)) (fun _ i _ => 3 - (intOf i).toNat)
      case atStart => exact ⟨0, 0, _, _, [], by omega, rfl, rfl, hst, hB3⟩
      case round =>
        clear hst hB3 hc0 hc1 hc2
        obtain ⟨m, n, a, c, vs, hm, rfl, rfl, hgf, hbr⟩ := hrel
        have e0 := (hbr.out.cell (p := ⟨g, 0, none⟩) hg).trans c0
        have e1 := (hbr.out.cell (p := ⟨g, 1, none⟩) hg).trans c1
        have e2 := (hbr.out.cell (p := ⟨g, 2, none⟩) hg).trans c2
        have hsz := hbr.out.size
        have hmv := HSX.out.same hbr.out
        have hstep : ∀ (qs : List (Tr d)) (za : Option Addr) (zc : Nat), qs.length ≤ 1000 → (threeL xs ys zs m).length ≤ 2000 → threeL xs ys zs m ++ qs = threeL xs ys zs (m + 1) → Row1At S w (TreeG S w d) (.slice za qs.length zc) qs → Hid (∀ ty, ∃ v' w', (Builtin.append_ #[74, 74] ty #[.slice a n c, .slice za qs.length zc]).run Tryz.prog wr = .ok v' w' ∧ Hid (∃ n' a' c' vs', v' = .slice a' n' c' ∧ GF S w.heap.size w' (.slice a' n' c') (threeL xs ys zs (m + 1)) vs' ∧ Below w.heap.size w w')) := by
          intro qs za zc hzl hml heq hrow ty
          have hrow2 := hrow.moved (At' := TreeG S wr d) hmv (fun _ h => h) (fun x u hx => TreeG.moved hmv (fun _ h => h) d x u hx)
          obtain ⟨v', w', hr, ⟨vs', hv'⟩, hgr, a', c', e⟩ := run_append_onto_trees hgf.out (fun b hb => HSX.out b hb) hsz qs za zc qs.length ty rfl hrow2 (by omega)
          subst e
          have hrow := fun g' hg' => (hgf.out.1.lt g' hg').1
          refine ⟨_, w', hr, _, a', c', vs', rfl, by rw [← heq]; exact hv', ?_⟩
          exact ⟨hgr.os.trans hbr.out.os, hgr.tape.trans hbr.out.tape, hgr.output.trans hbr.out.output, Nat.le_trans hbr.out.size hgr.size, fun b hb => (hgr.block b (by omega) (fun e => by have := hrow b e.symm; omega)).trans (hbr.out.block b hb)⟩
        rcases (by omega : m = 0 ∨ m = 1 ∨ m = 2 ∨ m = 3) with rfl | rfl | rfl | rfl
        · have hs := hstep xs aa ca hlx (by simp [threeL]) (by simp [threeL]) HX.out
          have HB := hide hbr.out
          clear hstep hgf hbr hmv hsz
          go_wp2_with (at_builtin; refine wpList_append_run (fun v' w' => Hid (∃ n' a' c' vs', v' = .slice a' n' c' ∧ GF S w.heap.size w' (.slice a' n' c') (threeL xs ys zs (0 + 1)) vs' ∧ Below w.heap.size w w')) rfl _ _ 74 rfl (.slice a n c) (.slice aa xs.length ca) rfl rfl (hs.out 74) ?_)
          rintro v' w2' hph
          obtain ⟨n', a', c', rfl, ⟨vs', hv'⟩, hb'⟩ := hph.out
          have HV := hide hv'
          have HB' := hide hb'
          clear hph hs hv' hb' HB
          go_wp2_with fail
          go_roundw
          case rel => exact ⟨1, n', a', c', vs', by omega, by go_num, rfl, HV, HB'⟩
          case measure => simp [intOf]
        · have hs := hstep ys ba cb hly (by simp [threeL]; omega) (by simp [threeL]) HY.out
          have HB := hide hbr.out
          clear hstep hgf hbr hmv hsz
          go_wp2_with (at_builtin; refine wpList_append_run (fun v' w' => Hid (∃ n' a' c' vs', v' = .slice a' n' c' ∧ GF S w.heap.size w' (.slice a' n' c') (threeL xs ys zs (1 + 1)) vs' ∧ Below w.heap.size w w')) rfl _ _ 74 rfl (.slice a n c) (.slice ba ys.length cb) rfl rfl (hs.out 74) ?_)
          rintro v' w2' hph
          obtain ⟨n', a', c', rfl, ⟨vs', hv'⟩, hb'⟩ := hph.out
          have HV := hide hv'
          have HB' := hide hb'
          clear hph hs hv' hb' HB
          go_wp2_with fail
          go_roundw
          case rel => exact ⟨2, n', a', c', vs', by omega, by go_num, rfl, HV, HB'⟩
          case measure => simp [intOf]
        · have hs := hstep zs da cd hlz (by simp [threeL]; omega) (by simp [threeL]) HZ.out
          have HB := hide hbr.out
          clear hstep hgf hbr hmv hsz
          go_wp2_with (at_builtin; refine wpList_append_run (fun v' w' => Hid (∃ n' a' c' vs', v' = .slice a' n' c' ∧ GF S w.heap.size w' (.slice a' n' c') (threeL xs ys zs (2 + 1)) vs' ∧ Below w.heap.size w w')) rfl _ _ 74 rfl (.slice a n c) (.slice da zs.length cd) rfl rfl (hs.out 74) ?_)
          rintro v' w2' hph
          obtain ⟨n', a', c', rfl, ⟨vs', hv'⟩, hb'⟩ := hph.out
          have HV := hide hv'
          have HB' := hide hb'
          clear hph hs hv' hb' HB
          go_wp2_with fail
          go_roundw
          case rel => exact ⟨3, n', a', c', vs', by omega, by go_num, rfl, HV, HB'⟩
          case measure => simp [intOf]
        · have HV : Hid (GF S w.heap.size wr (.slice a n c) (xs ++ (ys ++ zs)) vs) := hgf.out
          have HB := hide hbr.out
          clear hstep hgf hbr hmv hsz
          go_wp2_with fail
          go_ret
          exact ⟨_, _, rfl, HV.out, HB.out⟩
end Go.Proofs.YtilgbnnjecpneaaGreatDoor

/- The reader of drawn bytes: pick. -/
namespace Go.Proofs.YtilgbnnjecpneaaGreatDoor
open Go.RowKit Go.Deep

theorem xor_nonneg (a b : Int) (ha : 0 ≤ a) (hb : 0 ≤ b) (ha' : a < 9223372036854775808) (hb' : b < 9223372036854775808) : 0 ≤ bits .xor .i64 a b := by
  obtain ⟨A, rfl⟩ := Int.eq_ofNat_of_zero_le ha
  obtain ⟨B, rfl⟩ := Int.eq_ofNat_of_zero_le hb
  have hx : A ^^^ B < 2 ^ 63 := Nat.xor_lt_two_pow (by omega) (by omega)
  have h1 : (BitVec.ofInt 64 (A : Int)).toNat = A := by
    rw [BitVec.ofInt_natCast, BitVec.toNat_ofNat]; exact Nat.mod_eq_of_lt (by omega)
  have h2 : (BitVec.ofInt 64 (B : Int)).toNat = B := by
    rw [BitVec.ofInt_natCast, BitVec.toNat_ofNat]; exact Nat.mod_eq_of_lt (by omega)
  show 0 ≤ IntKind.i64.wrap ((BitVec.ofInt 64 (A : Int) ^^^ BitVec.ofInt 64 (B : Int)).toNat : Int)
  rw [BitVec.toNat_xor, h1, h2, IntKind.wrap_i64]
  omega

theorem But.draws {rb : Nat} {w w' : World} (h : But rb w w') {n : Nat} : But rb w (w'.drewN n) := ⟨h.os, h.tape, h.output, h.size, h.block⟩

/-- Bytes that lie in a block below r. -/
def BytesAt (r : Nat) (w : World) (a : Option Addr) (n : Nat) : Prop :=
  n = 0 ∨ ∃ b o, b < r ∧ a = some ⟨b, o, none⟩ ∧ ∀ i, i < n → ∃ x : Int, 0 ≤ x ∧ x < 256 ∧ w.cell? ⟨b, o + i, none⟩ = some (.int .u8 x)

/-- The reader at block r, its place p. -/
def Rd (w : World) (r p : Nat) : Prop :=
  ∃ a n cap, w.heap[r]? = some (.cells #[.slice a n cap, .int .i64 p] 89 (0, 0)) ∧ n ≤ 2000 ∧ BytesAt r w a n

theorem Rd.lt {w : World} {r p : Nat} (h : Rd w r p) : r < w.heap.size := by
  obtain ⟨a, n, cap, h, _⟩ := h
  exact (Array.getElem?_eq_some_iff.1 h).1
theorem BytesAt.moved {r : Nat} {w w' : World} {a : Option Addr} {n : Nat} (h : BytesAt r w a n) (hs : ∀ b, b < r → w'.heap[b]? = w.heap[b]?) : BytesAt r w' a n := by
  rcases h with h | ⟨b, o, hb, ha, hc⟩
  · exact Or.inl h
  · refine Or.inr ⟨b, o, hb, ha, fun i hi => ?_⟩
    obtain ⟨x, h0, h1, h2⟩ := hc i hi
    exact ⟨x, h0, h1, (World.cell?_of_block (w := w) (hs b hb)).trans h2⟩
/-- The reader is as it was, where no block up to it has turned. -/
theorem Rd.below {w w' : World} {r p : Nat} (h : Rd w r p) (hb : Below w.heap.size w w') : Rd w' r p := by
  have hl := h.lt
  obtain ⟨a, n, cap, h, hn, hB⟩ := h
  exact ⟨a, n, cap, (hb.block r hl).trans h, hn, hB.moved (fun b hbr => hb.block b (by omega))⟩

set_option maxRecDepth 100000 in
set_option maxHeartbeats 400000 in
theorem pick_any (r p : Nat) (n : Int) (w : World) (h : Rd w r p) (hp : p < 1000000) (h1 : 1 ≤ n) (h2 : n ≤ 1000) :
    Calls Tryz.prog 69 #[.pointer (some ⟨r, 0, none⟩), .int .i64 n] w fun e w' =>
      ∃ k : Int, e = .returned (.int .i64 k) ∧ 0 ≤ k ∧ k < n ∧ Rd w' r (p + 1) ∧ But r w w' ∧ w'.heap.size = w.heap.size := by
  have hl := h.lt
  obtain ⟨a, m, cap, hr, hm, hB⟩ := h
  have c0 : w.cell? ⟨r, 0, none⟩ = some (.slice a m cap) := by simp [World.cell?, hr]
  have c1 : w.cell? ⟨r, 1, none⟩ = some (.int .i64 p) := by simp [World.cell?, hr]
  have f1 : w.frozen? ⟨r, 1, none⟩ = false := by simp [World.frozen?, hr]
  obtain ⟨W, HW⟩ : ∃ W, Hid (W = w.setCell ⟨r, 1, none⟩ (.int .i64 (p + 1))) := ⟨_, rfl⟩
  have g0 : W.cell? ⟨r, 0, none⟩ = some (.slice a m cap) := by
    rw [HW.out]; simp [World.cell?, World.setCell, Array.getElem?_modify, hr]
  have g1 : W.cell? ⟨r, 1, none⟩ = some (.int .i64 (p + 1)) := by
    rw [HW.out]; simp [World.cell?, World.setCell, Array.getElem?_modify, hr]
  have HB : Hid (Rd W r (p + 1) ∧ But r w W ∧ W.heap.size = w.heap.size) := by
    refine ⟨⟨a, m, cap, ?_, hm, hB.moved (fun b hb => ?_)⟩, ?_, ?_⟩
    · rw [HW.out]; simp [World.setCell, Array.getElem?_modify, hr]
    · rw [HW.out]; exact Below.heap_setCell _ _ _ _ (by simp; omega)
    · rw [HW.out]; exact But.set r w 1 _
    · rw [HW.out]; simp [World.setCell]
  have hn1 : ¬ n < 1 := by omega
  by_cases hm0 : m = 0
  · subst hm0
    go_enter Tryz.func69, Tryz.ntmps69
    go_wp2_with fail
    go_ret
    rw [← HW.out]
    exact ⟨0, rfl, by omega, by omega, HB.out⟩
  · have hm1 : ((m : Int) == 0) = false := by simpa using hm0
    rcases hB with hB | ⟨b, o, hb, rfl, hc⟩
    · exact absurd hB hm0
    by_cases hpm : p < m
    · obtain ⟨x, y0, y1, y2⟩ := hc p hpm
      go_enter Tryz.func69, Tryz.ntmps69
      go_wp2_with fail
      go_ret
      rw [← HW.out]
      exact ⟨x % n, rfl, Int.emod_nonneg _ (by omega), Int.emod_lt_of_pos _ (by omega), HB.out⟩
    · obtain ⟨x, y0, y1, y2⟩ := hc (p % m) (Nat.mod_lt _ (by omega))
      obtain ⟨z, z0, z1, z2⟩ := hc ((p * 7 + 3) % m) (Nat.mod_lt _ (by omega))
      have q0 : 0 ≤ (p : Int) % (m : Int) := Int.emod_nonneg _ (by omega)
      have q1 : (p : Int) % (m : Int) < (m : Int) := Int.emod_lt_of_pos _ (by omega)
      have q2 : 0 ≤ ((p : Int) * 7 + 3) % (m : Int) := Int.emod_nonneg _ (by omega)
      have q3 : ((p : Int) * 7 + 3) % (m : Int) < (m : Int) := Int.emod_lt_of_pos _ (by omega)
      have q4 : 0 ≤ (p : Int) / (m : Int) := Int.ediv_nonneg (by omega) (by omega)
      have q5 : (p : Int) / (m : Int) ≤ (p : Int) := Int.ediv_le_self _ (by omega)
      clear hc
      go_enter Tryz.func69, Tryz.ntmps69
      go_wp2_with fail
      go_quiet (fail)
      go_wp2_with fail
      go_ret
      rw [← HW.out]
      have hx := xor_nonneg (x * 131 + z * 1117 + (p : Int) * 29 + (p : Int) / (m : Int) * 53) ((x * 131 + z * 1117 + (p : Int) * 29 + (p : Int) / (m : Int) * 53) / 64) (by omega) (by omega) (by omega) (by omega)
      exact ⟨_, rfl, Int.tmod_nonneg n hx, Int.tmod_lt_of_pos _ (by omega), HB.out.1, HB.out.2.1.draws, HB.out.2.2⟩

/-- Numbers in a list that lies in a block. -/
def IntsAt (w : World) (v : Value) (ns : List Int) : Prop := ∃ b o cap, v = .slice (some ⟨b, o, none⟩) ns.length cap ∧ b < w.heap.size ∧ ∀ i n, ns[i]? = some n → w.cell? ⟨b, o + i, none⟩ = some (.int .i64 n)
/-- Texts in a list that lies in a block. -/
def TextsAt (w : World) (v : Value) (ss : List ByteArray) : Prop := ∃ b o cap, v = .slice (some ⟨b, o, none⟩) ss.length cap ∧ b < w.heap.size ∧ ∀ i s, ss[i]? = some s → w.cell? ⟨b, o + i, none⟩ = some (.string s)

theorem But.cell_of {r : Nat} {w w' : World} (h : But r w w') {b o : Nat} {v : Value} (hb : b < w.heap.size) (hn : b ≠ r) (hc : w.cell? ⟨b, o, none⟩ = some v) : w'.cell? ⟨b, o, none⟩ = some v := (h.cell hb hn).trans hc

set_option maxRecDepth 100000 in
set_option maxHeartbeats 400000 in
theorem of_any (r p : Nat) (b o cap : Nat) (ss : List ByteArray) (w : World) (h : Rd w r p) (hp : p < 1000000) (hb : b < w.heap.size) (hbr : b ≠ r) (hc : ∀ i s, ss[i]? = some s → w.cell? ⟨b, o + i, none⟩ = some (.string s))
    (h1 : 1 ≤ ss.length) (h2 : ss.length ≤ 1000) :
    Calls Tryz.prog 86 #[.pointer (some ⟨r, 0, none⟩), .slice (some ⟨b, o, none⟩) ss.length cap] w fun e w' =>
      ∃ s, e = .returned (.string s) ∧ s ∈ ss ∧ Rd w' r (p + 1) ∧ But r w w' ∧ w'.heap.size = w.heap.size := by
  go_enter Tryz.func86, Tryz.ntmps86
  go_wp2_with fail
  refine (pick_any r p ss.length w h hp (by omega) (by omega)).mono ?_
  rintro e w1 ⟨k, rfl, k0, k1, hr1, hb1, hz1⟩
  obtain ⟨k, rfl⟩ := Int.eq_ofNat_of_zero_le k0
  have hk : k < ss.length := by omega
  have hcell := hb1.cell_of hb hbr (hc k ss[k] (List.getElem?_eq_getElem hk))
  have HM := And.intro (List.getElem_mem hk) (And.intro hr1 (And.intro hb1 hz1))
  have HH : Hid _ := HM
  clear HM hr1 hb1 hz1 hc h hb
  generalize ss[k] = x at hcell HH
  go_wp2_with fail
  go_ret
  exact ⟨x, rfl, HH.out⟩

set_option maxRecDepth 100000 in
set_option maxHeartbeats 400000 in
theorem num_any (r p : Nat) (b o cap : Nat) (ns : List Int) (w : World) (h : Rd w r p) (hp : p < 1000000) (hb : b < w.heap.size) (hbr : b ≠ r) (hc : ∀ i n, ns[i]? = some n → w.cell? ⟨b, o + i, none⟩ = some (.int .i64 n))
    (h1 : 1 ≤ ns.length) (h2 : ns.length ≤ 1000) :
    Calls Tryz.prog 85 #[.pointer (some ⟨r, 0, none⟩), .slice (some ⟨b, o, none⟩) ns.length cap] w fun e w' =>
      ∃ n, e = .returned (.int .i64 n) ∧ n ∈ ns ∧ Rd w' r (p + 1) ∧ But r w w' ∧ w'.heap.size = w.heap.size := by
  go_enter Tryz.func85, Tryz.ntmps85
  go_wp2_with fail
  refine (pick_any r p ns.length w h hp (by omega) (by omega)).mono ?_
  rintro e w1 ⟨k, rfl, k0, k1, hr1, hb1, hz1⟩
  obtain ⟨k, rfl⟩ := Int.eq_ofNat_of_zero_le k0
  have hk : k < ns.length := by omega
  have hcell := hb1.cell_of hb hbr (hc k ns[k] (List.getElem?_eq_getElem hk))
  have HM := And.intro (List.getElem_mem hk) (And.intro hr1 (And.intro hb1 hz1))
  have HH : Hid _ := HM
  clear HM hr1 hb1 hz1 hc h hb
  generalize ns[k] = x at hcell HH
  go_wp2_with fail
  go_ret
  exact ⟨x, rfl, HH.out⟩

set_option maxRecDepth 100000 in
set_option maxHeartbeats 400000 in
theorem l11Open_any (a : Option Addr) (n cap : Nat) (w : World) (hcap : n ≤ cap) (h : BytesAt w.heap.size w a n) :
    Calls Tryz.prog 50 #[.slice a n cap] w fun e w' => e = .returned (.pointer (some ⟨w.heap.size, 0, none⟩)) ∧ Rd w' w.heap.size 0 ∧ Below w.heap.size w w' ∧ w'.heap.size = w.heap.size + 1 := by
  have hm : ∀ m : Nat, m ≤ n → m ≤ 2000 → ∀ c, Rd (w.alloc (.cells #[.slice a m c, .int .i64 0] 89)) w.heap.size 0 := by
    intro m hmn hm c
    refine ⟨a, m, c, heap_alloc_new w _, hm, ?_⟩
    rcases h with h | ⟨b, o, hb, ha, hc⟩
    · exact Or.inl (by omega)
    · exact BytesAt.moved (Or.inr ⟨b, o, hb, ha, fun i hi => hc i (by omega)⟩) (fun b hb => Below.heap_alloc _ _ _ hb)
  have HM : Hid _ := hm
  clear hm
  clear h
  by_cases hn : 2000 < n
  · have hc2 : (2000 : Int) ≤ cap := by omega
    go_enter Tryz.func50, Tryz.ntmps50
    go_wp2_with fail
    go_ret
    exact ⟨rfl, HM.out 2000 (by omega) (by omega) _, below_alloc1 _ _, by simp⟩
  · go_enter Tryz.func50, Tryz.ntmps50
    go_wp2_with fail
    go_ret
    exact ⟨rfl, HM.out n (Nat.le_refl _) (by omega) _, below_alloc1 _ _, by simp⟩
end Go.Proofs.YtilgbnnjecpneaaGreatDoor

/- Drawn trees: leaves. -/
namespace Go.Proofs.YtilgbnnjecpneaaGreatDoor
open Go.RowKit Go.Deep

/-- A tree whose keys may be written behind their end: the parts lie elsewhere. -/
def KeyTop (N : Nat) (S : Nat → Prop) (w : World) : (d : Nat) → Tr d → Value → Prop
  | 0, _, _ => False
  | d + 1, t, u => ∃ kv lv, u = .agg #[.int .i64 (Nd.kind t), .int .i64 (Nd.num t), .string (Nd.str t), kv, lv] ∧ I64 (Nd.kind t) ∧ I64 (Nd.num t) ∧ (Nd.str t).size < 281474976710656 ∧ (∀ s ∈ Nd.keys t, s.size < 281474976710656) ∧ (Nd.keys t).length < 1000 ∧
      w.ownsRow N 9 1 kv (Nd.keys t).length ((Nd.keys t).map Value.string) ∧ (∀ b, kv.ownBlock = some b → S b) ∧ RowAt (fun b => S b ∧ kv.ownBlock ≠ some b) w (ValAt (fun b => S b ∧ kv.ownBlock ≠ some b) w d) lv (Nd.list t)
theorem owns_moved {w w' : World} {N N' : Nat} {e : TypeId} {size n : Nat} {v : Value} {xs : List Value} (h : w.ownsRow N e size v n xs) (ho : ∀ g, v.ownBlock = some g → w'.heap[g]? = w.heap[g]?) (hN : N' ≤ N) : w'.ownsRow N' e size v n xs := by
  refine ⟨h.1, ?_⟩
  rcases h.2 with h | ⟨g, cap, cur, hv, hg, hh, hrest⟩
  · exact Or.inl h
  · exact Or.inr ⟨g, cap, cur, hv, Nat.le_trans hN hg, (ho g (by rw [hv]; rfl)).trans hh, hrest⟩
theorem KeyTop.moved {N N' : Nat} {S S' : Nat → Prop} {w w' : World} {d : Nat} {t : Tr d} {u : Value} (h : KeyTop N S w d t u) (hs : Same S w w') (hS : ∀ b, S b → S' b) (hN : N' ≤ N) : KeyTop N' S' w' d t u := by
  cases d with
  | zero => exact h.elim
  | succ d =>
    obtain ⟨kv, lv, hu, i1, i2, i3, hk, hkl, ho, hob, hl⟩ := h
    exact ⟨kv, lv, hu, i1, i2, i3, hk, hkl, owns_moved ho (fun g hg => hs g (hob g hg)) hN, fun b hb => hS b (hob b hb), hl.moved (fun b hb => hs b hb.1) (fun b hb => ⟨hS b hb.1, hb.2⟩) (fun x u hx => ValAt.moved (fun b hb => hs b hb.1) (fun b hb => ⟨hS b hb.1, hb.2⟩) d x u hx)⟩
theorem strs_of_owns {N : Nat} {S : Nat → Prop} {w : World} {kv : Value} {ks : List ByteArray} (h : w.ownsRow N 9 1 kv ks.length (ks.map Value.string)) (hk : ∀ s ∈ ks, s.size < 281474976710656) (hkl : ks.length < 1000) (hob : ∀ b, kv.ownBlock = some b → S b) : StrsAt S w kv ks := by
  refine ⟨by omega, hk, ?_⟩
  rcases h.2 with ⟨e, h0⟩ | ⟨g, cap, cur, e, hg, hh, _⟩
  · exact ⟨none, 0, by rw [e, h0], Or.inl (List.eq_nil_of_length_eq_zero h0)⟩
  · refine ⟨some ⟨g, 0, none⟩, cap, e, Or.inr ⟨g, 0, hob g (by rw [e]; rfl), rfl, fun i s hs => ?_⟩⟩
    have hi := (List.getElem?_eq_some_iff.1 hs).1
    rw [e] at h
    rw [Nat.zero_add]
    exact (h.cellAt i (by omega)).trans (by rw [List.getElem?_map, hs]; rfl)
theorem KeyTop.at {N : Nat} {S : Nat → Prop} {w : World} {d : Nat} {t : Tr d} {u : Value} (h : KeyTop N S w d t u) : ValAt S w d t u := by
  cases d with
  | zero => exact h.elim
  | succ d =>
    obtain ⟨kv, lv, hu, i1, i2, i3, hk, hkl, ho, hob, hl⟩ := h
    exact ⟨kv, lv, hu, i1, i2, i3, strs_of_owns ho hk hkl hob, hl.moved (Same.refl _ _) (fun b hb => hb.1) (fun x u hx => ValAt.moved (Same.refl _ _) (fun b hb => hb.1) d x u hx)⟩

/-- What a drawing function tells: a tree in new memory, not too great; the reader has gone on by at most c places. -/
def Drawn (r p c : Nat) (d B : Nat) (w : World) (e : Ending) (w' : World) : Prop :=
  ∃ u t p', e = .returned u ∧ KeyTop w.heap.size (FreshP w w') w' d t u ∧ wtT d t ≤ B ∧ Rd w' r p' ∧ p' ≤ p + c ∧ But r w w'

/-- A tree without parts. -/
def bareT (d : Nat) (k n : Int) (s : ByteArray) : Tr (d + 1) := { kind := k, num := n, str := s, keys := [], list := [] }
theorem bareT_at (S : Nat → Prop) (w : World) (d : Nat) (k n : Int) (s : ByteArray) (hk : I64 k) (hn : I64 n) (hs : s.size < 281474976710656) :
    ValAt S w (d + 1) (bareT d k n s) (.agg #[.int .i64 k, .int .i64 n, .string s, .slice none 0 0, .slice none 0 0]) :=
  ⟨_, _, rfl, hk, hn, hs, ⟨by show (0 : Nat) < _; omega, (fun s hs => by cases hs), none, 0, rfl, Or.inl rfl⟩, ⟨by show (0 : Nat) < _; omega, none, 0, rfl, Or.inl rfl⟩⟩
theorem bareT_key (N : Nat) (S : Nat → Prop) (w : World) (d : Nat) (k n : Int) (s : ByteArray) (hk : I64 k) (hn : I64 n) (hs : s.size < 281474976710656) :
    KeyTop N S w (d + 1) (bareT d k n s) (.agg #[.int .i64 k, .int .i64 n, .string s, .slice none 0 0, .slice none 0 0]) :=
  ⟨_, _, rfl, hk, hn, hs, (fun s hs => by cases hs), by show (0 : Nat) < _; omega, ⟨rfl, Or.inl ⟨rfl, rfl⟩⟩, (fun b hb => by cases hb), ⟨by show (0 : Nat) < _; omega, none, 0, rfl, Or.inl rfl⟩⟩
theorem bareT_wt (d : Nat) (k n : Int) (s : ByteArray) : wtT (d + 1) (bareT d k n s) ≤ 3 := by simp [wtT, bareT]

theorem cell_of_cells {w : World} {b j : Nat} {cs : Array Value} {T : TypeId} (h : w.heap[b]? = some (.cells cs T (0, 0))) : w.cell? ⟨b, j, none⟩ = cs[j]? := by simp [World.cell?, h]
theorem texts_new (w : World) (T : TypeId) (ss : List ByteArray) (i : Nat) (s : ByteArray) (h : ss[i]? = some s) : (w.alloc (.cells (ss.map Value.string).toArray T)).cell? ⟨w.heap.size, 0 + i, none⟩ = some (.string s) := by
  rw [cell_of_cells (heap_alloc_new w _)]
  simp [h]
theorem ints_new (w : World) (T : TypeId) (ns : List Int) (i : Nat) (n : Int) (h : ns[i]? = some n) : (w.alloc (.cells (ns.map (Value.int .i64)).toArray T)).cell? ⟨w.heap.size, 0 + i, none⟩ = some (.int .i64 n) := by
  rw [cell_of_cells (heap_alloc_new w _)]
  simp [h]

def leafNums : List Int := [0, 1, 2, 3, -1, 7, 1000000]
def leafTexts : List ByteArray := [⟨#[]⟩, ⟨#[97]⟩, ⟨#[98]⟩, ⟨#[97, 98]⟩, ⟨#[122, 122]⟩, ⟨#[97, 98, 99, 100, 101, 102, 103, 104, 105, 106, 107, 108]⟩]

/-- New blocks of plain cells, but for the first one. -/
def FreshQ (w w' : World) (b : Nat) : Prop := w.heap.size < b ∧ b < w'.heap.size ∧ Plain w' b

theorem plain_set5 {w : World} {b k i : Nat} {v0 v1 v2 v3 v4 : Value} (h : Plain w k) (hk : k ≠ b) : Plain (set5 w b i v0 v1 v2 v3 v4) k := h.of_block (set5_block w b i v0 v1 v2 v3 v4 k hk)

/-- What was drawn is put into the result's own cells. -/
theorem drawn_end {r p p' c d B : Nat} {w wX : World} {t : Tr d} {v0 v1 v2 v3 v4 : Value} (hv : KeyTop (w.heap.size + 1) (FreshQ w wX) wX d t (.agg #[v0, v1, v2, v3, v4])) (hB : wtT d t ≤ B) (hR : Rd wX r p') (hp : p' ≤ p + c) (hb : But r w wX) (hr : r < w.heap.size) (_hx : w.heap.size < wX.heap.size) :
    ∀ wF, wF = set5 wX w.heap.size 0 v0 v1 v2 v3 v4 → Drawn r p c d B w (.returned (.agg #[v0, v1, v2, v3, v4])) wF := by
  intro wF hF
  have hs : ∀ b, b ≠ w.heap.size → wF.heap[b]? = wX.heap[b]? := fun b hb' => by rw [hF]; exact set5_block _ _ _ _ _ _ _ _ _ hb'
  have hz : wF.heap.size = wX.heap.size := by rw [hF]; exact set5_size _ _ _ _ _ _ _ _
  have hl : Below w.heap.size wX wF := by rw [hF]; exact below_set5 (Below.refl _ _) (Nat.le_refl _) _ _ _ _ _ _
  refine ⟨_, t, p', rfl, hv.moved (fun b hb' => hs b (by have := hb'.1; omega)) (fun b hb' => ?_) (by omega), hB, ?_, hp, ⟨hl.os.trans hb.os, hl.tape.trans hb.tape, hl.output.trans hb.output, by rw [hz]; exact hb.size, fun b hb1 hb2 => (hs b (by omega)).trans (hb.block b hb1 hb2)⟩⟩
  · exact ⟨⟨Nat.le_of_lt hb'.1, by rw [hz]; exact hb'.2.1⟩, hb'.2.2.of_block (hs b (by have := hb'.1; omega))⟩
  · obtain ⟨a, n, cap, h1, h2, h3⟩ := hR
    exact ⟨a, n, cap, (hs r (by omega)).trans h1, h2, h3.moved (fun b hb' => hs b (by omega))⟩

/-- The result's own cells, as they are made. -/
theorem res_new (w : World) : Blk5 (w.alloc (.cells #[.int .i64 0, .int .i64 0, .string { data := #[] }, .slice none 0 0, .slice none 0 0] 29)) w.heap.size 29 (.int .i64 0) (.int .i64 0) (.string { data := #[] }) (.slice none 0 0) (.slice none 0 0) := Blk5.new w _ _ _ _ _ _
theorem Blk5.butr {w w' : World} {r b : Nat} {T : TypeId} {c0 c1 c2 c3 c4 : Value} (h : Blk5 w b T c0 c1 c2 c3 c4) (hb : But r w w') (hn : b ≠ r) : Blk5 w' b T c0 c1 c2 c3 c4 := h.of_block (hb.block b h.lt (fun e => hn (by cases e; rfl)))

set_option maxRecDepth 100000 in
set_option maxHeartbeats 1000000 in
theorem l1Leaf_any (d r p : Nat) (w : World) (h : Rd w r p) (hp : p + 2 ≤ 1000000) :
    Calls Tryz.prog 91 #[.pointer (some ⟨r, 0, none⟩)] w (Drawn r p 2 (d + 1) 3 w) := by
  have hr := h.lt
  have hb0 := below_alloc1 w (.cells #[.int .i64 0, .int .i64 0, .string { data := #[] }, .slice none 0 0, .slice none 0 0] 29)
  have kr := res_new w
  have hR0 := h.below hb0
  obtain ⟨W0, HW⟩ : ∃ W0, Hid (W0 = w.alloc (.cells #[.int .i64 0, .int .i64 0, .string { data := #[] }, .slice none 0 0, .slice none 0 0] 29)) := ⟨_, rfl⟩
  have hz0 : W0.heap.size = w.heap.size + 1 := by rw [HW.out]; simp
  rw [← HW.out] at hb0 kr hR0
  go_enter Tryz.func91, Tryz.ntmps91
  go_wp2_with fail
  rw [← HW.out]
  refine (pick_any r p 8 W0 hR0 (by omega) (by omega) (by omega)).mono ?_
  rintro e w1 ⟨k, rfl, k0, k1, h1, b1, z1⟩
  clear h hR0
  replace kr := kr.butr b1 (by omega)
  have hB1 := (But.of_below hb0).trans b1
  have hz1 : w.heap.size < w1.heap.size := by omega
  have hk : k = 0 ∨ k = 1 ∨ k = 2 ∨ k = 3 ∨ k = 4 ∨ k = 5 ∨ k = 6 ∨ k = 7 := by omega
  clear k0 k1 HW hb0 z1 hz0 b1
  rcases hk with rfl | rfl | rfl | rfl | rfl | rfl | rfl | rfl
  case inl =>
    go_wp2_with fail
    refine (pick_any r (p + 1) 3 w1 h1 (by omega) (by omega) (by omega)).mono ?_
    rintro e w2 ⟨k, rfl, k0, k1, h2, b2, z2⟩
    replace kr := kr.butr b2 (by omega)
    have hB2 := hB1.trans b2
    have HF := hide (drawn_end (c := 2) (p := p) (bareT_key (w.heap.size + 1) (FreshQ w w2) w2 d k 0 ⟨#[]⟩ ⟨by omega, by omega⟩ ⟨by omega, by omega⟩ (by show (0 : Nat) < _; omega)) (bareT_wt d k 0 _) h2 (by omega) hB2 hr (by omega))
    obtain ⟨y0, y1, y2, y3, y4⟩ := kr.cell
    have yf := kr.frozen
    clear kr h2 hB2 b2 h1
    go_wp2_with fail
    exact bodyPost_ret (v := .agg #[.int .i64 k, .int .i64 0, .string { data := #[] }, .slice none 0 0, .slice none 0 0]) (by simp [results, Tryz.results91, go_sem, y0, y1, y2, y3, y4]) rfl (HF.out _ rfl)
  case inr.inr.inr.inl =>
    go_wp2_with fail
    refine (pick_any r (p + 1) 2 w1 h1 (by omega) (by omega) (by omega)).mono ?_
    rintro e w2 ⟨k, rfl, k0, k1, h2, b2, z2⟩
    replace kr := kr.butr b2 (by omega)
    have hB2 := hB1.trans b2
    have HF := hide (drawn_end (c := 2) (p := p) (bareT_key (w.heap.size + 1) (FreshQ w w2) w2 d (5 + k) 0 ⟨#[]⟩ ⟨by omega, by omega⟩ ⟨by omega, by omega⟩ (by show (0 : Nat) < _; omega)) (bareT_wt d (5 + k) 0 _) h2 (by omega) hB2 hr (by omega))
    obtain ⟨y0, y1, y2, y3, y4⟩ := kr.cell
    have yf := kr.frozen
    clear kr h2 hB2 b2 h1
    go_wp2_with fail
    exact bodyPost_ret (v := .agg #[.int .i64 (5 + k), .int .i64 0, .string { data := #[] }, .slice none 0 0, .slice none 0 0]) (by simp [results, Tryz.results91, go_sem, y0, y1, y2, y3, y4]) rfl (HF.out _ rfl)
  case inr.inl =>
    go_wp2_with fail
    have ha := below_alloc1 w1 (.cells (leafTexts.map Value.string).toArray 9)
    have hza : (w1.alloc (.cells (leafTexts.map Value.string).toArray 9)).heap.size = w1.heap.size + 1 := by simp
    refine (of_any r (p + 1) w1.heap.size 0 6 leafTexts (w1.alloc (.cells (leafTexts.map Value.string).toArray 9)) (h1.below ha) (by omega) (by omega) (by have := h1.lt; omega) (texts_new w1 9 leafTexts) (by decide) (by decide)).mono ?_
    rintro e w2 ⟨x, rfl, hx, h2, b2, z2⟩
    replace kr := (kr.below ha).butr b2 (by omega)
    have hB2 := (hB1.trans (But.of_below ha)).trans b2
    have hxs : x.size < 281474976710656 := by
      have : ∀ y ∈ leafTexts, y.size ≤ 12 := by decide
      have := this x hx
      omega
    have HF := hide (drawn_end (c := 2) (p := p) (bareT_key (w.heap.size + 1) (FreshQ w w2) w2 d 4 0 x ⟨by omega, by omega⟩ ⟨by omega, by omega⟩ hxs) (bareT_wt d 4 0 _) h2 (by omega) hB2 hr (by omega))
    obtain ⟨y0, y1, y2, y3, y4⟩ := kr.cell
    have yf := kr.frozen
    clear kr h2 hB2 b2 h1 ha hza hx hxs
    go_wp2_with fail
    exact bodyPost_ret (v := .agg #[.int .i64 4, .int .i64 0, .string x, .slice none 0 0, .slice none 0 0]) (by simp [results, Tryz.results91, go_sem, y0, y1, y2, y3, y4]) rfl (HF.out _ rfl)
  case inr.inr.inl =>
    go_wp2_with fail
    have ha := below_alloc1 w1 (.cells (leafTexts.map Value.string).toArray 9)
    have hza : (w1.alloc (.cells (leafTexts.map Value.string).toArray 9)).heap.size = w1.heap.size + 1 := by simp
    refine (of_any r (p + 1) w1.heap.size 0 6 leafTexts (w1.alloc (.cells (leafTexts.map Value.string).toArray 9)) (h1.below ha) (by omega) (by omega) (by have := h1.lt; omega) (texts_new w1 9 leafTexts) (by decide) (by decide)).mono ?_
    rintro e w2 ⟨x, rfl, hx, h2, b2, z2⟩
    replace kr := (kr.below ha).butr b2 (by omega)
    have hB2 := (hB1.trans (But.of_below ha)).trans b2
    have hxs : x.size < 281474976710656 := by
      have : ∀ y ∈ leafTexts, y.size ≤ 12 := by decide
      have := this x hx
      omega
    have HF := hide (drawn_end (c := 2) (p := p) (bareT_key (w.heap.size + 1) (FreshQ w w2) w2 d 4 0 x ⟨by omega, by omega⟩ ⟨by omega, by omega⟩ hxs) (bareT_wt d 4 0 _) h2 (by omega) hB2 hr (by omega))
    obtain ⟨y0, y1, y2, y3, y4⟩ := kr.cell
    have yf := kr.frozen
    clear kr h2 hB2 b2 h1 ha hza hx hxs
    go_wp2_with fail
    exact bodyPost_ret (v := .agg #[.int .i64 4, .int .i64 0, .string x, .slice none 0 0, .slice none 0 0]) (by simp [results, Tryz.results91, go_sem, y0, y1, y2, y3, y4]) rfl (HF.out _ rfl)
  case inr.inr.inr.inr.inl =>
    go_wp2_with fail
    have ha := below_alloc1 w1 (.cells (leafNums.map (Value.int .i64)).toArray 3)
    have hza : (w1.alloc (.cells (leafNums.map (Value.int .i64)).toArray 3)).heap.size = w1.heap.size + 1 := by simp
    refine (num_any r (p + 1) w1.heap.size 0 7 leafNums (w1.alloc (.cells (leafNums.map (Value.int .i64)).toArray 3)) (h1.below ha) (by omega) (by omega) (by have := h1.lt; omega) (ints_new w1 3 leafNums) (by decide) (by decide)).mono ?_
    rintro e w2 ⟨x, rfl, hx, h2, b2, z2⟩
    replace kr := (kr.below ha).butr b2 (by omega)
    have hB2 := (hB1.trans (But.of_below ha)).trans b2
    have hxs : I64 x := by
      have : ∀ y ∈ leafNums, -1 ≤ y ∧ y ≤ 1000000 := by decide
      have := this x hx
      exact ⟨by omega, by omega⟩
    have HF := hide (drawn_end (c := 2) (p := p) (bareT_key (w.heap.size + 1) (FreshQ w w2) w2 d 3 x ⟨#[]⟩ ⟨by omega, by omega⟩ hxs (by show (0 : Nat) < _; omega)) (bareT_wt d 3 x _) h2 (by omega) hB2 hr (by omega))
    obtain ⟨y0, y1, y2, y3, y4⟩ := kr.cell
    have yf := kr.frozen
    clear kr h2 hB2 b2 h1 ha hza hx hxs
    go_wp2_with fail
    exact bodyPost_ret (v := .agg #[.int .i64 3, .int .i64 x, .string { data := #[] }, .slice none 0 0, .slice none 0 0]) (by simp [results, Tryz.results91, go_sem, y0, y1, y2, y3, y4]) rfl (HF.out _ rfl)
  case inr.inr.inr.inr.inr.inl =>
    go_wp2_with fail
    have ha := below_alloc1 w1 (.cells (leafNums.map (Value.int .i64)).toArray 3)
    have hza : (w1.alloc (.cells (leafNums.map (Value.int .i64)).toArray 3)).heap.size = w1.heap.size + 1 := by simp
    refine (num_any r (p + 1) w1.heap.size 0 7 leafNums (w1.alloc (.cells (leafNums.map (Value.int .i64)).toArray 3)) (h1.below ha) (by omega) (by omega) (by have := h1.lt; omega) (ints_new w1 3 leafNums) (by decide) (by decide)).mono ?_
    rintro e w2 ⟨x, rfl, hx, h2, b2, z2⟩
    replace kr := (kr.below ha).butr b2 (by omega)
    have hB2 := (hB1.trans (But.of_below ha)).trans b2
    have hxs : I64 x := by
      have : ∀ y ∈ leafNums, -1 ≤ y ∧ y ≤ 1000000 := by decide
      have := this x hx
      exact ⟨by omega, by omega⟩
    have HF := hide (drawn_end (c := 2) (p := p) (bareT_key (w.heap.size + 1) (FreshQ w w2) w2 d 3 x ⟨#[]⟩ ⟨by omega, by omega⟩ hxs (by show (0 : Nat) < _; omega)) (bareT_wt d 3 x _) h2 (by omega) hB2 hr (by omega))
    obtain ⟨y0, y1, y2, y3, y4⟩ := kr.cell
    have yf := kr.frozen
    clear kr h2 hB2 b2 h1 ha hza hx hxs
    go_wp2_with fail
    exact bodyPost_ret (v := .agg #[.int .i64 3, .int .i64 x, .string { data := #[] }, .slice none 0 0, .slice none 0 0]) (by simp [results, Tryz.results91, go_sem, y0, y1, y2, y3, y4]) rfl (HF.out _ rfl)
  case inr.inr.inr.inr.inr.inr.inl =>
    go_wp2_with fail
    have ha := below_alloc1 w1 (.cells (leafNums.map (Value.int .i64)).toArray 3)
    have hza : (w1.alloc (.cells (leafNums.map (Value.int .i64)).toArray 3)).heap.size = w1.heap.size + 1 := by simp
    refine (num_any r (p + 1) w1.heap.size 0 7 leafNums (w1.alloc (.cells (leafNums.map (Value.int .i64)).toArray 3)) (h1.below ha) (by omega) (by omega) (by have := h1.lt; omega) (ints_new w1 3 leafNums) (by decide) (by decide)).mono ?_
    rintro e w2 ⟨x, rfl, hx, h2, b2, z2⟩
    replace kr := (kr.below ha).butr b2 (by omega)
    have hB2 := (hB1.trans (But.of_below ha)).trans b2
    have hxs : I64 x := by
      have : ∀ y ∈ leafNums, -1 ≤ y ∧ y ≤ 1000000 := by decide
      have := this x hx
      exact ⟨by omega, by omega⟩
    have HF := hide (drawn_end (c := 2) (p := p) (bareT_key (w.heap.size + 1) (FreshQ w w2) w2 d 3 x ⟨#[]⟩ ⟨by omega, by omega⟩ hxs (by show (0 : Nat) < _; omega)) (bareT_wt d 3 x _) h2 (by omega) hB2 hr (by omega))
    obtain ⟨y0, y1, y2, y3, y4⟩ := kr.cell
    have yf := kr.frozen
    clear kr h2 hB2 b2 h1 ha hza hx hxs
    go_wp2_with fail
    exact bodyPost_ret (v := .agg #[.int .i64 3, .int .i64 x, .string { data := #[] }, .slice none 0 0, .slice none 0 0]) (by simp [results, Tryz.results91, go_sem, y0, y1, y2, y3, y4]) rfl (HF.out _ rfl)
  case inr.inr.inr.inr.inr.inr.inr =>
    go_wp2_with fail
    have ha := below_alloc1 w1 (.cells (leafNums.map (Value.int .i64)).toArray 3)
    have hza : (w1.alloc (.cells (leafNums.map (Value.int .i64)).toArray 3)).heap.size = w1.heap.size + 1 := by simp
    refine (num_any r (p + 1) w1.heap.size 0 7 leafNums (w1.alloc (.cells (leafNums.map (Value.int .i64)).toArray 3)) (h1.below ha) (by omega) (by omega) (by have := h1.lt; omega) (ints_new w1 3 leafNums) (by decide) (by decide)).mono ?_
    rintro e w2 ⟨x, rfl, hx, h2, b2, z2⟩
    replace kr := (kr.below ha).butr b2 (by omega)
    have hB2 := (hB1.trans (But.of_below ha)).trans b2
    have hxs : I64 x := by
      have : ∀ y ∈ leafNums, -1 ≤ y ∧ y ≤ 1000000 := by decide
      have := this x hx
      exact ⟨by omega, by omega⟩
    have HF := hide (drawn_end (c := 2) (p := p) (bareT_key (w.heap.size + 1) (FreshQ w w2) w2 d 3 x ⟨#[]⟩ ⟨by omega, by omega⟩ hxs (by show (0 : Nat) < _; omega)) (bareT_wt d 3 x _) h2 (by omega) hB2 hr (by omega))
    obtain ⟨y0, y1, y2, y3, y4⟩ := kr.cell
    have yf := kr.frozen
    clear kr h2 hB2 b2 h1 ha hza hx hxs
    go_wp2_with fail
    exact bodyPost_ret (v := .agg #[.int .i64 3, .int .i64 x, .string { data := #[] }, .slice none 0 0, .slice none 0 0]) (by simp [results, Tryz.results91, go_sem, y0, y1, y2, y3, y4]) rfl (HF.out _ rfl)
end Go.Proofs.YtilgbnnjecpneaaGreatDoor
