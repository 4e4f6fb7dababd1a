/- Texts of the proof, put together by program: WFlatI. -/
import Derived.Test.YtohdpgclokgohaaGreatDoorP30
import Derived.Test.YtohdpgclokgohaaGreatDoorP41
/- flatRow, RowFlat of the program. -/
namespace Go.Proofs.YtohdpgclokgohaaGreatDoor
open Go.RowKit Go.Deep

theorem ownsRow_on {w w' : World} {N : Nat} {T : TypeId} {s : Nat} {v : Value} {n : Nat} {xs : List Value} (h : w.ownsRow N T s v n xs) (hb : Below w.heap.size w w') : w'.ownsRow N T s v n xs := by
  obtain ⟨h1, h2⟩ := h
  refine ⟨h1, ?_⟩
  rcases h2 with h2 | ⟨g, c, cur, e, h3, h4, h5⟩
  · exact Or.inl h2
  · exact Or.inr ⟨g, c, cur, e, h3, (hb.block g (Array.getElem?_eq_some_iff.1 h4).1).trans h4, h5⟩
theorem GF.later {d N : Nat} {S : Nat → Prop} {w w' : World} {sv : Value} {xs : List (Tr d)} {vs : List Value} (h : GF S N w sv xs vs) (hb : Below w.heap.size w w') (hS : Within S w) : GF S N w' sv xs vs :=
  ⟨ownsRow_on h.1 hb, fun j x u hx hu => (h.2 j x u hx hu).same (hS.same hb)⟩
theorem Row1At.one {α : Type} {S : Nat → Prop} {w : World} {At : α → Value → Prop} {a : Option Addr} {n cap k : Nat} {xs : List α} (h : Row1At S w At (.slice a n cap) xs) (hk : k < xs.length) : ∃ b o x u, a = some ⟨b, o, none⟩ ∧ S b ∧ xs[k]? = some x ∧ w.cell? ⟨b, o + k, none⟩ = some u ∧ At x u := by
  obtain ⟨_, a', cap', hv, h3⟩ := h
  cases hv
  rcases h3 with rfl | ⟨b, o, hB, ha, hc⟩
  · simp at hk
  · obtain ⟨u, e0, e1⟩ := hc k _ (List.getElem?_eq_getElem hk)
    exact ⟨b, o, xs[k], u, ha, hB, List.getElem?_eq_getElem hk, e0, e1⟩

set_option maxRecDepth 100000 in
set_option maxHeartbeats 8000000 in
theorem flatRow_any (d N : Nat) (xs : List (Tr (d + 1))) (a : Option Addr) (cap : Nat) (vs : List Value) (w : World) (hto0 : GTo N w (.slice a xs.length cap) xs vs) (hN : N ≤ w.heap.size) (hl : xs.length ≤ 60) (hf60 : (flatL d xs).length ≤ 60) :
    Calls Tryz.prog 57 #[.slice a xs.length cap] w (TellF (d + 1) N (flatF d xs) w) := by
  obtain ⟨S, hSd⟩ : ∃ S : Nat → Prop, S = fun b => N ≤ b ∧ b < w.heap.size := ⟨_, rfl⟩
  have hrow0 : Row1At S w (TreeG S w (d + 1)) (.slice a xs.length cap) xs := by rw [hSd]; exact hto0.row (by omega)
  have hSw : Within S w := by rw [hSd]; exact fun b hb => hb.2
  have hSN : ∀ b, S b → N ≤ b := by rw [hSd]; exact fun b hb => hb.1
  clear hSd hto0
  go_enter Tryz.func57, Tryz.ntmps57
  go_wp2_with fail
  go_loopw [4, 11] (fun fl i wr => ∃ (k n : Nat) (la : Option Addr) (lc : Nat) (vs' : List Value), k ≤ xs.length ∧ fl = .slice la n lc ∧ i = .int .i64 (k : Int) ∧ n ≤ 60 ∧ Hid (n = (flatL d (xs.take k)).length) ∧ Hid (GF S w.heap.size wr (.slice la n lc) (flatL d (xs.take k)) vs') ∧ Hid (Below w.heap.size w wr)) (fun _ i _ => xs.length - (intOf i).toNat)
  case atStart => exact ⟨0, 0, none, 0, [], Nat.zero_le _, rfl, rfl, Nat.zero_le _, rfl, GF.nil _ _ _, Below.refl _ _⟩
  case round =>
    obtain ⟨k, n, la, lc, vs', hk, rfl, rfl, hn60, hlen, hto, hbr⟩ := hrel
    have hsz := hbr.out.size
    by_cases hkl : k < xs.length
    · have hki : (k : Int) < (xs.length : Int) := by omega
      have hmv := hSw.same hbr.out
      have hrow := hrow0.moved (At' := TreeG S wr (d + 1)) hmv (fun _ h => h) (fun x u hx => TreeG.moved hmv (fun _ h => h) (d + 1) x u hx)
      obtain ⟨b, o, x, u, rfl, hb, hx, e0, hu⟩ := hrow.one hkl
      have hstp := hide (flatL_step (d := d) hx)
      have hle := hide (flat_take (d := d) xs (k + 1))
      have htr := hide hu
      clear hrow0 hx
      rcases hu with ⟨k', h1, hxe, rfl⟩ | ⟨n', h1, hxe, rfl⟩ | ⟨s', h1, hxe, rfl⟩ | ⟨ys, sv, h1, hxe, rfl, hr⟩ | ⟨keys, ys, ps, r, es, h1, h2, h3, h4, hxe, rfl, hr, hm, he⟩
      · clear hmv
        have a3 := Tryz.asR_B
        have hx5 : Nd.kind x ≠ 5 := by rw [hxe]; show k' ≠ 5; omega
        have hone := hide (flat1_one (d := d) hx5)
        have hsm2 : n + 1 ≤ 60 := by
          have h1 := hle.out
          rw [hstp.out, hone.out, List.length_append, List.length_singleton, ← hlen.out] at h1
          omega
        have hA1 := below_alloc1 wr (.cells #[.slice none 0 0] 80)
        have hown := hto.out.1
        rw [← hlen.out] at hown
        have HO := hide ((hown.alloc (.cells #[.slice none 0 0] 80)).alloc (.cells #[.iface 67 (.agg #[.int .i64 k'])] 49))
        have hcn : Hid (∀ j v, ([.iface 67 (.agg #[.int .i64 k'])] : List Value)[j]? = some v → ((wr.alloc (.cells #[.slice none 0 0] 80)).alloc (.cells #[.iface 67 (.agg #[.int .i64 k'])] 49)).cell? ((⟨wr.heap.size + 1, 0, none⟩ : Addr).add j) = some v) := by
          have h := cell_one_new (wr.alloc (.cells #[.slice none 0 0] 80)) (.iface 67 (.agg #[.int .i64 k'])) 49
          rw [World.size_alloc] at h
          exact h
        have hrow1 : ∀ g, (Value.slice la n lc).ownBlock = some g → w.heap.size ≤ g := fun g hg => (hown.lt g hg).1
        have hstep : Hid (∀ sv' w2, w2.ownsRow w.heap.size 49 1 sv' (n + 1) (vs' ++ [.iface 67 (.agg #[.int .i64 k'])]) → ((wr.alloc (.cells #[.slice none 0 0] 80)).alloc (.cells #[.iface 67 (.agg #[.int .i64 k'])] 49)).grownBy w2 (Value.slice la n lc).ownBlock →
            ∃ a c, sv' = .slice a (n + 1) c ∧ n + 1 = (flatL d (xs.take (k + 1))).length ∧ GF S w.heap.size w2 sv' (flatL d (xs.take (k + 1))) (vs' ++ [.iface 67 (.agg #[.int .i64 k'])]) ∧ Below w.heap.size w w2) := by
          intro sv' w2 o1 o2
          have hz2 : wr.heap.size + 2 ≤ w2.heap.size := Nat.le_trans (by simp) o2.size
          have hblk : ∀ b, b < w.heap.size → w2.heap[b]? = wr.heap[b]? := fun b hb => ((o2.block b (by simp; omega) (fun c => by have := hrow1 b c.symm; omega)).trans (Below.heap_alloc _ _ _ (by simp; omega))).trans (Below.heap_alloc _ _ _ (by omega))
          have heq : flatL d (xs.take k) ++ [x] = flatL d (xs.take (k + 1)) := by rw [hstp.out, hone.out]
          have hg := hto.out.grow (ys := [x]) (us := [.iface 67 (.agg #[.int .i64 k'])]) (fun b hb => hblk b (hSw b hb)) (fun j y v hy hv => by
            cases j with
            | zero => cases hy; cases hv; exact htr.out
            | succ j => simp at hy) (by rw [← hlen.out]; exact o1)
          rw [heq] at hg
          have hl1 : n + 1 = (flatL d (xs.take (k + 1))).length := by rw [← heq, List.length_append, List.length_singleton, ← hlen.out]
          obtain ⟨a, c, e⟩ := hg.slice
          rw [← hl1] at e
          exact ⟨a, c, e, hl1, hg, ⟨o2.os.trans hbr.out.os, o2.tape.trans hbr.out.tape, o2.output.trans hbr.out.output, by omega, fun b hb => (hblk b hb).trans (hbr.out.block b hb)⟩⟩
        obtain ⟨i0, hi, hz0, hz1, hz2⟩ := info_parts Tryz.infoTree
        clear hto hbr hown htr hx5 hxe hA1 hrow1 hle hstp hone hlen hrow
        go_wp2_with (at_builtin; refine wpList_append_own_at _ rfl _ _ 78 rfl w.heap.size 49 i0 .nilIface 1 16 Tryz.underlying78 hi hz0 hz1 hz2 rfl (by decide) _ _ _ rfl HO.out ⟨wr.heap.size + 1, 0, none⟩ 1 1 [.iface 67 (.agg #[.int .i64 k'])] rfl rfl hcn.out ?c2 ?c3 ?c4 ?c5 ?_)
        case c2 => intro y hy; simp at hy; subst hy; rfl
        case c3 => unfold maxLen; omega
        case c4 => omega
        case c5 => simp; omega
        · intro sv' w2 o1 o2 _ o3
          have HH := hide (hstep.out sv' w2 o1 o2)
          clear o1 o2 o3 hstep HO hcn hi hz0 hz1 hz2
          obtain ⟨a2, c2, rfl, hl1, hg2, hb2⟩ := HH.out
          have HL := hide hl1
          have HG := hide hg2
          have HB2 := hide hb2
          clear HH hl1 hg2 hb2
          go_wp2_with fail
          go_roundw
          case rel => exact ⟨k + 1, n + 1, a2, c2, _, by omega, rfl, by go_num, hsm2, HL, HG, HB2⟩
          case measure => simp [intOf]; omega
      · clear hmv
        have a3 := Tryz.asR_N
        have hx5 : Nd.kind x ≠ 5 := by rw [hxe]; show (3 : Int) ≠ 5; omega
        have hone := hide (flat1_one (d := d) hx5)
        have hsm2 : n + 1 ≤ 60 := by
          have h1 := hle.out
          rw [hstp.out, hone.out, List.length_append, List.length_singleton, ← hlen.out] at h1
          omega
        have hA1 := below_alloc1 wr (.cells #[.slice none 0 0] 80)
        have hown := hto.out.1
        rw [← hlen.out] at hown
        have HO := hide ((hown.alloc (.cells #[.slice none 0 0] 80)).alloc (.cells #[.iface 94 (.agg #[.int .i64 n'])] 49))
        have hcn : Hid (∀ j v, ([.iface 94 (.agg #[.int .i64 n'])] : List Value)[j]? = some v → ((wr.alloc (.cells #[.slice none 0 0] 80)).alloc (.cells #[.iface 94 (.agg #[.int .i64 n'])] 49)).cell? ((⟨wr.heap.size + 1, 0, none⟩ : Addr).add j) = some v) := by
          have h := cell_one_new (wr.alloc (.cells #[.slice none 0 0] 80)) (.iface 94 (.agg #[.int .i64 n'])) 49
          rw [World.size_alloc] at h
          exact h
        have hrow1 : ∀ g, (Value.slice la n lc).ownBlock = some g → w.heap.size ≤ g := fun g hg => (hown.lt g hg).1
        have hstep : Hid (∀ sv' w2, w2.ownsRow w.heap.size 49 1 sv' (n + 1) (vs' ++ [.iface 94 (.agg #[.int .i64 n'])]) → ((wr.alloc (.cells #[.slice none 0 0] 80)).alloc (.cells #[.iface 94 (.agg #[.int .i64 n'])] 49)).grownBy w2 (Value.slice la n lc).ownBlock →
            ∃ a c, sv' = .slice a (n + 1) c ∧ n + 1 = (flatL d (xs.take (k + 1))).length ∧ GF S w.heap.size w2 sv' (flatL d (xs.take (k + 1))) (vs' ++ [.iface 94 (.agg #[.int .i64 n'])]) ∧ Below w.heap.size w w2) := by
          intro sv' w2 o1 o2
          have hz2 : wr.heap.size + 2 ≤ w2.heap.size := Nat.le_trans (by simp) o2.size
          have hblk : ∀ b, b < w.heap.size → w2.heap[b]? = wr.heap[b]? := fun b hb => ((o2.block b (by simp; omega) (fun c => by have := hrow1 b c.symm; omega)).trans (Below.heap_alloc _ _ _ (by simp; omega))).trans (Below.heap_alloc _ _ _ (by omega))
          have heq : flatL d (xs.take k) ++ [x] = flatL d (xs.take (k + 1)) := by rw [hstp.out, hone.out]
          have hg := hto.out.grow (ys := [x]) (us := [.iface 94 (.agg #[.int .i64 n'])]) (fun b hb => hblk b (hSw b hb)) (fun j y v hy hv => by
            cases j with
            | zero => cases hy; cases hv; exact htr.out
            | succ j => simp at hy) (by rw [← hlen.out]; exact o1)
          rw [heq] at hg
          have hl1 : n + 1 = (flatL d (xs.take (k + 1))).length := by rw [← heq, List.length_append, List.length_singleton, ← hlen.out]
          obtain ⟨a, c, e⟩ := hg.slice
          rw [← hl1] at e
          exact ⟨a, c, e, hl1, hg, ⟨o2.os.trans hbr.out.os, o2.tape.trans hbr.out.tape, o2.output.trans hbr.out.output, by omega, fun b hb => (hblk b hb).trans (hbr.out.block b hb)⟩⟩
        obtain ⟨i0, hi, hz0, hz1, hz2⟩ := info_parts Tryz.infoTree
        clear hto hbr hown htr hx5 hxe hA1 hrow1 hle hstp hone hlen hrow
        go_wp2_with (at_builtin; refine wpList_append_own_at _ rfl _ _ 78 rfl w.heap.size 49 i0 .nilIface 1 16 Tryz.underlying78 hi hz0 hz1 hz2 rfl (by decide) _ _ _ rfl HO.out ⟨wr.heap.size + 1, 0, none⟩ 1 1 [.iface 94 (.agg #[.int .i64 n'])] rfl rfl hcn.out ?c2 ?c3 ?c4 ?c5 ?_)
        case c2 => intro y hy; simp at hy; subst hy; rfl
        case c3 => unfold maxLen; omega
        case c4 => omega
        case c5 => simp; omega
        · intro sv' w2 o1 o2 _ o3
          have HH := hide (hstep.out sv' w2 o1 o2)
          clear o1 o2 o3 hstep HO hcn hi hz0 hz1 hz2
          obtain ⟨a2, c2, rfl, hl1, hg2, hb2⟩ := HH.out
          have HL := hide hl1
          have HG := hide hg2
          have HB2 := hide hb2
          clear HH hl1 hg2 hb2
          go_wp2_with fail
          go_roundw
          case rel => exact ⟨k + 1, n + 1, a2, c2, _, by omega, rfl, by go_num, hsm2, HL, HG, HB2⟩
          case measure => simp [intOf]; omega
      · clear hmv
        have a3 := Tryz.asR_S
        have hx5 : Nd.kind x ≠ 5 := by rw [hxe]; show (4 : Int) ≠ 5; omega
        have hone := hide (flat1_one (d := d) hx5)
        have hsm2 : n + 1 ≤ 60 := by
          have h1 := hle.out
          rw [hstp.out, hone.out, List.length_append, List.length_singleton, ← hlen.out] at h1
          omega
        have hA1 := below_alloc1 wr (.cells #[.slice none 0 0] 80)
        have hown := hto.out.1
        rw [← hlen.out] at hown
        have HO := hide ((hown.alloc (.cells #[.slice none 0 0] 80)).alloc (.cells #[.iface 84 (.agg #[.string s'])] 49))
        have hcn : Hid (∀ j v, ([.iface 84 (.agg #[.string s'])] : List Value)[j]? = some v → ((wr.alloc (.cells #[.slice none 0 0] 80)).alloc (.cells #[.iface 84 (.agg #[.string s'])] 49)).cell? ((⟨wr.heap.size + 1, 0, none⟩ : Addr).add j) = some v) := by
          have h := cell_one_new (wr.alloc (.cells #[.slice none 0 0] 80)) (.iface 84 (.agg #[.string s'])) 49
          rw [World.size_alloc] at h
          exact h
        have hrow1 : ∀ g, (Value.slice la n lc).ownBlock = some g → w.heap.size ≤ g := fun g hg => (hown.lt g hg).1
        have hstep : Hid (∀ sv' w2, w2.ownsRow w.heap.size 49 1 sv' (n + 1) (vs' ++ [.iface 84 (.agg #[.string s'])]) → ((wr.alloc (.cells #[.slice none 0 0] 80)).alloc (.cells #[.iface 84 (.agg #[.string s'])] 49)).grownBy w2 (Value.slice la n lc).ownBlock →
            ∃ a c, sv' = .slice a (n + 1) c ∧ n + 1 = (flatL d (xs.take (k + 1))).length ∧ GF S w.heap.size w2 sv' (flatL d (xs.take (k + 1))) (vs' ++ [.iface 84 (.agg #[.string s'])]) ∧ Below w.heap.size w w2) := by
          intro sv' w2 o1 o2
          have hz2 : wr.heap.size + 2 ≤ w2.heap.size := Nat.le_trans (by simp) o2.size
          have hblk : ∀ b, b < w.heap.size → w2.heap[b]? = wr.heap[b]? := fun b hb => ((o2.block b (by simp; omega) (fun c => by have := hrow1 b c.symm; omega)).trans (Below.heap_alloc _ _ _ (by simp; omega))).trans (Below.heap_alloc _ _ _ (by omega))
          have heq : flatL d (xs.take k) ++ [x] = flatL d (xs.take (k + 1)) := by rw [hstp.out, hone.out]
          have hg := hto.out.grow (ys := [x]) (us := [.iface 84 (.agg #[.string s'])]) (fun b hb => hblk b (hSw b hb)) (fun j y v hy hv => by
            cases j with
            | zero => cases hy; cases hv; exact htr.out
            | succ j => simp at hy) (by rw [← hlen.out]; exact o1)
          rw [heq] at hg
          have hl1 : n + 1 = (flatL d (xs.take (k + 1))).length := by rw [← heq, List.length_append, List.length_singleton, ← hlen.out]
          obtain ⟨a, c, e⟩ := hg.slice
          rw [← hl1] at e
          exact ⟨a, c, e, hl1, hg, ⟨o2.os.trans hbr.out.os, o2.tape.trans hbr.out.tape, o2.output.trans hbr.out.output, by omega, fun b hb => (hblk b hb).trans (hbr.out.block b hb)⟩⟩
        obtain ⟨i0, hi, hz0, hz1, hz2⟩ := info_parts Tryz.infoTree
        clear hto hbr hown htr hx5 hxe hA1 hrow1 hle hstp hone hlen hrow
        go_wp2_with (at_builtin; refine wpList_append_own_at _ rfl _ _ 78 rfl w.heap.size 49 i0 .nilIface 1 16 Tryz.underlying78 hi hz0 hz1 hz2 rfl (by decide) _ _ _ rfl HO.out ⟨wr.heap.size + 1, 0, none⟩ 1 1 [.iface 84 (.agg #[.string s'])] rfl rfl hcn.out ?c2 ?c3 ?c4 ?c5 ?_)
        case c2 => intro y hy; simp at hy; subst hy; rfl
        case c3 => unfold maxLen; omega
        case c4 => omega
        case c5 => simp; omega
        · intro sv' w2 o1 o2 _ o3
          have HH := hide (hstep.out sv' w2 o1 o2)
          clear o1 o2 o3 hstep HO hcn hi hz0 hz1 hz2
          obtain ⟨a2, c2, rfl, hl1, hg2, hb2⟩ := HH.out
          have HL := hide hl1
          have HG := hide hg2
          have HB2 := hide hb2
          clear HH hl1 hg2 hb2
          go_wp2_with fail
          go_roundw
          case rel => exact ⟨k + 1, n + 1, a2, c2, _, by omega, rfl, by go_num, hsm2, HL, HG, HB2⟩
          case measure => simp [intOf]; omega
      · have a3 := Tryz.asR_R
        obtain ⟨sa, sc, rfl, _⟩ := hr.open'
        have hone : Hid (flat1 d x = ys.map (up d)) := by
          show flat1 d x = ys.map (up d)
          rw [flat1_row (by rw [hxe]), hxe]
        have hA1 := below_alloc1 wr (.cells #[.slice sa ys.length sc] 80)
        have hSr : Within S wr := hSw.later hsz
        have hrA := (hr.moved (At' := TreeG S (wr.alloc (.cells #[.slice sa ys.length sc] 80)) d) (hSr.same hA1) (fun _ h => h) (fun x u hx => TreeG.moved (hSr.same hA1) (fun _ h => h) d x u hx)).up (At' := TreeG S (wr.alloc (.cells #[.slice sa ys.length sc] 80)) (d + 1)) (up d) (fun y u hy => TreeG.up d y u hy)
        have htoA := hto.out.later hA1 hSr
        have hsm2 : (flatL d (xs.take k)).length + (ys.map (up d)).length ≤ 60 := by
          have h1 := hle.out
          rw [hstp.out, hone.out, List.length_append] at h1
          exact Nat.le_trans h1 hf60
        have hrun := hide (fun ty => run_append_onto_trees htoA hSw (Nat.le_trans hsz hA1.size) (ys.map (up d)) sa sc ys.length ty (by rw [List.length_map]) hrA (by omega))
        have hstep : Hid (∀ ty, ∃ v' w', (Builtin.append_ #[78, 78] ty #[.slice la n lc, .slice sa ys.length sc]).run Tryz.prog (wr.alloc (.cells #[.slice sa ys.length sc] 80)) = .ok v' w' ∧ Hid (∃ n' a c vs', v' = .slice a n' c ∧ n' ≤ 60 ∧ n' = (flatL d (xs.take (k + 1))).length ∧ GF S w.heap.size w' v' (flatL d (xs.take (k + 1))) vs' ∧ Below w.heap.size w w')) := by
          intro ty
          obtain ⟨lv', w2, hr2, ⟨vs2, hv2⟩, hgr, a2, c2, e⟩ := hrun.out ty
          have hrow1 : ∀ g, (Value.slice la n lc).ownBlock = some g → w.heap.size ≤ g := fun g hg => (hto.out.1.lt g hg).1
          have hb3 := below_trans hbr.out hA1
          refine ⟨lv', w2, hr2, _, a2, c2, vs2, e, by omega, ?_, ?_, ?_⟩
          · rw [hstp.out, hone.out, List.length_append]
          · rw [hstp.out, hone.out]; exact hv2
          · exact ⟨hgr.os.trans hb3.os, hgr.tape.trans hb3.tape, hgr.output.trans hb3.output, Nat.le_trans hb3.size hgr.size, fun b hb => (hgr.block b (Nat.lt_of_lt_of_le hb hb3.size) (fun e => by have := hrow1 b e.symm; omega)).trans (hb3.block b hb)⟩
        clear hto hbr hr hrA htoA hsm2 hrun hle hstp hone htr hmv hA1 hlen hrow hSr hxe
        go_wp2_with (at_builtin; refine wpList_append_run (fun v' w' => Hid (∃ n' a c vs', v' = .slice a n' c ∧ n' ≤ 60 ∧ n' = (flatL d (xs.take (k + 1))).length ∧ GF S w.heap.size w' v' (flatL d (xs.take (k + 1))) vs' ∧ Below w.heap.size w w')) rfl _ _ 78 rfl (.slice la n lc) (.slice sa ys.length sc) rfl rfl (hstep.out 78) ?_)
        rintro v' w2 hph
        obtain ⟨n', ⟨a2, c2, rfl⟩, hn', g2, ⟨vs2, g3⟩, g4⟩ := hph.out
        have hl' := hide g2
        have hV := hide g3
        have hB' := hide g4
        clear hph hstep g2 g3 g4
        go_wp2_with fail
        go_roundw
        case rel => exact ⟨k + 1, n', a2, c2, vs2, by omega, rfl, by go_num, hn', hl', hV, hB'⟩
        case measure => simp [intOf]; omega
      · clear hmv he hm hr h4 h3 h2
        have a3 := Tryz.asR_M
        have hx5 : Nd.kind x ≠ 5 := by rw [hxe]; show (6 : Int) ≠ 5; omega
        have hone := hide (flat1_one (d := d) hx5)
        have hsm2 : n + 1 ≤ 60 := by
          have h1 := hle.out
          rw [hstp.out, hone.out, List.length_append, List.length_singleton, ← hlen.out] at h1
          omega
        have hA1 := below_alloc1 wr (.cells #[.slice none 0 0] 80)
        have hown := hto.out.1
        rw [← hlen.out] at hown
        have HO := hide ((hown.alloc (.cells #[.slice none 0 0] 80)).alloc (.cells #[.iface 100 (.agg #[.map (some r)])] 49))
        have hcn : Hid (∀ j v, ([.iface 100 (.agg #[.map (some r)])] : List Value)[j]? = some v → ((wr.alloc (.cells #[.slice none 0 0] 80)).alloc (.cells #[.iface 100 (.agg #[.map (some r)])] 49)).cell? ((⟨wr.heap.size + 1, 0, none⟩ : Addr).add j) = some v) := by
          have h := cell_one_new (wr.alloc (.cells #[.slice none 0 0] 80)) (.iface 100 (.agg #[.map (some r)])) 49
          rw [World.size_alloc] at h
          exact h
        have hrow1 : ∀ g, (Value.slice la n lc).ownBlock = some g → w.heap.size ≤ g := fun g hg => (hown.lt g hg).1
        have hstep : Hid (∀ sv' w2, w2.ownsRow w.heap.size 49 1 sv' (n + 1) (vs' ++ [.iface 100 (.agg #[.map (some r)])]) → ((wr.alloc (.cells #[.slice none 0 0] 80)).alloc (.cells #[.iface 100 (.agg #[.map (some r)])] 49)).grownBy w2 (Value.slice la n lc).ownBlock →
            ∃ a c, sv' = .slice a (n + 1) c ∧ n + 1 = (flatL d (xs.take (k + 1))).length ∧ GF S w.heap.size w2 sv' (flatL d (xs.take (k + 1))) (vs' ++ [.iface 100 (.agg #[.map (some r)])]) ∧ Below w.heap.size w w2) := by
          intro sv' w2 o1 o2
          have hz2 : wr.heap.size + 2 ≤ w2.heap.size := Nat.le_trans (by simp) o2.size
          have hblk : ∀ b, b < w.heap.size → w2.heap[b]? = wr.heap[b]? := fun b hb => ((o2.block b (by simp; omega) (fun c => by have := hrow1 b c.symm; omega)).trans (Below.heap_alloc _ _ _ (by simp; omega))).trans (Below.heap_alloc _ _ _ (by omega))
          have heq : flatL d (xs.take k) ++ [x] = flatL d (xs.take (k + 1)) := by rw [hstp.out, hone.out]
          have hg := hto.out.grow (ys := [x]) (us := [.iface 100 (.agg #[.map (some r)])]) (fun b hb => hblk b (hSw b hb)) (fun j y v hy hv => by
            cases j with
            | zero => cases hy; cases hv; exact htr.out
            | succ j => simp at hy) (by rw [← hlen.out]; exact o1)
          rw [heq] at hg
          have hl1 : n + 1 = (flatL d (xs.take (k + 1))).length := by rw [← heq, List.length_append, List.length_singleton, ← hlen.out]
          obtain ⟨a, c, e⟩ := hg.slice
          rw [← hl1] at e
          exact ⟨a, c, e, hl1, hg, ⟨o2.os.trans hbr.out.os, o2.tape.trans hbr.out.tape, o2.output.trans hbr.out.output, by omega, fun b hb => (hblk b hb).trans (hbr.out.block b hb)⟩⟩
        obtain ⟨i0, hi, hz0, hz1, hz2⟩ := info_parts Tryz.infoTree
        clear hto hbr hown htr hx5 hxe hA1 hrow1 hle hstp hone hlen hrow
        go_wp2_with (at_builtin; refine wpList_append_own_at _ rfl _ _ 78 rfl w.heap.size 49 i0 .nilIface 1 16 Tryz.underlying78 hi hz0 hz1 hz2 rfl (by decide) _ _ _ rfl HO.out ⟨wr.heap.size + 1, 0, none⟩ 1 1 [.iface 100 (.agg #[.map (some r)])] rfl rfl hcn.out ?c2 ?c3 ?c4 ?c5 ?_)
        case c2 => intro y hy; simp at hy; subst hy; rfl
        case c3 => unfold maxLen; omega
        case c4 => omega
        case c5 => simp; omega
        · intro sv' w2 o1 o2 _ o3
          have HH := hide (hstep.out sv' w2 o1 o2)
          clear o1 o2 o3 hstep HO hcn hi hz0 hz1 hz2
          obtain ⟨a2, c2, rfl, hl1, hg2, hb2⟩ := HH.out
          have HL := hide hl1
          have HG := hide hg2
          have HB2 := hide hb2
          clear HH hl1 hg2 hb2
          go_wp2_with fail
          go_roundw
          case rel => exact ⟨k + 1, n + 1, a2, c2, _, by omega, rfl, by go_num, hsm2, HL, HG, HB2⟩
          case measure => simp [intOf]; omega
    · obtain rfl : k = xs.length := by omega
      have hall : xs.take xs.length = xs := List.take_of_length_le (Nat.le_refl _)
      have hto' := hto.out
      rw [hall] at hto'
      have HG : Hid (TreeG (fun b => N ≤ b ∧ b < wr.heap.size) wr (d + 2) (rowT (d + 1) (flatL d xs)) (.iface 80 (.agg #[.slice la n lc]))) := hto'.tree (by omega) hN (fun b hb => ⟨hSN b hb, Nat.lt_of_lt_of_le (hSw b hb) hsz⟩)
      have HB : Hid (Below N w wr) := hbr.out.mono hN
      clear hto hto' hall hlen hbr hrow0
      go_wp2_with fail
      go_ret2
      exact ⟨HB.out, Or.inl ⟨_, _, rfl, rfl, HG.out⟩⟩

set_option maxRecDepth 100000 in
set_option maxHeartbeats 2000000 in
theorem implRowFlat_any (d : Nat) (S : Nat → Prop) (t : Tr (d + 1 + 1)) (v : Value) (w : World) (hv : ValAt S w (d + 1 + 1) t v) (hS : Within S w) (hg : ErrType w) :
    Calls Tryz.prog 26 #[v] w (TellQ (d + 1) (rowTell (flatF d) t).1 (rowTell (flatF d) t).2 w) := by
  obtain ⟨k, n, s, ak, lk, ck, al, ll, cl, rfl⟩ := hv.shape
  obtain ⟨W0, hW⟩ : ∃ W0, W0 = (w.alloc (.cells #[.int .i64 k, .int .i64 n, .string s, .slice ak lk ck, .slice al ll cl] 26)).alloc (.cells #[.int .i64 0, .int .i64 0, .string { data := #[] }, .slice none 0 0, .slice none 0 0] 26) := ⟨_, rfl⟩
  have hW0 : Below w.heap.size w W0 := by rw [hW]; exact below_trans (below_alloc1 _ _) (below_alloc1 _ _)
  have k1 : Blk5 W0 (w.heap.size + 1) 26 (.int .i64 0) (.int .i64 0) (.string { data := #[] }) (.slice none 0 0) (.slice none 0 0) := by
    have := Blk5.new (w.alloc (.cells #[.int .i64 k, .int .i64 n, .string s, .slice ak lk ck, .slice al ll cl] 26)) 26 (.int .i64 0) (.int .i64 0) (.string { data := #[] }) (.slice none 0 0) (.slice none 0 0)
    rw [World.size_alloc] at this
    rw [hW]
    exact this
  have hcall := hide (ofRow_flatRow (d + 1) (d + 1) S t _ (flatF d) W0 (hv.same (hS.same hW0)) (hS.later hW0.size) (hg.below hW0) (fun N xs a cap vs w1 hrow hto _ hN _ => flatRow_any d N xs a cap vs w1 hto hN (by obtain ⟨hok, _, rfl⟩ := treesL_some hrow; exact (okT_kinds hok).2.1) (by obtain ⟨hok, _, rfl⟩ := treesL_some hrow; exact flat_len hok)))
  have HW := hide hW
  have hlt := k1.lt
  clear hW hv
  go_enter Tryz.func26, Tryz.ntmps26
  go_wp2_with fail
  rw [← HW.out]
  clear HW
  refine Calls.mono hcall.out ?_
  rintro e w1 ⟨r, rfl, hr, hb1⟩
  obtain ⟨v0, v1, v2, v3, v4, v5, v6, v7, v8, rfl⟩ := (ValOwn.at _ _ _ _ hr).shape
  have HF := hide (tell_end hr (below_trans hW0 hb1) (by omega) hlt)
  have k3 := k1.below hb1
  obtain ⟨y0, y1, y2, y3, y4⟩ := k3.cell
  have yf := k3.frozen
  clear hr hb1 k3 k1 hcall hW0
  go_wp2_with fail
  refine bodyPost_ret (v := .tuple #[.agg #[.int .i64 v0, .int .i64 v1, .string v2, .slice v3 v4 v5, .slice v6 v7 v8], .bool (rowTell (flatF d) t).2]) (by simp [results, Tryz.results26, go_sem, y0, y1, y2, y3, y4]) rfl ⟨_, rfl, (HF.out _ rfl).1, (HF.out _ rfl).2⟩
end Go.Proofs.YtohdpgclokgohaaGreatDoor
