/- Texts of the proof, put together by program: WFlatS, LFlatC, PSum, WCopyO, WAppW. -/
import Derived.Test.YtmibjmipndffmaaGreatDoorT23
import Derived.Test.YtmibjmipndffmaaGreatDoorT21
import Derived.Test.YtmibjmipndffmaaGreatDoorT9
import Derived.Test.YtmibjmipndffmaaGreatDoorT24
import Derived.Test.YtmibjmipndffmaaGreatDoorT18
import Derived.Test.YtmibjmipndffmaaGreatDoorT22
import Derived.Test.YtmibjmipndffmaaGreatDoorT6
import Derived.Test.YtmibjmipndffmaaGreatDoorT19
/- RowFlat of the model. -/
namespace Go.Proofs.YtmibjmipndffmaaGreatDoor
open Go.RowKit Go.Deep

set_option maxRecDepth 100000 in
set_option maxHeartbeats 2000000 in
theorem specRowFlat_own (d : Nat) (S : Nat → Prop) (t : Tr (d + 2)) (v : Value) (w : World) (hv : ValAt S w (d + 2) t v) (hS : Within S w) (hsm : (nodes (d + 2) t : Int) ≤ 4194304) :
    Calls Tryz.prog 28 #[v] w (TellQ (d + 1) (rowTell (flatF d) t).1 (rowTell (flatF d) t).2 w) := by
  have hv0 := hv
  obtain ⟨vk, vl, rfl, i1, i2, i3, hk, hl⟩ := hv
  obtain ⟨ak, ck, rfl, hkl⟩ := hk.open'
  obtain ⟨al, cl, rfl, hll⟩ := hl.open'
  obtain ⟨W0, hW⟩ : ∃ W0, W0 = (w.alloc (.cells #[.int .i64 t.kind, .int .i64 t.num, .string t.str, .slice ak t.keys.length ck, .slice al t.list.length cl] 26)).alloc (.cells #[.int .i64 0, .int .i64 0, .string { data := #[] }, .slice none 0 0, .slice none 0 0] 26) := ⟨_, rfl⟩
  have hW0 : Below w.heap.size w W0 := by rw [hW]; exact below_trans (below_alloc1 _ _) (below_alloc1 _ _)
  have k0 : Blk5 W0 w.heap.size 26 (.int .i64 t.kind) (.int .i64 t.num) (.string t.str) (.slice ak t.keys.length ck) (.slice al t.list.length cl) := by
    rw [hW]; exact (Blk5.new w 26 _ _ _ _ _).alloc _
  have k1 : Blk5 W0 (w.heap.size + 1) 26 (.int .i64 0) (.int .i64 0) (.string { data := #[] }) (.slice none 0 0) (.slice none 0 0) := by
    have := Blk5.new (w.alloc (.cells #[.int .i64 t.kind, .int .i64 t.num, .string t.str, .slice ak t.keys.length ck, .slice al t.list.length cl] 26)) 26 (.int .i64 0) (.int .i64 0) (.string { data := #[] }) (.slice none 0 0) (.slice none 0 0)
    rw [World.size_alloc] at this
    rw [hW]
    exact this
  have HW := hide hW
  clear hW hk
  go_enter Tryz.func28, Tryz.ntmps28
  go_wp2_with fail
  rw [← HW.out]
  clear HW
  refine (l4Row_any (d + 1) S t _ W0 (hv0.same (hS.same hW0)) (hS.later hW0.size) hsm).mono ?_
  rintro e w1 ⟨rfl, hb1⟩
  replace k0 := k0.below hb1
  replace k1 := k1.below hb1
  have hB1 := below_trans hW0 hb1
  have hlt := k1.lt
  clear hb1 hW0 hv0
  cases hf : treesL (d + 1) t with
  | none =>
    have hz := hide (rowTell_none (f := flatF d) hf)
    have hno : Hid (∀ wF, wF = set5 w1 (w.heap.size + 1) 0 (.int .i64 0) (.int .i64 0) (.string { data := #[] }) (.slice none 0 0) (.slice none 0 0) → Below w.heap.size w wF) := by
      intro wF hF
      rw [hF]
      exact below_set5 hB1 (by omega) _ _ _ _ _ _
    obtain ⟨y0, y1, y2, y3, y4⟩ := k1.cell
    have yf := k1.frozen
    clear k0 k1 hB1
    go_wp2_with fail
    rw [hz.out]
    refine bodyPost_ret (v := .tuple #[zeroVal, .bool false]) (by simp [results, Tryz.results28, go_sem, zeroVal, y0, y1, y2, y3, y4]; rfl) rfl ⟨_, rfl, zeroVal_own (d + 1) _ _, hno.out _ rfl⟩
  | some xs =>
    obtain ⟨hok, h5, rfl⟩ := treesL_some hf
    clear h5
    have hR : Hid (rowTell (flatF d) t = (toldT (d + 1) (rowT (d + 1) (flatL d t.list)), okT (d + 2) (rowT (d + 1) (flatL d t.list)))) := rowTell_some hf rfl
    have hl60 : t.list.length ≤ 60 := (okT_kinds hok).2.1
    have hf60 : (flatL d t.list).length ≤ 60 := flat_len hok
    have hnod : (nodes (d + 2) (rowT (d + 1) (flatL d t.list)) : Int) ≤ 4194304 := nodes_row (flat_ok (fun x hx => okT_part hok hx)) (by omega)
    have hS1 : ∀ b, S b → b < w1.heap.size := hS.later hB1.size
    have hst : Hid (VTo (d := d + 1) S w1.heap.size (w1.alloc (.cells #[] 26)) (.slice (some ⟨w1.heap.size, 0, none⟩) 0 0) [] []) := VTo.start S w1
    have hbs := hide (below_alloc1 w1 (.cells #[] 26))
    obtain ⟨i0, hi, hz0, hz1, hz2⟩ := info_parts Tryz.infoV2
    obtain ⟨x0, x1, x2, x3, x4⟩ := (k0.alloc (.cells #[] 26)).cell
    clear hf hok
    go_wp2_with fail
    go_loopw [4, 5] (fun out i wr => ∃ (m n : Nat) (la : Option Addr) (lc : Nat) (vs : List Value), m ≤ t.list.length ∧ out = .slice la n lc ∧ i = .int .i64 (m : Int) ∧ n ≤ 60 ∧ Hid (n = (flatL d (t.list.take m)).length) ∧ Hid (VTo S w1.heap.size wr (.slice la n lc) (flatL d (t.list.take m)) vs) ∧ Hid (Below w1.heap.size w1 wr)) (fun _ i _ => t.list.length - (intOf i).toNat)
    case atStart => exact ⟨0, 0, _, _, [], Nat.zero_le _, rfl, rfl, Nat.zero_le _, rfl, hst, hbs⟩
    case round =>
      clear hst hbs x0 x1 x2 x3 x4
      obtain ⟨m, n, la, lc, vs, hm, rfl, rfl, hn60, hlen, hto, hbr⟩ := hrel
      have hsz := hbr.out.size
      have kbox := k0.below hbr.out
      obtain ⟨x0, x1, x2, x3, x4⟩ := kbox.cell
      by_cases hmt : m < t.list.length
      · have hmi : (m : Int) < (t.list.length : Int) := by omega
        obtain ⟨b, o, x, c0, c1, c2, c3, c4, rfl, hbS, hx, e0, e1, e2, e3, e4, hval⟩ := (hl.same (hS.same (below_trans hB1 hbr.out))).cell hmt
        obtain ⟨q0, q1, q2, q3, q4, q5, q6, q7, q8, hq⟩ := hval.shape
        cases hq
        obtain ⟨rfl, rfl, hin⟩ := hval.parts
        have hstp := hide (flatL_step (d := d) hx)
        have hle := hide (flat_take (d := d) t.list (m + 1))
        by_cases h5 : Nd.kind x = 5
        · have h5b : (Nd.kind x == 5) = true := by rw [h5]; rfl
          have hup := hin.up (At' := ValAt S wr (d + 1)) (up d) (fun y u hy => ValAt.up d y u hy)
          have hone := hide (flat1_row (d := d) h5)
          have hsm2 : (flatL d (t.list.take m)).length + ((Nd.list x).map (up d)).length ≤ 60 := by
            have h1 := hle.out
            rw [hstp.out, hone.out, List.length_append] at h1
            omega
          have hrun := hide (fun ty => run_append_onto_vals hto.out hS1 hsz ((Nd.list x).map (up d)) q6 q8 (Nd.list x).length ty (by rw [List.length_map]) hup (by omega))
          have hstep : Hid (∀ ty, ∃ v' w', (Builtin.append_ #[24, 24] ty #[.slice la n lc, .slice q6 (Nd.list x).length q8]).run Tryz.prog wr = .ok v' w' ∧ Hid (∃ n' a c vs', v' = .slice a n' c ∧ n' ≤ 60 ∧ n' = (flatL d (t.list.take (m + 1))).length ∧ VTo S w1.heap.size w' v' (flatL d (t.list.take (m + 1))) vs' ∧ Below w1.heap.size w1 w')) := by
            intro ty
            obtain ⟨lv', w2, hr, ⟨vs', hv'⟩, hgr, a, c, e⟩ := hrun.out ty
            have hrow := fun g hg => (hto.out.1.lt g hg).1
            refine ⟨lv', w2, hr, _, a, c, vs', e, by omega, ?_, ?_, ?_⟩
            · rw [hstp.out, hone.out, List.length_append]
            · rw [hstp.out, hone.out]; exact hv'
            · exact ⟨hgr.os.trans hbr.out.os, hgr.tape.trans hbr.out.tape, hgr.output.trans hbr.out.output, Nat.le_trans hbr.out.size hgr.size, fun b hb => (hgr.block b (by omega) (fun e => by have := hrow b e.symm; omega)).trans (hbr.out.block b hb)⟩
          clear hto hbr hval hx kbox hup hin hstp hle hone hsm2 hlen hrun hi hz0 hz1 hz2 hS1 hnod hR h5b
          rw [h5] at e0
          clear h5
          go_wp2_with (at_builtin; refine wpList_append_run (fun v' w' => Hid (∃ n' a c vs', v' = .slice a n' c ∧ n' ≤ 60 ∧ n' = (flatL d (t.list.take (m + 1))).length ∧ VTo S w1.heap.size w' v' (flatL d (t.list.take (m + 1))) vs' ∧ Below w1.heap.size w1 w')) rfl _ _ 24 rfl (.slice la n lc) (.slice q6 (Nd.list x).length q8) rfl rfl (hstep.out 24) ?_)
          rintro v' w2 hph
          obtain ⟨n', ⟨a, c, rfl⟩, hn', g2, ⟨vs', g3⟩, g4⟩ := hph.out
          have hl' := hide g2
          have hV := hide g3
          have hB' := hide g4
          clear hph hstep g2 g3 g4
          go_wp2_with fail
          go_roundw
          case rel => exact ⟨m + 1, n', a, c, vs', by omega, rfl, by go_num, hn', hl', hV, hB'⟩
          case measure => simp [intOf]; omega
        · have h5b : (Nd.kind x == 5) = false := by simp [h5]
          have hone := hide (flat1_one (d := d) h5)
          have hsm2 : n + 1 ≤ 60 := by
            have h1 := hle.out
            rw [hstp.out, hone.out, List.length_append, List.length_singleton, ← hlen.out] at h1
            omega
          have hown := hto.out.1
          rw [← hlen.out] at hown
          have HO := hide (hown.alloc (.cells #[.int .i64 (Nd.kind x), .int .i64 q1, .string q2, .slice q3 q4 q5, .slice q6 (Nd.list x).length q8] 26))
          have hstep : Hid (∀ lv' w2, w2.ownsRow w1.heap.size 26 5 lv' (n + 1) (vs ++ [.int .i64 (Nd.kind x), .int .i64 q1, .string q2, .slice q3 q4 q5, .slice q6 (Nd.list x).length q8]) → (wr.alloc (.cells #[.int .i64 (Nd.kind x), .int .i64 q1, .string q2, .slice q3 q4 q5, .slice q6 (Nd.list x).length q8] 26)).grownBy w2 (Value.slice la n lc).ownBlock →
              ∃ a c, lv' = .slice a (n + 1) c ∧ n + 1 = (flatL d (t.list.take (m + 1))).length ∧ VTo S w1.heap.size w2 lv' (flatL d (t.list.take (m + 1))) (vs ++ [.int .i64 (Nd.kind x), .int .i64 q1, .string q2, .slice q3 q4 q5, .slice q6 (Nd.list x).length q8]) ∧ Below w1.heap.size w1 w2) := by
            intro lv' w2 o1 o2
            have hp := hto.out.push hS1 hsz hbr.out hval (by rw [← hlen.out]; exact o1) o2
            have heq : flatL d (t.list.take m) ++ [x] = flatL d (t.list.take (m + 1)) := by rw [hstp.out, hone.out]
            rw [heq] at hp
            have hl1 : n + 1 = (flatL d (t.list.take (m + 1))).length := by rw [← heq, List.length_append, List.length_singleton, ← hlen.out]
            obtain ⟨a, c, e⟩ := hp.1.slice
            rw [← hl1] at e
            exact ⟨a, c, e, hl1, hp.1, hp.2.1⟩
          have hsw : w1.heap.size ≤ wr.heap.size := hsz
          clear hto hbr hown hval hx kbox hin hstp hle hone hlen
          go_wp2_with (at_builtin; refine wpList_append_own_at _ rfl _ _ 24 rfl w1.heap.size 26 i0 zeroVal 5 80 Tryz.underlying24 hi hz0 hz1 hz2 rfl (by decide) _ _ _ rfl HO.out ⟨wr.heap.size, 0, none⟩ 1 1 [.int .i64 (Nd.kind x), .int .i64 q1, .string q2, .slice q3 q4 q5, .slice q6 (Nd.list x).length q8] rfl rfl (cell_five_new _ _ _ _ _ _ _) ?c2 ?c3 ?c4 ?c5 ?_)
          case c2 => intro y hy; simp at hy; rcases hy with rfl | rfl | rfl | rfl | rfl <;> rfl
          case c3 => unfold maxLen; omega
          case c4 => omega
          case c5 => simp; omega
          · intro lv' w2 o1 o2 _ o3
            have HH := hide (hstep.out lv' w2 o1 o2)
            clear o1 o2 o3 hstep HO
            obtain ⟨a, c, rfl, hl1, hv2, hb2⟩ := HH.out
            have HL := hide hl1
            have HV := hide hv2
            have HB2 := hide hb2
            clear HH hv2 hb2 hl1 hi hz0 hz1 hz2
            go_wp2_with fail
            go_roundw
            case rel => exact ⟨m + 1, n + 1, a, c, _, by omega, rfl, by go_num, hsm2, HL, HV, HB2⟩
            case measure => simp [intOf]; omega
      · obtain rfl : m = t.list.length := by omega
        have hall : t.list.take t.list.length = t.list := List.take_of_length_le (Nat.le_refl _)
        have hto' := hto.out
        rw [hall] at hto'
        have HTO := hide hto'
        have kres := k1.below hbr.out
        have hB2 := below_trans hB1 hbr.out
        clear hto hto' hall kbox x0 x1 x2 x3 hi hz0 hz1 hz2 k0 k1 hlt hlen
        go_wp2_with fail
        refine (l4Of_any _ _ _ wr).mono ?_
        rintro e w3 ⟨rfl, hb3⟩
        have hB3 := below_trans hB2 hb3
        have hrow := rowV_at HTO.out (by omega) hb3 (fun b hb => Nat.lt_of_lt_of_le (hS1 b hb) hsz)
        have k3 := kres.below hb3
        have hWU3 : Within (fun b => S b ∨ (w1.heap.size ≤ b ∧ b < w3.heap.size)) w3 := fun b hb => by
          rcases hb with hb | hb
          · exact hS.later hB3.size b hb
          · exact hb.2
        have hcall2 := hide (l2Told_own (d + 1) _ _ _ w3 hrow hWU3 hnod)
        have hlt3 : w.heap.size + 1 < w3.heap.size := k3.lt
        clear hrow hWU3 hb3 HTO hbr kres hB2 hl
        go_wp2_with fail
        refine Calls.mono hcall2.out ?_
        rintro e w4 ⟨r, rfl, hr, hb4⟩
        obtain ⟨r0, r1, r2, r3, r4, r5, r6, r7, r8, rfl⟩ := (ValOwn.at _ _ _ _ hr).shape
        have HF := hide (tell_end hr (below_trans hB3 hb4) (by omega) hlt3)
        have k4 := k3.below hb4
        obtain ⟨y0, y1, y2, y3, y4⟩ := k4.cell
        have yf := k4.frozen
        clear hr hb4 k3 k4 hcall2 hB3
        go_wp2_with fail
        rw [hR.out]
        exact bodyPost_ret (v := .tuple #[.agg #[.int .i64 r0, .int .i64 r1, .string r2, .slice r3 r4 r5, .slice r6 r7 r8], .bool (okT (d + 2) (rowT (d + 1) (flatL d t.list)))]) (by simp [results, Tryz.results28, go_sem, y0, y1, y2, y3, y4]) rfl ⟨_, rfl, (HF.out _ rfl).1, (HF.out _ rfl).2⟩
end Go.Proofs.YtmibjmipndffmaaGreatDoor

/- Flat rows: contracts, and the facts that FnRowFlat asks for. -/
namespace Go.Proofs.YtmibjmipndffmaaGreatDoor
open Go.RowKit Go.Deep

theorem rflatI {d : Nat} {w W : World} {t : Tr (d + 2)} {v : Value} (h : ValAt (FreshP w W) W (d + 2) t v) (hg : ErrType W) (hl : w.heap.size ≤ W.heap.size) :
    Calls Tryz.prog 27 #[v] W (TQ w (d + 2) (rowTell (flatF d) t).1 (rowTell (flatF d) t).2 W) := (implRowFlat_any d _ t v W h within_P hg).mono (fun _ _ h => tq_of hl h)
theorem rflatS {d : Nat} {w W : World} {t : Tr (d + 2)} {v : Value} (h : ValAt (FreshP w W) W (d + 2) t v) (hz : wtT (d + 2) t ≤ 10000) (hl : w.heap.size ≤ W.heap.size) :
    Calls Tryz.prog 28 #[v] W (TQ w (d + 2) (rowTell (flatF d) t).1 (rowTell (flatF d) t).2 W) := (specRowFlat_own d _ t v W h within_P (nodes_small hz)).mono (fun _ _ h => tq_of hl h)
theorem flat_ok2 {d : Nat} {t : Tr (d + 2)} (h : (rowTell (flatF d) t).2 = true) : okT (d + 2) t = true ∧ Nd.kind t = 5 ∧ okT (d + 2) (rowT (d + 1) (flatL d (Nd.list t))) = true ∧ rowTell (flatF d) t = (rowT (d + 1) (flatL d (Nd.list t)), true) := by
  cases hx : treesL (d + 1) t with
  | none => rw [rowTell_none hx] at h; cases h
  | some xs =>
    obtain ⟨hok, h5, rfl⟩ := treesL_some hx
    have hs := rowTell_some (f := flatF d) hx rfl
    rw [hs] at h ⊢
    have h : okT (d + 2) (rowT (d + 1) (flatL d (Nd.list t))) = true := h
    refine ⟨hok, h5, h, ?_⟩
    rw [h]
    unfold toldT
    rw [if_pos h]
end Go.Proofs.YtmibjmipndffmaaGreatDoor

/- All trees of a row together: plain facts. -/
namespace Go.Proofs.YtmibjmipndffmaaGreatDoor
open Go.RowKit Go.Deep

/-- Trees added to what there is, one by one. -/
def sumS {d : Nat} : List (Tr (d + 1)) → Tr (d + 1) → Option (Tr (d + 1))
  | [], acc => some acc
  | x :: r, acc => if (partAddT d acc x).2 = true then sumS r (partAddT d acc x).1 else none
def sumF (d : Nat) (xs : List (Tr (d + 1))) : Option (Tr (d + 1)) := sumS xs (zeroT d)
theorem sumS_step {d : Nat} {xs : List (Tr (d + 1))} {k : Nat} {x : Tr (d + 1)} (h : xs[k]? = some x) (acc : Tr (d + 1)) : sumS (xs.drop k) acc = if (partAddT d acc x).2 = true then sumS (xs.drop (k + 1)) (partAddT d acc x).1 else none := by
  obtain ⟨hk, e⟩ := List.getElem?_eq_some_iff.1 h
  rw [List.drop_eq_getElem_cons hk, e, sumS]
end Go.Proofs.YtmibjmipndffmaaGreatDoor

/- l1Copy of the model: the copy's list owns its cells, and may be appended to. -/
namespace Go.Proofs.YtmibjmipndffmaaGreatDoor
open Go.RowKit Go.Deep

/-- A copy whose topmost list owns its cells. -/
def CopyO (d : Nat) (t : Tr (d + 1)) (w : World) (e : Ending) (w' : World) : Prop :=
  ∃ vk lv N vs, e = .returned (.agg #[.int .i64 (Nd.kind t), .int .i64 (Nd.num t), .string (Nd.str t), vk, lv]) ∧ StrsAt (Fresh w w') w' vk (Nd.keys t) ∧ VTo (fun b => w.heap.size ≤ b ∧ b < w'.heap.size ∧ some b ≠ lv.ownBlock) N w' lv (Nd.list t) vs ∧ w.heap.size ≤ N ∧ N ≤ w'.heap.size ∧ Below w.heap.size w w'

theorem CopyTo.final_own {d b : Nat} {w wc wr : World} {t : Nd (Tr d)} {c3 c4 vk lv : Value} {vs : List Value} {P : Nat → Nat → Prop} (h : CopyTo wc wr t b vk lv t.list.length vs P) (hc : CopyAt w wc t c3 c4 b vk) :
    ∀ wF, wF = set5 wr (w.heap.size + 1) 0 (.int .i64 t.kind) (.int .i64 t.num) (.string t.str) vk lv → StrsAt (Fresh w wF) wF vk t.keys ∧ VTo (fun b => w.heap.size ≤ b ∧ b < wF.heap.size ∧ some b ≠ lv.ownBlock) wc.heap.size wF lv t.list vs ∧ w.heap.size ≤ wc.heap.size ∧ wc.heap.size ≤ wF.heap.size ∧ Below w.heap.size w wF := by
  intro wF hF
  have hbu := h.but
  have hbw := hc.below
  have hab := hc.above
  have hws := hc.res.lt
  have hrb : Below w.heap.size w wr := ⟨hbu.os.trans hbw.os, hbu.tape.trans hbw.tape, hbu.output.trans hbw.output, Nat.le_trans hbw.size hbu.size, fun j hj => (hbu.block j (Nat.lt_of_lt_of_le hj hbw.size) (fun e => by cases e; omega)).trans (hbw.block j hj)⟩
  have hzF : wF.heap.size = wr.heap.size := by rw [hF, set5_size]
  have hsz : wc.heap.size ≤ wr.heap.size := hbu.size
  have hsm : ∀ R : Nat → Prop, (∀ b, R b → w.heap.size + 1 < b) → Same R wr wF := fun R hR b hb => by
    rw [hF, set5_block _ _ _ _ _ _ _ _ _ (by have := hR b hb; omega)]
  have hkey : Same (fun x => w.heap.size + 1 < x ∧ x < wc.heap.size ∧ x ≠ b) wc wF := fun c hc => by
    rw [hsm (fun x => w.heap.size + 1 < x) (fun _ h => h) c hc.1]
    exact hbu.block c hc.2.1 (fun e => by cases e; exact hc.2.2 rfl)
  have hg : ∀ g, lv.ownBlock = some g → wc.heap.size ≤ g ∧ g < wr.heap.size := fun g hg => h.vals.own.lt g hg
  refine ⟨(hc.keys.at.moved hkey (fun _ h => h)).mono (fun b hb => ⟨by have := hb.1; omega, by rw [hzF]; have := hb.2.1; omega⟩), ⟨⟨h.vals.own.1, ?_⟩, fun j x hx => ?_⟩, hbw.size, by rw [hzF]; exact hsz, ?_⟩
  · rcases h.vals.own.2 with h0 | ⟨g, cap, cur, hv, hg, hh, hrest⟩
    · exact Or.inl h0
    · refine Or.inr ⟨g, cap, cur, hv, hg, ?_, hrest⟩
      rw [hsm (fun x => w.heap.size + 1 < x) (fun _ h => h) g (by omega)]
      exact hh
  · have hj := (List.getElem?_eq_some_iff.1 hx).1
    obtain ⟨c0, c1, c2, c3, c4, e0, e1, e2, e3, e4, hv⟩ := h.vals.val j x hj hx
    refine ⟨c0, c1, c2, c3, c4, e0, e1, e2, e3, e4, (ValOwn.at d _ x _ hv).moved (hsm _ (fun b hb => by have := (h.vals.lo j b hj hb).1; omega)) (fun b hb => ?_)⟩
    have := h.vals.lo j b hj hb
    exact ⟨by omega, by rw [hzF]; exact this.2.1, this.2.2⟩
  · rw [hF]
    exact below_set5 hrb (by omega) _ _ _ _ _ _

set_option maxRecDepth 100000 in
set_option maxHeartbeats 1000000 in
theorem l1Copy_own (d : Nat) (S : Nat → Prop) (t : Tr (d + 1)) (v : Value) (w : World) (hv : ValAt S w (d + 1) t v) (hS : Within S w) (hwt : (wtT (d + 1) t : Int) ≤ 4194304) :
    Calls Tryz.prog 57 #[v] w (CopyO d t w) := by
    have ih := l1Copy_any d
    obtain ⟨kind, num, str, keys, list⟩ := t
    obtain ⟨vk, vl, rfl, i1, i2, i3, hk, hl⟩ := hv
    have hk : StrsAt S w vk keys := hk
    have hl : RowAt S w (ValAt S w d) vl list := hl
    obtain ⟨ak, ck, rfl, hkl⟩ := hk.open'
    obtain ⟨al, cl, rfl, hll⟩ := hl.open'
    have hwt2 : ((3 + keys.length + (list.map (wtT d)).sum : Nat) : Int) ≤ 4194304 := hwt
    have hksm : keys.length ≤ 4194304 := by omega
    have hlsm : list.length ≤ 4194304 := by have := row_wt hl; omega
    clear hwt
    show Calls Tryz.prog 57 #[.agg #[.int .i64 kind, .int .i64 num, .string str, .slice ak keys.length ck, .slice al list.length cl]] w _
    go_enter Tryz.func57, Tryz.ntmps57
    go_upto_region 1 with fail
    go_cut [3] (fun ov wc => ∃ b vk, ov = .pointer (some ⟨b, 0, none⟩) ∧ Hid (CopyAt w wc (Nd.mk kind num str keys list) (.slice ak keys.length ck) (.slice al list.length cl) b vk))
    case first =>
      have n1 : w.heap.size < w.heap.size + 1 + 1 + 1 := by omega
      have n2 : w.heap.size < w.heap.size + 1 + 1 + 1 + 1 := by omega
      have n3 : w.heap.size + 1 + 1 < w.heap.size + 1 + 1 + 1 + 1 := by omega
      have m1 : ¬ w.heap.size = w.heap.size + 1 + 1 := by omega
      have m2 : ¬ w.heap.size = w.heap.size + 1 + 1 + 1 := by omega
      have m3 : ¬ w.heap.size + 1 + 1 = w.heap.size + 1 + 1 + 1 := by omega
      have m4 : ¬ w.heap.size + 1 + 1 + 1 = w.heap.size + 1 + 1 := by omega
      have m5 : ¬ w.heap.size + 1 + 1 + 1 = w.heap.size := by omega
      have m6 : ¬ w.heap.size + 1 + 1 = w.heap.size := by omega
      go_region_held3 (fun w' => w'.cell? ⟨w.heap.size, 0, none⟩ = some (.int .i64 kind) ∧ w'.cell? ⟨w.heap.size, 1, none⟩ = some (.int .i64 num) ∧ w'.cell? ⟨w.heap.size, 2, none⟩ = some (.string str) ∧ w'.cell? ⟨w.heap.size, 3, none⟩ = some (.slice ak keys.length ck) ∧ w'.cell? ⟨w.heap.size, 4, none⟩ = some (.slice al list.length cl)) (go_keep)
        ((refine step_append_run _ (by rfl) _ _ 23 (by rfl) _ _ (by rfl) (by rfl) (run_append_strs S keys ak ck _ _ _ (by first | exact nb1 _ _ _ _ | exact nb2 _ _ _ _ _ | exact nb3 _ _ _ _ _) (by first | exact hk.same (hS.same (bl3 _ _ _ _)) | exact hk.same (hS.same (bl4 _ _ _ _ _))) hksm) ?_; rintro v' w' ⟨hown, hgr⟩; obtain ⟨ka, kc, rfl, hkn⟩ := hown.open'; have hcell := fun (b o : Nat) (h1 : b < _) (h2 : some b ≠ _) => hgr.cell_far ⟨b, o, none⟩ h1 h2; have hfro := fun (b o : Nat) (h1 : b < _) (h2 : some b ≠ _) => hgr.frozen_far ⟨b, o, none⟩ h1 h2; have hnew : ¬ w'.heap.size = w.heap.size := fun e => by have h5 := hgr.size; simp at h5; omega))
      all_goals go_wp2_with fail
      all_goals go_meet
      · have hc := copy_a (t := (Nd.mk kind num str keys list : Nd (Tr d))) (c3 := .slice ak keys.length ck) (c4 := .slice al list.length cl) (vk := .slice ka keys.length kc) (G := w.heap.size + 1 + 1) (bl3 w (.cells #[.int .i64 kind, .int .i64 num, .string str, .slice ak keys.length ck, .slice al list.length cl] 26) (.cells #[.int .i64 0, .int .i64 0, .string { data := #[] }, .slice none 0 0, .slice none 0 0] 26) (.cells #[] 9)) (kA3 w (.cells #[.int .i64 kind, .int .i64 num, .string str, .slice ak keys.length ck, .slice al list.length cl] 26) (.cells #[.int .i64 0, .int .i64 0, .string { data := #[] }, .slice none 0 0, .slice none 0 0] 26) (.cells #[] 9)) (kB3 w (.cells #[.int .i64 kind, .int .i64 num, .string str, .slice ak keys.length ck, .slice al list.length cl] 26) (.cells #[.int .i64 0, .int .i64 0, .string { data := #[] }, .slice none 0 0, .slice none 0 0] 26) (.cells #[] 9)) (by omega) hgr hown
        exact ⟨w'.heap.size, .slice ka keys.length kc, rfl, hc⟩
      · have hc := copy_b (t := (Nd.mk kind num str keys list : Nd (Tr d))) (c3 := .slice ak keys.length ck) (c4 := .slice al list.length cl) (vk := .slice ka keys.length kc) (G := w.heap.size + 1 + 1) (V := w.heap.size + 1 + 1 + 1) (bl4 w (.cells #[.int .i64 kind, .int .i64 num, .string str, .slice ak keys.length ck, .slice al list.length cl] 26) (.cells #[.int .i64 0, .int .i64 0, .string { data := #[] }, .slice none 0 0, .slice none 0 0] 26) (.cells #[] 9) (.cells #[.int .i64 0, .int .i64 0, .string { data := #[] }, .slice none 0 0, .slice none 0 0] 26)) (kA4 w (.cells #[.int .i64 kind, .int .i64 num, .string str, .slice ak keys.length ck, .slice al list.length cl] 26) (.cells #[.int .i64 0, .int .i64 0, .string { data := #[] }, .slice none 0 0, .slice none 0 0] 26) (.cells #[] 9) (.cells #[.int .i64 0, .int .i64 0, .string { data := #[] }, .slice none 0 0, .slice none 0 0] 26)) (kB4 w (.cells #[.int .i64 kind, .int .i64 num, .string str, .slice ak keys.length ck, .slice al list.length cl] 26) (.cells #[.int .i64 0, .int .i64 0, .string { data := #[] }, .slice none 0 0, .slice none 0 0] 26) (.cells #[] 9) (.cells #[.int .i64 0, .int .i64 0, .string { data := #[] }, .slice none 0 0, .slice none 0 0] 26)) (nb3 w (.cells #[.int .i64 kind, .int .i64 num, .string str, .slice ak keys.length ck, .slice al list.length cl] 26) (.cells #[.int .i64 0, .int .i64 0, .string { data := #[] }, .slice none 0 0, .slice none 0 0] 26) (.cells #[] 9) (.cells #[.int .i64 0, .int .i64 0, .string { data := #[] }, .slice none 0 0, .slice none 0 0] 26)) (by omega) (by omega) (by omega) hgr hown
        exact ⟨w.heap.size + 1 + 1 + 1, .slice ka keys.length kc, rfl, hc⟩
      · have hc := copy_b (t := (Nd.mk kind num str keys list : Nd (Tr d))) (c3 := .slice ak keys.length ck) (c4 := .slice al list.length cl) (vk := .slice ka keys.length kc) (G := w.heap.size + 1 + 1 + 1) (V := w.heap.size + 1 + 1) (bl4 w (.cells #[.int .i64 kind, .int .i64 num, .string str, .slice ak keys.length ck, .slice al list.length cl] 26) (.cells #[.int .i64 0, .int .i64 0, .string { data := #[] }, .slice none 0 0, .slice none 0 0] 26) (.cells #[.int .i64 0, .int .i64 0, .string { data := #[] }, .slice none 0 0, .slice none 0 0] 26) (.cells #[] 9)) (kA4 w (.cells #[.int .i64 kind, .int .i64 num, .string str, .slice ak keys.length ck, .slice al list.length cl] 26) (.cells #[.int .i64 0, .int .i64 0, .string { data := #[] }, .slice none 0 0, .slice none 0 0] 26) (.cells #[.int .i64 0, .int .i64 0, .string { data := #[] }, .slice none 0 0, .slice none 0 0] 26) (.cells #[] 9)) (kB4 w (.cells #[.int .i64 kind, .int .i64 num, .string str, .slice ak keys.length ck, .slice al list.length cl] 26) (.cells #[.int .i64 0, .int .i64 0, .string { data := #[] }, .slice none 0 0, .slice none 0 0] 26) (.cells #[.int .i64 0, .int .i64 0, .string { data := #[] }, .slice none 0 0, .slice none 0 0] 26) (.cells #[] 9)) (nb2 w (.cells #[.int .i64 kind, .int .i64 num, .string str, .slice ak keys.length ck, .slice al list.length cl] 26) (.cells #[.int .i64 0, .int .i64 0, .string { data := #[] }, .slice none 0 0, .slice none 0 0] 26) (.cells #[.int .i64 0, .int .i64 0, .string { data := #[] }, .slice none 0 0, .slice none 0 0] 26) (.cells #[] 9)) (by omega) (by omega) (by omega) hgr hown
        exact ⟨w.heap.size + 1 + 1, .slice ka keys.length kc, rfl, hc⟩
    case rest =>
      obtain ⟨b, vk, rfl, hca⟩ := hcut
      have hbw := hca.out.below
      have hab := hca.out.above
      have hTO : Hid (CopyTo (d := d) wc wc (Nd.mk kind num str keys list) b vk (.slice none 0 0) 0 [] (fun _ _ => False)) := ⟨hca.out.out, ValsTo.start _ _ _, But.refl _ _⟩
      obtain ⟨ka, kc, rfl, hkn⟩ := hca.out.keys.open'
      go_wp2_with fail
      go_loopw [4] (fun i wr => ∃ (k : Nat) (lv : Value) (vs : List Value) (P : Nat → Nat → Prop), k ≤ list.length ∧ i = .int .i64 (k : Int) ∧ Hid (CopyTo (d := d) wc wr (Nd.mk kind num str keys list) b (.slice ka keys.length kc) lv k vs P)) (fun i _ => list.length - (intOf i).toNat)
      case atStart => exact ⟨0, _, [], _, Nat.zero_le _, rfl, hTO⟩
      case round =>
        clear hTO
        obtain ⟨k, lv, vs, P, hkk, rfl, hto⟩ := hrel
        have hbu := hto.out.but
        have hrb : Below w.heap.size w wr := ⟨hbu.os.trans hbw.os, hbu.tape.trans hbw.tape, hbu.output.trans hbw.output, Nat.le_trans hbw.size hbu.size, fun j hj => (hbu.block j (Nat.lt_of_lt_of_le hj hbw.size) (fun e => by cases e; omega)).trans (hbw.block j hj)⟩
        have kbox := hca.out.box.of_block (hbu.block _ hca.out.box.lt (fun e => by cases e; omega))
        obtain ⟨x0, x1, x2, x3, x4⟩ := kbox.cell
        by_cases hkl : k < list.length
        · obtain ⟨eb, eo, x, c0, c1, c2, c3, c4, rfl, heS, hx, e0, e1, e2, e3, e4, hval⟩ := (hl.same (hS.same hrb)).cell hkl
          obtain ⟨q0, q1, q2, q3, q4, q5, q6, q7, q8, hq⟩ := hval.shape
          cases hq
          have hwx : (wtT d x : Int) ≤ 4194304 := by
            have := wt_mem (d := d) hx
            omega
          obtain ⟨la, ln, lc, rfl⟩ := row_slice hto.out.vals.own
          obtain ⟨y0, y1, y2, y3, y4⟩ := hto.out.out.cell
          have yf := hto.out.out.frozen 4
          have hki : (k : Int) < (list.length : Int) := by omega
          have hbl := hto.out.out.lt
          have hWr := hS.later hrb.size
          have HX := hide hx
          have hNs : wc.heap.size ≤ wr.heap.size := hbu.size
          have hebl := hS eb heS
          clear hx
          have hcall := hide (ih S x _ wr.drew (hval.same (fun _ _ => rfl)) hWr hwx)
          have hnb : ∀ g, (Value.slice la ln lc).ownBlock = some g → wc.heap.size ≤ g := fun g hg => (hto.out.vals.own.lt g hg).1
          have hbc : b < wc.heap.size := hca.out.out.lt
          obtain ⟨i0, hi, hz0, hz1, hz2⟩ := info_parts Tryz.infoVal
          have HB1 := hide hto.out.vals
          go_wp2_with fail
          go_region_law (first
            | (refine step_call_run _ 57 _ (by rfl) (by go_simp) hcall.out ?_; rintro u w1 ⟨hu, hb1⟩; obtain ⟨u0', u1', u2', u3', u4', u5', u6', u7', u8', rfl⟩ := (ValOwn.at d _ _ _ hu).shape; have hblt : b < w1.heap.size := Nat.lt_of_lt_of_le hbl hb1.size; have yb1 : Blk5 w1 b 26 (.int .i64 kind) (.int .i64 num) (.string str) (.slice ka keys.length kc) (.slice la ln lc) := hto.out.out.of_block (hb1.block b hbl); obtain ⟨_, _, _, _, z4⟩ := yb1.cell; have z4' := fun o => ((yb1.alloc o).cell).2.2.2.2; have hown1 := hide ((hto.out.vals.own.kept (row := none) ⟨hb1.os, hb1.tape, hb1.output, hb1.size, fun i hi _ => hb1.block i hi⟩ (by cases (Value.slice la ln lc).ownBlock <;> simp)).alloc (.cells #[.int .i64 u0', .int .i64 u1', .string u2', .slice u3' u4' u5', .slice u6' u7' u8'] 26)))
            | (refine step_append_run _ (by rfl) _ _ 24 (by rfl) _ _ (by rfl) (by rfl) (run_append_own_at (P := Tryz.prog) _ wc.heap.size 24 _ 26 i0 zeroVal 5 80 Tryz.underlying24 hi hz0 hz1 hz2 rfl (by decide) _ _ _ hown1.out ⟨w1.heap.size, 0, none⟩ 1 1 [.int .i64 u0', .int .i64 u1', .string u2', .slice u3' u4' u5', .slice u6' u7' u8'] rfl (cell_five_new _ _ _ _ _ _ _) (by intro y hy; simp at hy; rcases hy with rfl | rfl | rfl | rfl | rfl <;> rfl) (by unfold maxLen; omega) (by omega) (by rw [World.size_alloc]; have h5 : wr.heap.size ≤ w1.heap.size := hb1.size; omega)) ?_; rintro v' w2 ⟨o1, o2, _, o3⟩; obtain ⟨va, vn, vc, rfl⟩ := row_slice o1; have yb2 : Blk5 w2 b 26 (.int .i64 kind) (.int .i64 num) (.string str) (.slice ka keys.length kc) (.slice la ln lc) := (yb1.alloc _).of_block (o2.block b (by rw [World.size_alloc]; omega) (fun e => by have := hnb b e.symm; omega)); obtain ⟨_, _, _, _, v4⟩ := yb2.cell; have v4f := yb2.frozen 4))
          all_goals
            have hb1' : Below wr.heap.size wr w1 := ⟨hb1.os, hb1.tape, hb1.output, hb1.size, hb1.block⟩
            have HH := hide (hto.out.step (w1 := w1) (w2 := w2) hb1' HX.out hu o1 o2 o3 hbc yb2)
            clear o1 o2 o3 hown1 hu hb1' hb1 yb1 yb2 z4 z4' hcall HB1 hto
            go_wp2_with fail
            go_roundw
            case rel =>
              obtain ⟨P', hP'⟩ := HH.out
              exact ⟨k + 1, _, _, P', by omega, by go_num, hP'⟩
            case measure => simp [intOf]; omega
        · obtain rfl : k = list.length := by omega
          have kres := hca.out.res.of_block (hbu.block _ hca.out.res.lt (fun e => by cases e; omega))
          obtain ⟨la, ln, lc, rfl⟩ := row_slice hto.out.vals.own
          obtain ⟨z0, z1, z2, z3, z4⟩ := kres.cell
          have zf := kres.frozen
          obtain ⟨y0, y1, y2, y3, y4⟩ := hto.out.out.cell
          have hend := hide (hto.out.final_own hca.out)
          clear hto hca kres kbox hl hk ih
          go_wp2_with fail
          refine bodyPost_ret (v := .agg #[.int .i64 kind, .int .i64 num, .string str, .slice ka keys.length kc, .slice la ln lc]) (by simp [results, Tryz.results57, go_sem, z0, z1, z2, z3, z4]) rfl ⟨_, _, _, _, rfl, hend.out _ rfl⟩
end Go.Proofs.YtmibjmipndffmaaGreatDoor

/- Trees of the model's, appended behind others, wherever these lie. -/
namespace Go.Proofs.YtmibjmipndffmaaGreatDoor
open Go.RowKit Go.Deep

/-- Trees of the model's, appended behind others. -/
theorem run_append_onto_valsW {d N : Nat} {S : Nat → Prop} {w : World} {lv : Value} {xs : List (Tr d)} {vs : List Value} (h : VTo S N w lv xs vs) (hSN : ∀ b, S b → b < w.heap.size ∧ some b ≠ lv.ownBlock) (hN : N ≤ w.heap.size) (ys : List (Tr d)) (al : Option Addr) (cl n : Nat) (ty : TypeId) (hn : n = ys.length) (hv : RowAt S w (ValAt S w d) (.slice al n cl) ys) (hsm : xs.length + ys.length ≤ 100000) :
    ∃ v' w', (Builtin.append_ #[24, 24] ty #[lv, .slice al n cl]).run Tryz.prog w = .ok v' w' ∧ ((∃ vs', VTo S N w' v' (xs ++ ys) vs') ∧ w.grownBy w' lv.ownBlock ∧ (∃ a c, v' = .slice a (xs.length + ys.length) c) ∧ (v'.ownBlock = lv.ownBlock ∨ v'.ownBlock = some w.heap.size)) := by
  subst hn
  obtain ⟨i0, hi, hz0, hz1, hz2⟩ := info_parts Tryz.infoV2
  have hu : Tryz.prog.underlying 24 = some (.slice 26) := Tryz.underlying24
  have hform : ∃ a c, lv = .slice a xs.length c := h.slice
  by_cases h0 : ys = []
  · subst h0
    have hsame : ∃ v' w', (Builtin.append_ #[24, 24] ty #[lv, .slice al 0 cl]).run Tryz.prog w = .ok v' w' ∧ w'.ownsRow N 26 5 v' (xs.length + 0) (vs ++ []) ∧ w.grownBy w' lv.ownBlock ∧ (v'.ownBlock = lv.ownBlock ∨ v'.ownBlock = some w.heap.size) := by
      cases al with
      | none =>
        obtain ⟨_, a', c', hv', _⟩ := hv
        cases hv'
        rcases Nat.eq_zero_or_pos cl with rfl | hcl
        · exact ⟨lv, w, run_append_none hu hi hz1 w h.1, by rw [List.append_nil]; exact h.1, ⟨rfl, rfl, rfl, Nat.le_refl _, fun _ _ _ => rfl⟩, Or.inl rfl⟩
        · refine ⟨lv, w, ?_, by rw [List.append_nil]; exact h.1, ⟨rfl, rfl, rfl, Nat.le_refl _, fun _ _ _ => rfl⟩, Or.inl rfl⟩
          rcases h.1.2 with ⟨rfl, _⟩ | ⟨g, cap, cur, rfl, _, _, hle, _⟩
          · simp [Builtin.append_, run_underlying hu, sizeOf, typeInfo, hi, Builtin.lenOf, Builtin.firstCells, Result.andThen, hz1]
          · simp [Builtin.append_, run_underlying hu, sizeOf, typeInfo, hi, Builtin.lenOf, Builtin.firstCells, storeCells, Result.andThen, hz1, hle]
      | some a =>
        obtain ⟨v', w', hr, ho, hgr, _, hat⟩ := run_append_own_at (P := Tryz.prog) w N 24 ty 26 i0 zeroVal 5 80 hu hi hz0 hz1 hz2 rfl (by decide) lv xs.length vs h.1 a 0 cl [] rfl (fun j u hj => by simp at hj) (fun u hu => by simp at hu) (by unfold maxLen; omega) (by omega) hN
        exact ⟨v', w', hr, ho, hgr, hat⟩
    obtain ⟨v', w', hr, ho, hgr, hat⟩ := hsame
    rw [List.append_nil, Nat.add_zero] at ho
    have hs : Same S w w' := fun b hb => hgr.block b (hSN b hb).1 (hSN b hb).2
    have hto : VTo S N w' v' (xs ++ []) vs := by
      rw [List.append_nil]
      exact ⟨ho, fun j x hx => by obtain ⟨c0, c1, c2, c3, c4, e0, e1, e2, e3, e4, hvx⟩ := h.2 j x hx; exact ⟨c0, c1, c2, c3, c4, e0, e1, e2, e3, e4, hvx.same hs⟩⟩
    obtain ⟨a, c, e⟩ := hto.slice
    rw [List.append_nil] at e
    exact ⟨v', w', hr, ⟨vs, hto⟩, hgr, ⟨a, c, e⟩, hat⟩
  · have hpos : 0 < ys.length := List.length_pos_iff.2 h0
    obtain ⟨b, o, _, _, _, _, _, _, rfl, hbS, _⟩ := hv.cell hpos
    have hcell : ∀ i x, ys[i]? = some x → ∃ c0 c1 c2 c3 c4, w.cell? ⟨b, o + i * 5, none⟩ = some c0 ∧ w.cell? ⟨b, o + i * 5 + 1, none⟩ = some c1 ∧ w.cell? ⟨b, o + i * 5 + 2, none⟩ = some c2 ∧ w.cell? ⟨b, o + i * 5 + 3, none⟩ = some c3 ∧ w.cell? ⟨b, o + i * 5 + 4, none⟩ = some c4 ∧ ValAt S w d x (.agg #[c0, c1, c2, c3, c4]) := by
      intro i x hx
      obtain ⟨b', o', x', c0, c1, c2, c3, c4, e', _, hx', e0, e1, e2, e3, e4, hval⟩ := hv.cell (List.getElem?_eq_some_iff.1 hx).1
      cases e'
      rw [hx] at hx'
      cases hx'
      exact ⟨c0, c1, c2, c3, c4, e0, e1, e2, e3, e4, hval⟩
    have hex : ∀ j, j < ys.length * 5 → ∃ u, w.cell? ⟨b, o + j, none⟩ = some u ∧ u.oneCell' = true := by
      intro j hj
      obtain ⟨c0, c1, c2, c3, c4, e0, e1, e2, e3, e4, hval⟩ := hcell (j / 5) _ (List.getElem?_eq_getElem (show j / 5 < ys.length by omega))
      obtain ⟨q0, q1, q2, q3, q4, q5, q6, q7, q8, hq⟩ := hval.shape
      cases hq
      rcases (by omega : j = j / 5 * 5 ∨ j = j / 5 * 5 + 1 ∨ j = j / 5 * 5 + 2 ∨ j = j / 5 * 5 + 3 ∨ j = j / 5 * 5 + 4) with e | e | e | e | e
      · exact ⟨_, by rw [e]; exact e0, rfl⟩
      · exact ⟨_, by rw [e, ← Nat.add_assoc]; exact e1, rfl⟩
      · exact ⟨_, by rw [e, ← Nat.add_assoc]; exact e2, rfl⟩
      · exact ⟨_, by rw [e, ← Nat.add_assoc]; exact e3, rfl⟩
      · exact ⟨_, by rw [e, ← Nat.add_assoc]; exact e4, rfl⟩
    obtain ⟨news, hnl, hnews⟩ : ∃ news : List Value, news.length = ys.length * 5 ∧ ∀ j, j < ys.length * 5 → ∃ u, news[j]? = some u ∧ w.cell? ⟨b, o + j, none⟩ = some u ∧ u.oneCell' = true := by
      refine ⟨(List.range (ys.length * 5)).map (fun j => (w.cell? ⟨b, o + j, none⟩).getD undef), by simp, fun j hj => ?_⟩
      obtain ⟨u, hu, h1⟩ := hex j hj
      exact ⟨u, by simp [hj, hu], hu, h1⟩
    have hone : ∀ u ∈ news, u.oneCell' = true := by
      intro u hu
      obtain ⟨j, hj⟩ := List.getElem?_of_mem hu
      have hjl := (List.getElem?_eq_some_iff.1 hj).1
      obtain ⟨u', hu', _, h1⟩ := hnews j (by omega)
      rw [hj] at hu'
      cases hu'
      exact h1
    have hadd : ∀ j, (⟨b, o, none⟩ : Addr).add j = ⟨b, o + j, none⟩ := fun j => by unfold Addr.add; split <;> simp_all
    obtain ⟨v', w', hr, ho, hgr, _, hat⟩ := run_append_own_at (P := Tryz.prog) w N 24 ty 26 i0 zeroVal 5 80 hu hi hz0 hz1 hz2 rfl (by decide) lv xs.length vs h.1 ⟨b, o, none⟩ ys.length cl news hnl
      (fun j u hj => by rw [hadd]; obtain ⟨u', h1, h2, _⟩ := hnews j (by have := (List.getElem?_eq_some_iff.1 hj).1; omega); rw [hj] at h1; cases h1; exact h2) hone (by unfold maxLen; omega) (by omega) hN
    have hsame : Same S w w' := fun c hc => hgr.block c (hSN c hc).1 (hSN c hc).2
    have hlen : vs.length = xs.length * 5 := h.1.1
    have hto : VTo S N w' v' (xs ++ ys) (vs ++ news) := by
      refine ⟨by rw [List.length_append]; exact ho, fun j x hx => ?_⟩
      by_cases e : j < xs.length
      · rw [List.getElem?_append_left e] at hx
        obtain ⟨c0, c1, c2, c3, c4, e0, e1, e2, e3, e4, hvx⟩ := h.2 j x hx
        refine ⟨c0, c1, c2, c3, c4, ?_, ?_, ?_, ?_, ?_, hvx.same hsame⟩
        · rw [List.getElem?_append_left (by omega)]; exact e0
        · rw [List.getElem?_append_left (by omega)]; exact e1
        · rw [List.getElem?_append_left (by omega)]; exact e2
        · rw [List.getElem?_append_left (by omega)]; exact e3
        · rw [List.getElem?_append_left (by omega)]; exact e4
      · rw [List.getElem?_append_right (by omega)] at hx
        obtain ⟨c0, c1, c2, c3, c4, e0, e1, e2, e3, e4, hval⟩ := hcell _ x hx
        have hjl := (List.getElem?_eq_some_iff.1 hx).1
        have hn : ∀ m c, m < 5 → w.cell? ⟨b, o + ((j - xs.length) * 5 + m), none⟩ = some c → (vs ++ news)[j * 5 + m]? = some c := fun m c hm hc => by
          rw [List.getElem?_append_right (by omega), show j * 5 + m - vs.length = (j - xs.length) * 5 + m by omega]
          obtain ⟨u, h1, h2, _⟩ := hnews ((j - xs.length) * 5 + m) (by omega)
          rw [hc] at h2
          cases h2
          exact h1
        exact ⟨c0, c1, c2, c3, c4, hn 0 _ (by omega) e0, hn 1 _ (by omega) (by rw [← Nat.add_assoc]; exact e1), hn 2 _ (by omega) (by rw [← Nat.add_assoc]; exact e2), hn 3 _ (by omega) (by rw [← Nat.add_assoc]; exact e3), hn 4 _ (by omega) (by rw [← Nat.add_assoc]; exact e4), hval.same hsame⟩
    obtain ⟨a, c, e⟩ := hto.slice
    rw [List.length_append] at e
    exact ⟨v', w', hr, ⟨_, hto⟩, hgr, ⟨a, c, e⟩, hat⟩
end Go.Proofs.YtmibjmipndffmaaGreatDoor
