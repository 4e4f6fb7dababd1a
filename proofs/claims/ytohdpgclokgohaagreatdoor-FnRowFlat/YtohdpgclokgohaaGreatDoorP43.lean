/- Texts of the proof, put together by program: WFlatS. -/
import Derived.Test.YtohdpgclokgohaaGreatDoorP30
import Derived.Test.YtohdpgclokgohaaGreatDoorP24
import Derived.Test.YtohdpgclokgohaaGreatDoorP13
/- RowFlat of the model. -/
namespace Go.Proofs.YtohdpgclokgohaaGreatDoor
open Go.RowKit Go.Deep

set_option maxRecDepth 100000 in
set_option maxHeartbeats 2000000 in
theorem specRowFlat_own (d : Nat) (S : Nat → Prop) (t : Tr (d + 2)) (v : Value) (w : World) (hv : ValAt S w (d + 2) t v) (hS : Within S w) (hsm : (nodes (d + 2) t : Int) ≤ 4194304) :
    Calls Tryz.prog 27 #[v] w (TellQ (d + 1) (rowTell (flatF d) t).1 (rowTell (flatF d) t).2 w) := by
  have hv0 := hv
  obtain ⟨vk, vl, rfl, i1, i2, i3, hk, hl⟩ := hv
  obtain ⟨ak, ck, rfl, hkl⟩ := hk.open'
  obtain ⟨al, cl, rfl, hll⟩ := hl.open'
  obtain ⟨W0, hW⟩ : ∃ W0, W0 = (w.alloc (.cells #[.int .i64 t.kind, .int .i64 t.num, .string t.str, .slice ak t.keys.length ck, .slice al t.list.length cl] 26)).alloc (.cells #[.int .i64 0, .int .i64 0, .string { data := #[] }, .slice none 0 0, .slice none 0 0] 26) := ⟨_, rfl⟩
  have hW0 : Below w.heap.size w W0 := by rw [hW]; exact below_trans (below_alloc1 _ _) (below_alloc1 _ _)
  have k0 : Blk5 W0 w.heap.size 26 (.int .i64 t.kind) (.int .i64 t.num) (.string t.str) (.slice ak t.keys.length ck) (.slice al t.list.length cl) := by
    rw [hW]; exact (Blk5.new w 26 _ _ _ _ _).alloc _
  have k1 : Blk5 W0 (w.heap.size + 1) 26 (.int .i64 0) (.int .i64 0) (.string { data := #[] }) (.slice none 0 0) (.slice none 0 0) := by
    have := Blk5.new (w.alloc (.cells #[.int .i64 t.kind, .int .i64 t.num, .string t.str, .slice ak t.keys.length ck, .slice al t.list.length cl] 26)) 26 (.int .i64 0) (.int .i64 0) (.string { data := #[] }) (.slice none 0 0) (.slice none 0 0)
    rw [World.size_alloc] at this
    rw [hW]
    exact this
  have HW := hide hW
  clear hW hk
  go_enter Tryz.func27, Tryz.ntmps27
  go_wp2_with fail
  rw [← HW.out]
  clear HW
  refine (l4Row_any (d + 1) S t _ W0 (hv0.same (hS.same hW0)) (hS.later hW0.size) hsm).mono ?_
  rintro e w1 ⟨rfl, hb1⟩
  replace k0 := k0.below hb1
  replace k1 := k1.below hb1
  have hB1 := below_trans hW0 hb1
  have hlt := k1.lt
  clear hb1 hW0 hv0
  cases hf : treesL (d + 1) t with
  | none =>
    have hz := hide (rowTell_none (f := flatF d) hf)
    have hno : Hid (∀ wF, wF = set5 w1 (w.heap.size + 1) 0 (.int .i64 0) (.int .i64 0) (.string { data := #[] }) (.slice none 0 0) (.slice none 0 0) → Below w.heap.size w wF) := by
      intro wF hF
      rw [hF]
      exact below_set5 hB1 (by omega) _ _ _ _ _ _
    obtain ⟨y0, y1, y2, y3, y4⟩ := k1.cell
    have yf := k1.frozen
    clear k0 k1 hB1
    go_wp2_with fail
    rw [hz.out]
    refine bodyPost_ret (v := .tuple #[zeroVal, .bool false]) (by simp [results, Tryz.results27, go_sem, zeroVal, y0, y1, y2, y3, y4]; rfl) rfl ⟨_, rfl, zeroVal_own (d + 1) _ _, hno.out _ rfl⟩
  | some xs =>
    obtain ⟨hok, h5, rfl⟩ := treesL_some hf
    clear h5
    have hR : Hid (rowTell (flatF d) t = (toldT (d + 1) (rowT (d + 1) (flatL d t.list)), okT (d + 2) (rowT (d + 1) (flatL d t.list)))) := rowTell_some hf rfl
    have hl60 : t.list.length ≤ 60 := (okT_kinds hok).2.1
    have hf60 : (flatL d t.list).length ≤ 60 := flat_len hok
    have hnod : (nodes (d + 2) (rowT (d + 1) (flatL d t.list)) : Int) ≤ 4194304 := nodes_row (flat_ok (fun x hx => okT_part hok hx)) (by omega)
    have hS1 : ∀ b, S b → b < w1.heap.size := hS.later hB1.size
    have hst : Hid (VTo (d := d + 1) S w1.heap.size (w1.alloc (.cells #[] 26)) (.slice (some ⟨w1.heap.size, 0, none⟩) 0 0) [] []) := VTo.start S w1
    have hbs := hide (below_alloc1 w1 (.cells #[] 26))
    obtain ⟨i0, hi, hz0, hz1, hz2⟩ := info_parts Tryz.infoV2
    obtain ⟨x0, x1, x2, x3, x4⟩ := (k0.alloc (.cells #[] 26)).cell
    clear hf hok
    go_wp2_with fail
    go_loopw [4, 5] (fun out i wr => ∃ (m n : Nat) (la : Option Addr) (lc : Nat) (vs : List Value), m ≤ t.list.length ∧ out = .slice la n lc ∧ i = .int .i64 (m : Int) ∧ n ≤ 60 ∧ Hid (n = (flatL d (t.list.take m)).length) ∧ Hid (VTo S w1.heap.size wr (.slice la n lc) (flatL d (t.list.take m)) vs) ∧ Hid (Below w1.heap.size w1 wr)) (fun _ i _ => t.list.length - (intOf i).toNat)
    case atStart => exact ⟨0, 0, _, _, [], Nat.zero_le _, rfl, rfl, Nat.zero_le _, rfl, hst, hbs⟩
    case round =>
      clear hst hbs x0 x1 x2 x3 x4
      obtain ⟨m, n, la, lc, vs, hm, rfl, rfl, hn60, hlen, hto, hbr⟩ := hrel
      have hsz := hbr.out.size
      have kbox := k0.below hbr.out
      obtain ⟨x0, x1, x2, x3, x4⟩ := kbox.cell
      by_cases hmt : m < t.list.length
      · have hmi : (m : Int) < (t.list.length : Int) := by omega
        obtain ⟨b, o, x, c0, c1, c2, c3, c4, rfl, hbS, hx, e0, e1, e2, e3, e4, hval⟩ := (hl.same (hS.same (below_trans hB1 hbr.out))).cell hmt
        obtain ⟨q0, q1, q2, q3, q4, q5, q6, q7, q8, hq⟩ := hval.shape
        cases hq
        obtain ⟨rfl, rfl, hin⟩ := hval.parts
        have hstp := hide (flatL_step (d := d) hx)
        have hle := hide (flat_take (d := d) t.list (m + 1))
        by_cases h5 : Nd.kind x = 5
        · have h5b : (Nd.kind x == 5) = true := by rw [h5]; rfl
          have hup := hin.up (At' := ValAt S wr (d + 1)) (up d) (fun y u hy => ValAt.up d y u hy)
          have hone := hide (flat1_row (d := d) h5)
          have hsm2 : (flatL d (t.list.take m)).length + ((Nd.list x).map (up d)).length ≤ 60 := by
            have h1 := hle.out
            rw [hstp.out, hone.out, List.length_append] at h1
            omega
          have hrun := hide (fun ty => run_append_onto_vals hto.out hS1 hsz ((Nd.list x).map (up d)) q6 q8 (Nd.list x).length ty (by rw [List.length_map]) hup (by omega))
          have hstep : Hid (∀ ty, ∃ v' w', (Builtin.append_ #[24, 24] ty #[.slice la n lc, .slice q6 (Nd.list x).length q8]).run Tryz.prog wr = .ok v' w' ∧ Hid (∃ n' a c vs', v' = .slice a n' c ∧ n' ≤ 60 ∧ n' = (flatL d (t.list.take (m + 1))).length ∧ VTo S w1.heap.size w' v' (flatL d (t.list.take (m + 1))) vs' ∧ Below w1.heap.size w1 w')) := by
            intro ty
            obtain ⟨lv', w2, hr, ⟨vs', hv'⟩, hgr, a, c, e⟩ := hrun.out ty
            have hrow := fun g hg => (hto.out.1.lt g hg).1
            refine ⟨lv', w2, hr, _, a, c, vs', e, by omega, ?_, ?_, ?_⟩
            · rw [hstp.out, hone.out, List.length_append]
            · rw [hstp.out, hone.out]; exact hv'
            · exact ⟨hgr.os.trans hbr.out.os, hgr.tape.trans hbr.out.tape, hgr.output.trans hbr.out.output, Nat.le_trans hbr.out.size hgr.size, fun b hb => (hgr.block b (by omega) (fun e => by have := hrow b e.symm; omega)).trans (hbr.out.block b hb)⟩
          clear hto hbr hval hx kbox hup hin hstp hle hone hsm2 hlen hrun hi hz0 hz1 hz2 hS1 hnod hR h5b
          rw [h5] at e0
          clear h5
          go_wp2_with (at_builtin; refine wpList_append_run (fun v' w' => Hid (∃ n' a c vs', v' = .slice a n' c ∧ n' ≤ 60 ∧ n' = (flatL d (t.list.take (m + 1))).length ∧ VTo S w1.heap.size w' v' (flatL d (t.list.take (m + 1))) vs' ∧ Below w1.heap.size w1 w')) rfl _ _ 24 rfl (.slice la n lc) (.slice q6 (Nd.list x).length q8) rfl rfl (hstep.out 24) ?_)
          rintro v' w2 hph
          obtain ⟨n', ⟨a, c, rfl⟩, hn', g2, ⟨vs', g3⟩, g4⟩ := hph.out
          have hl' := hide g2
          have hV := hide g3
          have hB' := hide g4
          clear hph hstep g2 g3 g4
          go_wp2_with fail
          go_roundw
          case rel => exact ⟨m + 1, n', a, c, vs', by omega, rfl, by go_num, hn', hl', hV, hB'⟩
          case measure => simp [intOf]; omega
        · have h5b : (Nd.kind x == 5) = false := by simp [h5]
          have hone := hide (flat1_one (d := d) h5)
          have hsm2 : n + 1 ≤ 60 := by
            have h1 := hle.out
            rw [hstp.out, hone.out, List.length_append, List.length_singleton, ← hlen.out] at h1
            omega
          have hown := hto.out.1
          rw [← hlen.out] at hown
          have HO := hide (hown.alloc (.cells #[.int .i64 (Nd.kind x), .int .i64 q1, .string q2, .slice q3 q4 q5, .slice q6 (Nd.list x).length q8] 26))
          have hstep : Hid (∀ lv' w2, w2.ownsRow w1.heap.size 26 5 lv' (n + 1) (vs ++ [.int .i64 (Nd.kind x), .int .i64 q1, .string q2, .slice q3 q4 q5, .slice q6 (Nd.list x).length q8]) → (wr.alloc (.cells #[.int .i64 (Nd.kind x), .int .i64 q1, .string q2, .slice q3 q4 q5, .slice q6 (Nd.list x).length q8] 26)).grownBy w2 (Value.slice la n lc).ownBlock →
              ∃ a c, lv' = .slice a (n + 1) c ∧ n + 1 = (flatL d (t.list.take (m + 1))).length ∧ VTo S w1.heap.size w2 lv' (flatL d (t.list.take (m + 1))) (vs ++ [.int .i64 (Nd.kind x), .int .i64 q1, .string q2, .slice q3 q4 q5, .slice q6 (Nd.list x).length q8]) ∧ Below w1.heap.size w1 w2) := by
            intro lv' w2 o1 o2
            have hp := hto.out.push hS1 hsz hbr.out hval (by rw [← hlen.out]; exact o1) o2
            have heq : flatL d (t.list.take m) ++ [x] = flatL d (t.list.take (m + 1)) := by rw [hstp.out, hone.out]
            rw [heq] at hp
            have hl1 : n + 1 = (flatL d (t.list.take (m + 1))).length := by rw [← heq, List.length_append, List.length_singleton, ← hlen.out]
            obtain ⟨a, c, e⟩ := hp.1.slice
            rw [← hl1] at e
            exact ⟨a, c, e, hl1, hp.1, hp.2.1⟩
          have hsw : w1.heap.size ≤ wr.heap.size := hsz
          clear hto hbr hown hval hx kbox hin hstp hle hone hlen
          go_wp2_with (at_builtin; refine wpList_append_own_at _ rfl _ _ 24 rfl w1.heap.size 26 i0 zeroVal 5 80 Tryz.underlying24 hi hz0 hz1 hz2 rfl (by decide) _ _ _ rfl HO.out ⟨wr.heap.size, 0, none⟩ 1 1 [.int .i64 (Nd.kind x), .int .i64 q1, .string q2, .slice q3 q4 q5, .slice q6 (Nd.list x).length q8] rfl rfl (cell_five_new _ _ _ _ _ _ _) ?c2 ?c3 ?c4 ?c5 ?_)
          case c2 => intro y hy; simp at hy; rcases hy with rfl | rfl | rfl | rfl | rfl <;> rfl
          case c3 => unfold maxLen; omega
          case c4 => omega
          case c5 => simp; omega
          · intro lv' w2 o1 o2 _ o3
            have HH := hide (hstep.out lv' w2 o1 o2)
            clear o1 o2 o3 hstep HO
            obtain ⟨a, c, rfl, hl1, hv2, hb2⟩ := HH.out
            have HL := hide hl1
            have HV := hide hv2
            have HB2 := hide hb2
            clear HH hv2 hb2 hl1 hi hz0 hz1 hz2
            go_wp2_with fail
            go_roundw
            case rel => exact ⟨m + 1, n + 1, a, c, _, by omega, rfl, by go_num, hsm2, HL, HV, HB2⟩
            case measure => simp [intOf]; omega
      · obtain rfl : m = t.list.length := by omega
        have hall : t.list.take t.list.length = t.list := List.take_of_length_le (Nat.le_refl _)
        have hto' := hto.out
        rw [hall] at hto'
        have HTO := hide hto'
        have kres := k1.below hbr.out
        have hB2 := below_trans hB1 hbr.out
        clear hto hto' hall kbox x0 x1 x2 x3 hi hz0 hz1 hz2 k0 k1 hlt hlen
        go_wp2_with fail
        refine (l4Of_any _ _ _ wr).mono ?_
        rintro e w3 ⟨rfl, hb3⟩
        have hB3 := below_trans hB2 hb3
        have hrow := rowV_at HTO.out (by omega) hb3 (fun b hb => Nat.lt_of_lt_of_le (hS1 b hb) hsz)
        have k3 := kres.below hb3
        have hWU3 : Within (fun b => S b ∨ (w1.heap.size ≤ b ∧ b < w3.heap.size)) w3 := fun b hb => by
          rcases hb with hb | hb
          · exact hS.later hB3.size b hb
          · exact hb.2
        have hcall2 := hide (l2Told_own (d + 1) _ _ _ w3 hrow hWU3 hnod)
        have hlt3 : w.heap.size + 1 < w3.heap.size := k3.lt
        clear hrow hWU3 hb3 HTO hbr kres hB2 hl
        go_wp2_with fail
        refine Calls.mono hcall2.out ?_
        rintro e w4 ⟨r, rfl, hr, hb4⟩
        obtain ⟨r0, r1, r2, r3, r4, r5, r6, r7, r8, rfl⟩ := (ValOwn.at _ _ _ _ hr).shape
        have HF := hide (tell_end hr (below_trans hB3 hb4) (by omega) hlt3)
        have k4 := k3.below hb4
        obtain ⟨y0, y1, y2, y3, y4⟩ := k4.cell
        have yf := k4.frozen
        clear hr hb4 k3 k4 hcall2 hB3
        go_wp2_with fail
        rw [hR.out]
        exact bodyPost_ret (v := .tuple #[.agg #[.int .i64 r0, .int .i64 r1, .string r2, .slice r3 r4 r5, .slice r6 r7 r8], .bool (okT (d + 2) (rowT (d + 1) (flatL d t.list)))]) (by simp [results, Tryz.results27, go_sem, y0, y1, y2, y3, y4]) rfl ⟨_, rfl, (HF.out _ rfl).1, (HF.out _ rfl).2⟩
theorem specRowFlat_any (d : Nat) (S : Nat → Prop) (t : Tr (d + 2)) (v : Value) (w : World) (hv : ValAt S w (d + 2) t v) (hS : Within S w) (hsm : (nodes (d + 2) t : Int) ≤ 4194304) :
    Calls Tryz.prog 27 #[v] w (SpecQ (d + 1) (rowTell (flatF d) t).1 (rowTell (flatF d) t).2 w) :=
  (specRowFlat_own d S t v w hv hS hsm).mono (fun _ _ h => by obtain ⟨v, he, hv, hb⟩ := h; exact ⟨v, he, ValOwn.at _ _ _ _ hv, hb⟩)
end Go.Proofs.YtohdpgclokgohaaGreatDoor
