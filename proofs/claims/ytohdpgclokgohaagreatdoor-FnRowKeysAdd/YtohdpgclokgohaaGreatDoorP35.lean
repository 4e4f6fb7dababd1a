/- Texts of the proof, put together by program: WPairS. -/
import Derived.Test.YtohdpgclokgohaaGreatDoorP34
import Derived.Test.YtohdpgclokgohaaGreatDoorP24
import Derived.Test.YtohdpgclokgohaaGreatDoorP13
/- RowPairs of the model. -/
namespace Go.Proofs.YtohdpgclokgohaaGreatDoor
open Go.RowKit Go.Deep

set_option maxRecDepth 100000 in
set_option maxHeartbeats 8000000 in
theorem specRowPairs_own (d : Nat) (S : Nat → Prop) (t : Tr (d + 2)) (v : Value) (w : World) (hv : ValAt S w (d + 2) t v) (hS : Within S w) (hsm : (nodes (d + 2) t : Int) ≤ 4194304) :
    Calls Tryz.prog 17 #[v] w (TellQ (d + 2) (pairsR d t).1 (pairsR d t).2 w) := by
  have hv0 := hv
  obtain ⟨vk, vl, rfl, i1, i2, i3, hk, hl⟩ := hv
  obtain ⟨ak, ck, rfl, hkl⟩ := hk.open'
  obtain ⟨al, cl, rfl, hll⟩ := hl.open'
  obtain ⟨W0, hW⟩ : ∃ W0, W0 = (w.alloc (.cells #[.int .i64 t.kind, .int .i64 t.num, .string t.str, .slice ak t.keys.length ck, .slice al t.list.length cl] 26)).alloc (.cells #[.int .i64 0, .int .i64 0, .string { data := #[] }, .slice none 0 0, .slice none 0 0] 26) := ⟨_, rfl⟩
  have hW0 : Below w.heap.size w W0 := by rw [hW]; exact below_trans (below_alloc1 _ _) (below_alloc1 _ _)
  have k0 : Blk5 W0 w.heap.size 26 (.int .i64 t.kind) (.int .i64 t.num) (.string t.str) (.slice ak t.keys.length ck) (.slice al t.list.length cl) := by
    rw [hW]; exact (Blk5.new w 26 _ _ _ _ _).alloc _
  have k1 : Blk5 W0 (w.heap.size + 1) 26 (.int .i64 0) (.int .i64 0) (.string { data := #[] }) (.slice none 0 0) (.slice none 0 0) := by
    have := Blk5.new (w.alloc (.cells #[.int .i64 t.kind, .int .i64 t.num, .string t.str, .slice ak t.keys.length ck, .slice al t.list.length cl] 26)) 26 (.int .i64 0) (.int .i64 0) (.string { data := #[] }) (.slice none 0 0) (.slice none 0 0)
    rw [World.size_alloc] at this
    rw [hW]
    exact this
  have HW := hide hW
  clear hW
  go_enter Tryz.func17, Tryz.ntmps17
  go_wp2_with fail
  rw [← HW.out]
  clear HW
  refine (specValOk_any (d + 2) S t _ W0 (hv0.same (hS.same hW0)) (hS.later hW0.size) hsm).mono ?_
  rintro e w1 ⟨rfl, hb1⟩
  replace k0 := k0.below hb1
  replace k1 := k1.below hb1
  have hB1 := below_trans hW0 hb1
  have hlt := k1.lt
  have hno : ∀ wn, Below w.heap.size w wn → Hid (∀ wF, wF = set5 wn (w.heap.size + 1) 0 (.int .i64 0) (.int .i64 0) (.string { data := #[] }) (.slice none 0 0) (.slice none 0 0) → Below w.heap.size w wF) := by
    intro wn hn wF hF
    rw [hF]
    exact below_set5 hn (by omega) _ _ _ _ _ _
  clear hb1 hW0 hv0
  cases hok : okT (d + 2) t with
  | false =>
    have hz := hide (pairsR_no (t := t) (fun h => by rw [hok] at h; cases h.1))
    have HN := hno w1 hB1
    obtain ⟨y0, y1, y2, y3, y4⟩ := k1.cell
    have yf := k1.frozen
    clear k0 k1 hB1 hno
    go_wp2_with fail
    rw [hz.out]
    refine bodyPost_ret (v := .tuple #[zeroVal, .bool false]) (by simp [results, Tryz.results17, go_sem, zeroVal, y0, y1, y2, y3, y4]; rfl) rfl ⟨_, rfl, zeroVal_own (d + 2) _ _, HN.out _ rfl⟩
  | true =>
  obtain ⟨x0, x1, x2, x3, x4⟩ := k0.cell
  by_cases h6 : t.kind = 6
  · have q6 : (t.kind != 6) = false := by simp [h6]
    have hR := hide (pairsR_does hok h6)
    obtain ⟨hkx, hkb⟩ := okT_keysOk hok h6
    replace hkx : t.keys.length = t.list.length := hkx
    have hl60 : t.list.length ≤ 60 := (okT_kinds hok).2.1
    have hk60 : t.keys.length ≤ 60 := by omega
    have hnod := nodes_pairs hok
    have hS1 : ∀ b, S b → b < w1.heap.size := hS.later hB1.size
    have hst : Hid (PTo (d := d + 2) S w1.heap.size (w1.alloc (.cells #[] 26)) (.slice (some ⟨w1.heap.size, 0, none⟩) 0 0) [] []) := PTo.start S w1
    have hbs := hide (below_alloc1 w1 (.cells #[] 26))
    have HK := hide hkx
    obtain ⟨i0, hi', hz0, hz1, hz2⟩ := info_parts Tryz.infoV2
    have hi := hide hi'
    obtain ⟨y0, y1, y2, y3, y4⟩ := (k0.alloc (.cells #[] 26)).cell
    clear hok h6 hkx hkb hi' hno
    go_wp2_with fail
    go_loopw [4, 5] (fun out i wr => ∃ (m : Nat) (la : Option Addr) (lc : Nat) (vs : List Value), m ≤ t.keys.length ∧ out = .slice la m lc ∧ i = .int .i64 (m : Int) ∧ Hid (PTo S w1.heap.size wr (.slice la m lc) ((pairsL d t).take m) vs) ∧ Hid (Below w1.heap.size w1 wr)) (fun _ i _ => t.keys.length - (intOf i).toNat)
    case atStart => exact ⟨0, _, _, [], Nat.zero_le _, rfl, rfl, hst, hbs⟩
    case round =>
      clear hst hbs y0 y1 y2 y3 y4 x0 x1 x2 x3 x4
      obtain ⟨m, la, lc, vs, hm, rfl, rfl, hto, hbr⟩ := hrel
      have hsz := hbr.out.size
      have kbox := k0.below hbr.out
      have hpl : Hid ((pairsL d t).length = t.keys.length) := by
        show (pairsL d t).length = _
        unfold pairsL
        rw [List.length_map, List.length_zip]
        have := HK.out
        omega
      have hlen : Hid (((pairsL d t).take m).length = m) := by
        show ((pairsL d t).take m).length = m
        rw [List.length_take, hpl.out]
        omega
      obtain ⟨x0, x1, x2, x3, x4⟩ := kbox.cell
      by_cases hmt : m < t.keys.length
      · have hmi : (m : Int) < (t.keys.length : Int) := by omega
        have hml : m < t.list.length := by have := HK.out; omega
        have hmi2 : (m : Int) < (t.list.length : Int) := by omega
        obtain ⟨eb, eo, s, rfl, heS, hs, hssz, e0⟩ := (hk.same (hS.same (below_trans hB1 hbr.out))).cell hmt
        obtain ⟨fb, fo, x, c0, c1, c2, c3, c4, rfl, hfS, hx, f0, f1, f2, f3, f4, hval⟩ := (hl.same (hS.same (below_trans hB1 hbr.out))).cell hml
        obtain ⟨q0, q1, q2, q3, q4, q5, q6', q7, q8, hq⟩ := hval.shape
        cases hq
        have hstp : Hid ((pairsL d t).take (m + 1) = (pairsL d t).take m ++ [pairT d (s, x)]) := pairs_step hs hx
        have hpb := below_alloc1 wr (.cells #[.int .i64 4, .int .i64 0, .string s, .slice none 0 0, .slice none 0 0, .int .i64 q0, .int .i64 q1, .string q2, .slice q3 q4 q5, .slice q6' q7 q8] 26)
        have hcall : Hid (Calls Tryz.prog 43 #[.slice (some ⟨wr.heap.size, 0, none⟩) 2 2] (wr.alloc (.cells #[.int .i64 4, .int .i64 0, .string s, .slice none 0 0, .slice none 0 0, .int .i64 q0, .int .i64 q1, .string q2, .slice q3 q4 q5, .slice q6' q7 q8] 26)).drew fun e w' => ∃ v, e = .returned v ∧ (v = .agg #[.int .i64 5, .int .i64 0, .string ByteArray.empty, .slice none 0 0, .slice (some ⟨wr.heap.size, 0, none⟩) 2 2] ∧ Below (wr.alloc (.cells #[.int .i64 4, .int .i64 0, .string s, .slice none 0 0, .slice none 0 0, .int .i64 q0, .int .i64 q1, .string q2, .slice q3 q4 q5, .slice q6' q7 q8] 26)).heap.size (wr.alloc (.cells #[.int .i64 4, .int .i64 0, .string s, .slice none 0 0, .slice none 0 0, .int .i64 q0, .int .i64 q1, .string q2, .slice q3 q4 q5, .slice q6' q7 q8] 26)) w')) := (l4Of_any (some ⟨wr.heap.size, 0, none⟩) 2 2 (wr.alloc (.cells #[.int .i64 4, .int .i64 0, .string s, .slice none 0 0, .slice none 0 0, .int .i64 q0, .int .i64 q1, .string q2, .slice q3 q4 q5, .slice q6' q7 q8] 26)).drew).mono (fun e w' h => ⟨_, h.1, rfl, ⟨h.2.os, h.2.tape, h.2.output, h.2.size, h.2.block⟩⟩)
        have hebl : eb < wr.heap.size := Nat.lt_of_lt_of_le (hS1 eb heS) hsz
        have hfbl : fb < wr.heap.size := Nat.lt_of_lt_of_le (hS1 fb hfS) hsz
        have hpair : Hid (∀ w2, Below (wr.alloc (.cells #[.int .i64 4, .int .i64 0, .string s, .slice none 0 0, .slice none 0 0, .int .i64 q0, .int .i64 q1, .string q2, .slice q3 q4 q5, .slice q6' q7 q8] 26)).heap.size (wr.alloc (.cells #[.int .i64 4, .int .i64 0, .string s, .slice none 0 0, .slice none 0 0, .int .i64 q0, .int .i64 q1, .string q2, .slice q3 q4 q5, .slice q6' q7 q8] 26)) w2 → ValAt (fun b => S b ∨ (wr.heap.size ≤ b ∧ b < w2.heap.size)) w2 (d + 2) (pairT d (s, x)) (.agg #[.int .i64 5, .int .i64 0, .string ByteArray.empty, .slice none 0 0, .slice (some ⟨wr.heap.size, 0, none⟩) 2 2])) := by
          intro w2 hb2
          have hsz2 := hb2.size
          have hblk : w2.heap[wr.heap.size]? = some (.cells #[.int .i64 4, .int .i64 0, .string s, .slice none 0 0, .slice none 0 0, .int .i64 q0, .int .i64 q1, .string q2, .slice q3 q4 q5, .slice q6' q7 q8] 26 (0, 0)) := (hb2.block _ (by simp)).trans (heap_alloc_new wr _)
          have hlt2 : wr.heap.size < w2.heap.size := Nat.lt_of_lt_of_le (by simp) hsz2
          have hcell : ∀ (j : Nat) (u : Value), ([.int .i64 4, .int .i64 0, .string s, .slice none 0 0, .slice none 0 0, .int .i64 q0, .int .i64 q1, .string q2, .slice q3 q4 q5, .slice q6' q7 q8] : List Value)[j]? = some u → w2.cell? ⟨wr.heap.size, j, none⟩ = some u := fun j u hj => by
            have : (#[.int .i64 4, .int .i64 0, .string s, .slice none 0 0, .slice none 0 0, .int .i64 q0, .int .i64 q1, .string q2, .slice q3 q4 q5, .slice q6' q7 q8] : Array Value)[j]? = some u := by rw [List.getElem?_toArray]; exact hj
            simp [World.cell?, hblk, this]
          have hxv : ValAt (fun b => S b ∨ (wr.heap.size ≤ b ∧ b < w2.heap.size)) w2 (d + 1) x (.agg #[.int .i64 q0, .int .i64 q1, .string q2, .slice q3 q4 q5, .slice q6' q7 q8]) :=
            ValAt.moved (fun b hb => (hb2.block b (by simp; have := hS1 b hb; omega)).trans (Below.heap_alloc _ _ _ (by have := hS1 b hb; omega))) (fun b hb => Or.inl hb) _ _ _ hval
          have htx : ValAt (fun b => S b ∨ (wr.heap.size ≤ b ∧ b < w2.heap.size)) w2 (d + 1) (textT d s) (.agg #[.int .i64 4, .int .i64 0, .string s, .slice none 0 0, .slice none 0 0]) :=
            ⟨_, _, rfl, ⟨by show _ ≤ (4 : Int); omega, by show (4 : Int) ≤ _; omega⟩, ⟨by show _ ≤ (0 : Int); omega, by show (0 : Int) ≤ _; omega⟩, hssz, ⟨by show (0 : Nat) < _; omega, (fun s hs => by cases hs), none, 0, rfl, Or.inl rfl⟩, ⟨by show (0 : Nat) < _; omega, none, 0, rfl, Or.inl rfl⟩⟩
          refine ⟨_, _, rfl, ⟨by show _ ≤ (5 : Int); omega, by show (5 : Int) ≤ _; omega⟩, ⟨by show _ ≤ (0 : Int); omega, by show (0 : Int) ≤ _; omega⟩, by show (0 : Nat) < _; omega, ⟨by show (0 : Nat) < _; omega, (fun s hs => by cases hs), none, 0, rfl, Or.inl rfl⟩, ⟨by show (2 : Nat) < _; omega, some ⟨wr.heap.size, 0, none⟩, 2, rfl, Or.inr ⟨wr.heap.size, 0, Or.inr ⟨Nat.le_refl _, hlt2⟩, rfl, fun i y hy => ?_⟩⟩⟩
          match i, hy with
          | 0, hy => cases hy; exact ⟨_, _, _, _, _, hcell 0 _ rfl, hcell 1 _ rfl, hcell 2 _ rfl, hcell 3 _ rfl, hcell 4 _ rfl, htx⟩
          | 1, hy => cases hy; exact ⟨_, _, _, _, _, hcell 5 _ rfl, hcell 6 _ rfl, hcell 7 _ rfl, hcell 8 _ rfl, hcell 9 _ rfl, hxv⟩
          | i + 2, hy => simp [pairT, rowT] at hy
        have hown := hto.out.1
        rw [hlen.out] at hown
        have hlt' := hown.lt
        clear hx hval hs
        go_wp2_with fail
        go_region_law (first
          | (refine step_call_run _ 43 _ (by rfl) (by go_simp) hcall.out ?_; rintro u w2 ⟨rfl, hb2⟩; have hown1 := hide ((hown.kept (row := none) ⟨(below_trans hpb hb2).os, (below_trans hpb hb2).tape, (below_trans hpb hb2).output, (below_trans hpb hb2).size, fun i hi _ => (below_trans hpb hb2).block i hi⟩ (by cases (Value.slice la m lc).ownBlock <;> simp)).alloc (.cells #[.int .i64 5, .int .i64 0, .string ByteArray.empty, .slice none 0 0, .slice (some ⟨wr.heap.size, 0, none⟩) 2 2] 26)))
          | (refine step_append_run _ (by rfl) _ _ 24 (by rfl) _ _ (by rfl) (by rfl) (run_append_own_at (P := Tryz.prog) _ w1.heap.size 24 _ 26 i0 zeroVal 5 80 Tryz.underlying24 hi.out hz0 hz1 hz2 rfl (by decide) _ _ _ hown1.out ⟨w2.heap.size, 0, none⟩ 1 1 [.int .i64 5, .int .i64 0, .string ByteArray.empty, .slice none 0 0, .slice (some ⟨wr.heap.size, 0, none⟩) 2 2] rfl (cell_five_new _ _ _ _ _ _ _) (by intro y hy; simp at hy; rcases hy with rfl | rfl | rfl | rfl | rfl <;> rfl) (by unfold maxLen; omega) (by omega) (by rw [World.size_alloc]; have h5 := (below_trans hpb hb2).size; omega)) ?_; rintro v' w3 ⟨o1, o2, _, o3⟩; obtain ⟨va, vn, vc, rfl⟩ := row_slice o1))
        all_goals
          have hb1' : Below wr.heap.size wr w2 := below_trans hpb hb2
          have hp := hto.out.push hS1 hsz hbr.out hb1' (hpair.out w2 hb2) (by rw [hlen.out]; exact o1) o2 o3
          rw [← hstp.out] at hp
          obtain ⟨a', c', e'⟩ := hp.1.slice
          have hvn : vn = m + 1 := by
            have h1 : ((pairsL d t).take (m + 1)).length = m + 1 := by rw [List.length_take, hpl.out]; omega
            simp only [Value.slice.injEq] at e'
            rw [e'.2.1, h1]
          clear e'
          subst hvn
          have HP := hide hp.1
          have HB2 := hide hp.2
          clear hp hb1' o1 o2 o3 hown1 hpair hcall hto hbr hstp hlen hpl hown kbox hpb hb2 hlt'
          go_wp2_with fail
          go_roundw
          case rel => exact ⟨m + 1, va, vc, _, by omega, rfl, by go_num, HP, HB2⟩
          case measure => simp [intOf]; omega
      · obtain rfl : m = t.keys.length := by omega
        have hall : (pairsL d t).take t.keys.length = pairsL d t := List.take_of_length_le (by rw [hpl.out]; exact Nat.le_refl _)
        have hto' := hto.out
        rw [hall] at hto'
        have HTO := hide hto'
        have kres := k1.below hbr.out
        have hB2 := below_trans hB1 hbr.out
        have hpl60 : (pairsL d t).length ≤ 60 := by have := hpl.out; omega
        clear hto hto' hall kbox hi hz0 hz1 hz2 k0 k1 hlt hlen hpl
        go_wp2_with fail
        refine (l4Of_any _ _ _ wr).mono ?_
        rintro e w3 ⟨rfl, hb3⟩
        have hB3 := below_trans hB2 hb3
        have hrow := HTO.out.tree (by omega) hb3 (fun b hb => Nat.lt_of_lt_of_le (hS1 b hb) hsz)
        have k3 := kres.below hb3
        have hWU3 : Within (fun b => S b ∨ (w1.heap.size ≤ b ∧ b < w3.heap.size)) w3 := fun b hb => by
          rcases hb with hb | hb
          · exact hS.later hB3.size b hb
          · exact hb.2
        have hcall2 := hide (l2Told_own (d + 2) _ _ _ w3 hrow hWU3 hnod)
        have hlt3 : w.heap.size + 1 < w3.heap.size := k3.lt
        clear hrow hWU3 hb3 HTO hbr kres hB2 hl hk
        go_wp2_with fail
        refine Calls.mono hcall2.out ?_
        rintro e w4 ⟨r, rfl, hr, hb4⟩
        obtain ⟨r0, r1, r2, r3, r4, r5, r6, r7, r8, rfl⟩ := (ValOwn.at _ _ _ _ hr).shape
        have HF := hide (tell_end hr (below_trans hB3 hb4) (by omega) hlt3)
        have k4 := k3.below hb4
        obtain ⟨y0, y1, y2, y3, y4⟩ := k4.cell
        have yf := k4.frozen
        clear hr hb4 k3 k4 hcall2 hB3
        go_wp2_with fail
        rw [hR.out]
        exact bodyPost_ret (v := .tuple #[.agg #[.int .i64 r0, .int .i64 r1, .string r2, .slice r3 r4 r5, .slice r6 r7 r8], .bool (okT (d + 3) (rowT (d + 2) (pairsL d t)))]) (by simp [results, Tryz.results17, go_sem, y0, y1, y2, y3, y4]) rfl ⟨_, rfl, (HF.out _ rfl).1, (HF.out _ rfl).2⟩
  · have q6 : (t.kind != 6) = true := by simp [h6]
    have hz := hide (pairsR_no (t := t) (fun h => h6 h.2))
    have HN := hno w1 hB1
    obtain ⟨y0, y1, y2, y3, y4⟩ := k1.cell
    have yf := k1.frozen
    clear k0 k1 hB1 hno h6
    go_wp2_with fail
    rw [hz.out]
    refine bodyPost_ret (v := .tuple #[zeroVal, .bool false]) (by simp [results, Tryz.results17, go_sem, zeroVal, y0, y1, y2, y3, y4]; rfl) rfl ⟨_, rfl, zeroVal_own (d + 2) _ _, HN.out _ rfl⟩
theorem specRowPairs_any (d : Nat) (S : Nat → Prop) (t : Tr (d + 2)) (v : Value) (w : World) (hv : ValAt S w (d + 2) t v) (hS : Within S w) (hsm : (nodes (d + 2) t : Int) ≤ 4194304) :
    Calls Tryz.prog 17 #[v] w (SpecQ (d + 2) (pairsR d t).1 (pairsR d t).2 w) :=
  (specRowPairs_own d S t v w hv hS hsm).mono (fun _ _ h => by obtain ⟨v, he, hv, hb⟩ := h; exact ⟨v, he, ValOwn.at _ _ _ _ hv, hb⟩)
end Go.Proofs.YtohdpgclokgohaaGreatDoor
