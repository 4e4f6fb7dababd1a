/- Texts of the proof, put together by program: WPutS. -/
import Derived.Test.YtmibjmipndffmaaGreatDoorT19
/- l2Put of the model. -/
namespace Go.Proofs.YtmibjmipndffmaaGreatDoor
open Go.RowKit Go.Deep

theorem beq_bytes {a b : ByteArray} {r : Bool} (h : (a.toList == b.toList) = r) : (a == b) = r := by
  cases r with
  | true => exact (MapKept.bytes_beq a b).2 (by have e := beq_iff_eq.1 h; rw [ByteArray.toList_eq, ByteArray.toList_eq] at e; cases a with | mk a => cases b with | mk b => have e : a.toList = b.toList := e; cases a; cases b; simp at e; rw [e])
  | false => exact bytes_ne (fun e => by rw [e] at h; simp at h)

set_option maxRecDepth 100000 in
set_option maxHeartbeats 20000000 in
theorem l2Put_wide (d : Nat) (S : Nat → Prop) (t : Tr (d + 1)) (v : Value) (s : ByteArray) (x : Tr d) (xv : Value) (w : World) (hv : ValAt S w (d + 1) t v) (hx : ValAt S w d x xv) (hS : Within S w) (hkx : (Nd.keys t).length = (Nd.list t).length) (hl60 : (Nd.list t).length ≤ 1000) (hsz : s.size < 281474976710656) :
    Calls Tryz.prog 110 #[v, .string s, xv] w fun e w' => ∃ u, e = .returned u ∧ ValAt (fun b => S b ∨ Fresh w w' b) w' (d + 1) (mapT d (endP s x (((Nd.keys t).zip (Nd.list t)).foldl (stepP s x) (false, [])))) u ∧ Below w.heap.size w w' := by
  obtain ⟨kind, num, str, keys, list⟩ := t
  obtain ⟨vk, vl, rfl, i1, i2, i3, hk', hl'⟩ := hv
  replace hk' : StrsAt S w vk keys := hk'
  replace hl' : RowAt S w (ValAt S w d) vl list := hl'
  replace hkx : keys.length = list.length := hkx
  replace hl60 : list.length ≤ 1000 := hl60
  obtain ⟨ak, ck, rfl, hkl⟩ := hk'.open'
  obtain ⟨al, cl, rfl, hll⟩ := hl'.open'
  obtain ⟨k', n', s', ak', lk', ck', al', ll', cl', rfl⟩ := hx.shape
  show Calls Tryz.prog 110 #[.agg #[.int .i64 kind, .int .i64 num, .string str, .slice ak keys.length ck, .slice al list.length cl], .string s, .agg #[.int .i64 k', .int .i64 n', .string s', .slice ak' lk' ck', .slice al' ll' cl']] w _
  obtain ⟨k0, k1, k2, hW0, hsz0⟩ := laid3 w 26 26 26 (.int .i64 kind) (.int .i64 num) (.string str) (.slice ak keys.length ck) (.slice al list.length cl) (.int .i64 k') (.int .i64 n') (.string s') (.slice ak' lk' ck') (.slice al' ll' cl') (.int .i64 0) (.int .i64 0) (.string { data := #[] }) (.slice none 0 0) (.slice none 0 0)
  obtain ⟨W0, hW⟩ : ∃ W0, W0 = ((w.alloc (.cells #[.int .i64 kind, .int .i64 num, .string str, .slice ak keys.length ck, .slice al list.length cl] 26)).alloc (.cells #[.int .i64 k', .int .i64 n', .string s', .slice ak' lk' ck', .slice al' ll' cl'] 26)).alloc (.cells #[.int .i64 0, .int .i64 0, .string { data := #[] }, .slice none 0 0, .slice none 0 0] 26) := ⟨_, rfl⟩
  rw [← hW] at k0 k1 k2 hW0 hsz0
  have hxw := hide (hx.same (hS.same hW0))
  have hkw := hide (hk'.same (hS.same hW0))
  have hlw := hide (hl'.same (hS.same hW0))
  have hS0 : ∀ b, S b → b < w.heap.size + 1 + 1 + 1 := fun b hb => by have := hS b hb; omega
  have hst : Hid (P2At d S (w.heap.size + 1 + 1 + 1) (w.heap.size + 1 + 1 + 1) W0 (W0.alloc (.cells #[.int .i64 6, .int .i64 0, .string { data := #[] }, .slice none 0 0, .slice none 0 0] 26)) [] [] (.slice none 0 0) (.slice none 0 0) []) := by
    have hn := Blk5.new W0 26 (.int .i64 6) (.int .i64 0) (.string { data := #[] }) (.slice none 0 0) (.slice none 0 0)
    rw [hsz0] at hn
    exact ⟨hn, World.ownsRow_nil _ _ _ _, ⟨World.ownsRow_nil _ _ _ _, fun j x h => by simp at h⟩, (below_alloc1 _ _).mono (by omega), by simp [Value.ownBlock], by simp [Value.ownBlock], fun g h => by simp [Value.ownBlock] at h, Nat.le_refl _⟩
  have HW := hide hW
  have HK := hide hkx
  have HST := hide (hst.out)
  obtain ⟨j0, hj', hjz0, hjz1, hjz2⟩ := info_parts Tryz.infoS2
  obtain ⟨i0, hi', hiz0, hiz1, hiz2⟩ := info_parts Tryz.infoV2
  have hj := hide hj'
  have hi := hide hi'
  clear hW hk' hl' hx hkx hj' hi' hst
  go_enter Tryz.func110, Tryz.ntmps110
  go_wp2_with fail
  go_loopw [8, 9] (fun dn i wr => ∃ (k : Nat) (kv lv : Value) (vs : List Value), k ≤ keys.length ∧ dn = .bool (putAt s x (keys.zip list) k).1 ∧ i = .int .i64 (k : Int) ∧ Hid (P2At d S (w.heap.size + 1 + 1 + 1) (w.heap.size + 1 + 1 + 1) W0 wr ((putAt s x (keys.zip list) k).2.map Prod.fst) ((putAt s x (keys.zip list) k).2.map Prod.snd) kv lv vs)) (fun _ i _ => keys.length - (intOf i).toNat)
  case atStart => exact ⟨0, _, _, [], Nat.zero_le _, rfl, rfl, by rw [← HW.out]; exact HST⟩
  case round =>
    clear HST
    obtain ⟨k, kv, lv, vs, hkk, rfl, rfl, hat⟩ := hrel
    obtain ⟨ka, kn, kc, rfl⟩ := row_slice hat.out.keys
    obtain ⟨la, ln, lc, rfl⟩ := row_slice hat.out.row.1
    obtain ⟨y0, y1, y2, y3, y4⟩ := hat.out.out.cell
    by_cases hkl : k < keys.length
    · have hki : (k : Int) < (keys.length : Int) := by omega
      obtain ⟨eb, eo, key, rfl, heS, hkey, hksz, e0⟩ := hkw.out.cell hkl
      obtain ⟨fb, fo, y, c0, c1, c2, c3, c4, rfl, hfS, hy, f0, f1, f2, f3, f4, hval⟩ := hlw.out.cell (by rw [← HK.out]; exact hkl)
      obtain ⟨q0, q1, q2, q3, q4, q5, q6, q7, q8, hq⟩ := hval.shape
      cases hq
      have hzk : (keys.zip list)[k]? = some (key, y) := List.getElem?_zip_eq_some.2 ⟨hkey, hy⟩
      have hnext := hide (putAt_step (s := s) (x := x) hzk)
      have hacc := hide (putAt_len (s := s) (x := x) (ps := keys.zip list) k)
      have hebl := hS0 eb heS
      have hfbl := hS0 fb hfS
      have HC : Hid (∀ W', Below (w.heap.size + 1 + 1 + 1) W0 W' → W'.cell? ⟨w.heap.size, 3, none⟩ = some (.slice (some ⟨eb, eo, none⟩) keys.length ck) ∧ W'.cell? ⟨w.heap.size, 4, none⟩ = some (.slice (some ⟨fb, fo, none⟩) list.length cl) ∧ W'.cell? ⟨eb, eo + k, none⟩ = some (.string key) ∧
          W'.cell? ⟨fb, fo + k * 5, none⟩ = some (.int .i64 q0) ∧ W'.cell? ⟨fb, fo + k * 5 + 1, none⟩ = some (.int .i64 q1) ∧ W'.cell? ⟨fb, fo + k * 5 + 2, none⟩ = some (.string q2) ∧ W'.cell? ⟨fb, fo + k * 5 + 3, none⟩ = some (.slice q3 q4 q5) ∧ W'.cell? ⟨fb, fo + k * 5 + 4, none⟩ = some (.slice q6 q7 q8)) := fun W' hb => by
        have kk := (k0.of_block (hb.block _ (by omega))).cell
        have he := fun o => World.cell?_of_block (w := W0) (w' := W') (a := ⟨eb, o, none⟩) (hb.block eb hebl)
        have hf := fun o => World.cell?_of_block (w := W0) (w' := W') (a := ⟨fb, o, none⟩) (hb.block fb hfbl)
        exact ⟨kk.2.2.2.1, kk.2.2.2.2, (he _).trans e0, (hf _).trans f0, (hf _).trans f1, (hf _).trans f2, (hf _).trans f3, (hf _).trans f4⟩
      have HVAL : Hid (∀ W', Below (w.heap.size + 1 + 1 + 1) W0 W' → ValAt S W' d y (.agg #[.int .i64 q0, .int .i64 q1, .string q2, .slice q3 q4 q5, .slice q6 q7 q8])) := fun W' hb => hval.same (fun b hb' => hb.block b (hS0 b hb'))
      have HLO : Hid (∀ W', Below (w.heap.size + 1 + 1 + 1) W0 W' → w.heap.size < W'.heap.size ∧ eb < W'.heap.size ∧ fb < W'.heap.size) := fun W' hb => by have := hb.size; exact ⟨by omega, by omega, by omega⟩
      have HKL := hide hkl
      have hk120 : k ≤ 1000 := by have := HK.out; omega
      have hki2 : (k : Int) < (list.length : Int) := by have := HK.out; omega
      clear hkey hy hzk hval hkk hkl e0 f0 f1 f2 f3 f4
      generalize hst' : putAt s x (keys.zip list) k = st at *
      obtain ⟨dn, acc⟩ := st
      clear hst'
      have hacc' : acc.length ≤ 2 * k := hacc.out
      obtain ⟨KS, hKS⟩ : ∃ l, l = acc.map Prod.fst := ⟨_, rfl⟩
      obtain ⟨XS, hXS⟩ : ∃ l, l = acc.map Prod.snd := ⟨_, rfl⟩
      have hKl : KS.length ≤ 2000 := by rw [hKS, List.length_map]; omega
      have hXl : XS.length ≤ 2000 := by rw [hXS, List.length_map]; omega
      replace hat : Hid (P2At d S (w.heap.size + 1 + 1 + 1) (w.heap.size + 1 + 1 + 1) W0 wr KS XS (.slice ka kn kc) (.slice la ln lc) vs) := by rw [hKS, hXS]; exact hat
      have HKS := hide hKS
      have HXS := hide hXS
      clear hKS hXS hacc hacc'
      obtain ⟨x3, x4, e0, f0, f1, f2, f3, f4⟩ := HC.out wr hat.out.below
      have hlo := HLO.out wr hat.out.below
      cases dn with
      | false =>
        cases hlt : Op.bytesLess key.toList s.toList with
        | true =>
          have heq : (key.toList == s.toList) = false := by
            cases hb : (key.toList == s.toList)
            · rfl
            · rw [beq_iff_eq.1 hb, bytesLess_irrefl] at hlt
              cases hlt
          go_upto_region 11 with fail
          go_cut [] (fun wc => ∃ a n c, Hid (P2At d S (w.heap.size + 1 + 1 + 1) (w.heap.size + 1 + 1 + 1) W0 wc (KS ++ [key]) XS (.slice a n c) (.slice la ln lc) vs))
          case first =>
            have hownC1 := hide (hat.out.drew.keys.alloc (.cells #[.string key] 9))
            have z' := fun o => ((hat.out.drew.out.alloc o).cell).2.2.2.1
            have hswC1 : w.heap.size + 1 + 1 + 1 < wr.heap.size := hat.out.out.lt
            go_wp2_with fail
            go_region_law ((refine step_append_run _ (by rfl) _ _ 23 (by rfl) _ _ (by rfl) (by rfl) (run_append_own_at (P := Tryz.prog) _ (w.heap.size + 1 + 1 + 1) 23 _ 9 j0 (.string ByteArray.empty) 1 16 Tryz.underlying23 hj.out hjz0 hjz1 hjz2 rfl (by decide) _ _ _ hownC1.out ⟨wr.heap.size, 0, none⟩ 1 1 [.string key] rfl (cell_one_new _ _ _) (by intro y hy; simp at hy; subst hy; rfl) (by unfold maxLen; omega) (by omega) (by rw [World.size_alloc]; show w.heap.size + 1 + 1 + 1 ≤ wr.heap.size + 1; omega)) ?_; rintro v' waC1 ⟨o1, o2, _, o3⟩; obtain ⟨kaC1, knC1, kcC1, rfl⟩ := row_slice o1; have HHC1 := hide (hat.out.drew.pushK hS0 o1 o2 o3); have zkC1 := HHC1.out.1.cell.2.2.2.1; have zfC1 := HHC1.out.1.frozen 3))
            all_goals
              go_wp2_with fail
              go_meet
              exact ⟨_, _, _, HHC1.out.2⟩
          case rest =>
          rename World => wC
          obtain ⟨kaC, knC, kcC, hatC⟩ := hcut
          clear hat y0 y1 y2 y3 y4 x3 x4 e0 f0 f1 f2 f3 f4 hlo
          obtain ⟨KC, hKC⟩ : ∃ l, l = KS ++ [key] := ⟨_, rfl⟩
          have hKlC : KC.length ≤ 2020 := by rw [hKC, List.length_append, List.length_singleton]; omega
          rw [← hKC] at hatC
          have HKC := hide hKC
          clear hKC
          obtain ⟨y0, y1, y2, y3, y4⟩ := hatC.out.out.cell
          obtain ⟨x3, x4, e0, f0, f1, f2, f3, f4⟩ := HC.out wC hatC.out.below
          have hlo := HLO.out wC hatC.out.below
          have hownC2 := hide (hatC.out.drew.row.1.alloc (.cells #[.int .i64 q0, .int .i64 q1, .string q2, .slice q3 q4 q5, .slice q6 q7 q8] 26))
          have z' := fun o => ((hatC.out.drew.out.alloc o).cell).2.2.2.2
          have hswC2 : w.heap.size + 1 + 1 + 1 < wC.heap.size := hatC.out.out.lt
          go_wp2_with fail
          go_region_law ((refine step_append_run _ (by rfl) _ _ 24 (by rfl) _ _ (by rfl) (by rfl) (run_append_own_at (P := Tryz.prog) _ (w.heap.size + 1 + 1 + 1) 24 _ 26 i0 zeroVal 5 80 Tryz.underlying24 hi.out hiz0 hiz1 hiz2 rfl (by decide) _ _ _ hownC2.out ⟨wC.heap.size, 0, none⟩ 1 1 [.int .i64 q0, .int .i64 q1, .string q2, .slice q3 q4 q5, .slice q6 q7 q8] rfl (cell_five_new _ _ _ _ _ _ _) (by intro y hy; simp at hy; rcases hy with rfl | rfl | rfl | rfl | rfl <;> rfl) (by unfold maxLen; omega) (by omega) (by rw [World.size_alloc]; show w.heap.size + 1 + 1 + 1 ≤ wC.heap.size + 1; omega)) ?_; rintro v' waC2 ⟨o1, o2, _, o3⟩; obtain ⟨kaC2, knC2, kcC2, rfl⟩ := row_slice o1; have HHC2 := hide (hatC.out.drew.pushX hS0 ((HVAL.out wC.drew hatC.out.drew.below)) o1 o2 o3); have zkC2 := HHC2.out.1.cell.2.2.2.2; have zfC2 := HHC2.out.1.frozen 4))
          all_goals
            have hauC := hide HHC2.out.2
            clear hatC y0 y1 y2 y3 y4 x3 x4 e0 f0 f1 f2 f3 f4 hlo o1 o2 o3 hownC2 z'
            have hnx : Hid (putAt s x (keys.zip list) (k + 1) = (false, acc ++ [(key, y)])) := by
              show putAt s x (keys.zip list) (k + 1) = _
              rw [hnext.out]
              simp [stepP, ltB, hlt, beq_bytes heq]
            go_wp2_with fail
            go_roundw
            case rel =>
              refine ⟨k + 1, .slice kaC knC kcC, .slice kaC2 knC2 kcC2, vs ++ [.int .i64 q0, .int .i64 q1, .string q2, .slice q3 q4 q5, .slice q6 q7 q8], HKL.out, by rw [hnx.out], by go_num, ?_⟩
              rw [hnx.out]
              simp only [List.map_append, List.map_cons, List.map_nil]
              rw [← HKS.out, ← HXS.out]
              have hh := hauC
              rw [HKC.out] at hh
              exact hh
            case measure => simp [intOf]; have := HKL.out; omega
        | false =>
          cases heq : (key.toList == s.toList) with
          | true =>
            have HOKA := hide (hat.out.keys.alloc (.cells #[.string s] 9))
            have hswA : w.heap.size + 1 + 1 + 1 ≤ wr.heap.size := by have := hat.out.out.lt; omega
            go_wp2_with (at_builtin; refine wpList_append_own_at _ rfl _ _ 23 rfl (w.heap.size + 1 + 1 + 1) 9 j0 (.string ByteArray.empty) 1 16 Tryz.underlying23 hj.out hjz0 hjz1 hjz2 rfl (by decide) _ _ _ rfl HOKA.out ⟨wr.heap.size, 0, none⟩ 1 1 [.string s] rfl rfl (cell_one_new _ _ _) ?c2 ?c3 ?c4 ?c5 ?_)
            case c2 => first | rfl | (intro y hy; simp at hy; subst hy; rfl)
            case c3 => first | omega | (unfold maxLen; omega)
            case c4 => omega
            case c5 => first | omega | (simp; omega)
            intro kvA waA o1 o2 _ o3
            have HHA := hide (hat.out.pushK hS0 o1 o2 (by rw [World.size_alloc]; exact o3))
            obtain ⟨kaA, knA, kcA, rfl⟩ := row_slice o1
            have zkA := HHA.out.1.cell.2.2.2.1
            have zfA := HHA.out.1.frozen 3
            clear o1 o2 o3 HOKA hat y0 y1 y2 y3 y4
            go_upto_region 8 with fail
            obtain ⟨wbA, hwA⟩ : ∃ wb, wb = waA.setCell ⟨w.heap.size + 1 + 1 + 1, 3, none⟩ (.slice kaA knA kcA) := ⟨_, rfl⟩
            obtain ⟨KSA, hKSA⟩ : ∃ l, l = KS ++ [s] := ⟨_, rfl⟩
            have hlKSA : KSA.length = KS.length + 1 := by rw [hKSA]; simp
            have hleKSA : KSA.length ≤ 2010 := by omega
            have hatA := hide HHA.out.2
            rw [← hwA, ← hKSA] at hatA
            rw [← hwA]
            have HKSA := hide hKSA
            clear hwA HHA zkA zfA hKSA hlKSA
            obtain ⟨y0, y1, y2, y3, y4⟩ := hatA.out.out.cell
            have HOXB := hide (hatA.out.row.1.alloc (.cells #[.int .i64 k', .int .i64 n', .string s', .slice ak' lk' ck', .slice al' ll' cl'] 26))
            have hswB : w.heap.size + 1 + 1 + 1 ≤ wbA.heap.size := by have := hatA.out.out.lt; omega
            have hbxB := hatA.out.below
            obtain ⟨p0, p1, p2, p3, p4⟩ := (k1.of_block (hbxB.block _ (by omega))).cell
            go_wp2_with (at_builtin; refine wpList_append_own_at _ rfl _ _ 24 rfl (w.heap.size + 1 + 1 + 1) 26 i0 zeroVal 5 80 Tryz.underlying24 hi.out hiz0 hiz1 hiz2 rfl (by decide) _ _ _ rfl HOXB.out ⟨wbA.heap.size, 0, none⟩ 1 1 [.int .i64 k', .int .i64 n', .string s', .slice ak' lk' ck', .slice al' ll' cl'] rfl rfl (cell_five_new _ _ _ _ _ _ _) ?c2 ?c3 ?c4 ?c5 ?_)
            case c2 => first | (intro y hy; simp at hy; rcases hy with rfl | rfl | rfl | rfl | rfl <;> rfl) | exact ⟨rfl, rfl, rfl, rfl, rfl⟩ | simp [Value.oneCell']
            case c3 => first | omega | (unfold maxLen; omega)
            case c4 => omega
            case c5 => first | omega | (simp; omega)
            intro lvB waB o1 o2 _ o3
            have HHB := hide (hatA.out.pushX hS0 (hxw.out.same (fun b hb' => hbxB.block b (hS0 b hb'))) o1 o2 (by rw [World.size_alloc]; exact o3))
            obtain ⟨kaB, knB, kcB, rfl⟩ := row_slice o1
            have zkB := HHB.out.1.cell.2.2.2.2
            have zfB := HHB.out.1.frozen 4
            clear o1 o2 o3 HOXB hatA hbxB p0 p1 p2 p3 p4 y0 y1 y2 y3 y4
            go_upto_region 9 with fail
            obtain ⟨wbB, hwB⟩ : ∃ wb, wb = waB.setCell ⟨w.heap.size + 1 + 1 + 1, 4, none⟩ (.slice kaB knB kcB) := ⟨_, rfl⟩
            obtain ⟨XSB, hXSB⟩ : ∃ l, l = XS ++ [x] := ⟨_, rfl⟩
            have hlXSB : XSB.length = XS.length + 1 := by rw [hXSB]; simp
            have hleXSB : XSB.length ≤ 2010 := by omega
            have hatB := hide HHB.out.2
            rw [← hwB, ← hXSB] at hatB
            rw [← hwB]
            have HXSB := hide hXSB
            clear hwB HHB zkB zfB hXSB hlXSB
            obtain ⟨y0, y1, y2, y3, y4⟩ := hatB.out.out.cell
            clear x3 x4 e0 f0 f1 f2 f3 f4 hlo
            obtain ⟨x3, x4, e0, f0, f1, f2, f3, f4⟩ := HC.out wbB hatB.out.below
            have hlo := HLO.out wbB hatB.out.below
            have hnx : Hid (putAt s x (keys.zip list) (k + 1) = (true, acc ++ [(s, x)])) := by
              show putAt s x (keys.zip list) (k + 1) = _
              rw [hnext.out]
              simp [stepP, ltB, hlt, beq_bytes heq]
            go_wp2_with fail
            go_roundw
            case rel =>
              refine ⟨k + 1, .slice kaA knA kcA, .slice kaB knB kcB, vs ++ [.int .i64 k', .int .i64 n', .string s', .slice ak' lk' ck', .slice al' ll' cl'], HKL.out, by rw [hnx.out], by go_num, ?_⟩
              rw [hnx.out, List.map_append, List.map_append, ← HKS.out, ← HXS.out]
              have hh := hatB
              rw [HKSA.out, HXSB.out] at hh
              exact hh
            case measure => simp [intOf]; have := HKL.out; omega
          | false =>
            have HOKA := hide (hat.out.keys.alloc (.cells #[.string s] 9))
            have hswA : w.heap.size + 1 + 1 + 1 ≤ wr.heap.size := by have := hat.out.out.lt; omega
            go_wp2_with (at_builtin; refine wpList_append_own_at _ rfl _ _ 23 rfl (w.heap.size + 1 + 1 + 1) 9 j0 (.string ByteArray.empty) 1 16 Tryz.underlying23 hj.out hjz0 hjz1 hjz2 rfl (by decide) _ _ _ rfl HOKA.out ⟨wr.heap.size, 0, none⟩ 1 1 [.string s] rfl rfl (cell_one_new _ _ _) ?c2 ?c3 ?c4 ?c5 ?_)
            case c2 => first | rfl | (intro y hy; simp at hy; subst hy; rfl)
            case c3 => first | omega | (unfold maxLen; omega)
            case c4 => omega
            case c5 => first | omega | (simp; omega)
            intro kvA waA o1 o2 _ o3
            have HHA := hide (hat.out.pushK hS0 o1 o2 (by rw [World.size_alloc]; exact o3))
            obtain ⟨kaA, knA, kcA, rfl⟩ := row_slice o1
            have zkA := HHA.out.1.cell.2.2.2.1
            have zfA := HHA.out.1.frozen 3
            clear o1 o2 o3 HOKA hat y0 y1 y2 y3 y4
            go_upto_region 8 with fail
            obtain ⟨wbA, hwA⟩ : ∃ wb, wb = waA.setCell ⟨w.heap.size + 1 + 1 + 1, 3, none⟩ (.slice kaA knA kcA) := ⟨_, rfl⟩
            obtain ⟨KSA, hKSA⟩ : ∃ l, l = KS ++ [s] := ⟨_, rfl⟩
            have hlKSA : KSA.length = KS.length + 1 := by rw [hKSA]; simp
            have hleKSA : KSA.length ≤ 2010 := by omega
            have hatA := hide HHA.out.2
            rw [← hwA, ← hKSA] at hatA
            rw [← hwA]
            have HKSA := hide hKSA
            clear hwA HHA zkA zfA hKSA hlKSA
            obtain ⟨y0, y1, y2, y3, y4⟩ := hatA.out.out.cell
            have HOXB := hide (hatA.out.row.1.alloc (.cells #[.int .i64 k', .int .i64 n', .string s', .slice ak' lk' ck', .slice al' ll' cl'] 26))
            have hswB : w.heap.size + 1 + 1 + 1 ≤ wbA.heap.size := by have := hatA.out.out.lt; omega
            have hbxB := hatA.out.below
            obtain ⟨p0, p1, p2, p3, p4⟩ := (k1.of_block (hbxB.block _ (by omega))).cell
            go_wp2_with (at_builtin; refine wpList_append_own_at _ rfl _ _ 24 rfl (w.heap.size + 1 + 1 + 1) 26 i0 zeroVal 5 80 Tryz.underlying24 hi.out hiz0 hiz1 hiz2 rfl (by decide) _ _ _ rfl HOXB.out ⟨wbA.heap.size, 0, none⟩ 1 1 [.int .i64 k', .int .i64 n', .string s', .slice ak' lk' ck', .slice al' ll' cl'] rfl rfl (cell_five_new _ _ _ _ _ _ _) ?c2 ?c3 ?c4 ?c5 ?_)
            case c2 => first | (intro y hy; simp at hy; rcases hy with rfl | rfl | rfl | rfl | rfl <;> rfl) | exact ⟨rfl, rfl, rfl, rfl, rfl⟩ | simp [Value.oneCell']
            case c3 => first | omega | (unfold maxLen; omega)
            case c4 => omega
            case c5 => first | omega | (simp; omega)
            intro lvB waB o1 o2 _ o3
            have HHB := hide (hatA.out.pushX hS0 (hxw.out.same (fun b hb' => hbxB.block b (hS0 b hb'))) o1 o2 (by rw [World.size_alloc]; exact o3))
            obtain ⟨kaB, knB, kcB, rfl⟩ := row_slice o1
            have zkB := HHB.out.1.cell.2.2.2.2
            have zfB := HHB.out.1.frozen 4
            clear o1 o2 o3 HOXB hatA hbxB p0 p1 p2 p3 p4 y0 y1 y2 y3 y4
            go_upto_region 9 with fail
            obtain ⟨wbB, hwB⟩ : ∃ wb, wb = waB.setCell ⟨w.heap.size + 1 + 1 + 1, 4, none⟩ (.slice kaB knB kcB) := ⟨_, rfl⟩
            obtain ⟨XSB, hXSB⟩ : ∃ l, l = XS ++ [x] := ⟨_, rfl⟩
            have hlXSB : XSB.length = XS.length + 1 := by rw [hXSB]; simp
            have hleXSB : XSB.length ≤ 2010 := by omega
            have hatB := hide HHB.out.2
            rw [← hwB, ← hXSB] at hatB
            rw [← hwB]
            have HXSB := hide hXSB
            clear hwB HHB zkB zfB hXSB hlXSB
            obtain ⟨y0, y1, y2, y3, y4⟩ := hatB.out.out.cell
            clear x3 x4 e0 f0 f1 f2 f3 f4 hlo
            obtain ⟨x3, x4, e0, f0, f1, f2, f3, f4⟩ := HC.out wbB hatB.out.below
            have hlo := HLO.out wbB hatB.out.below
            go_upto_region 11 with fail
            go_cut [] (fun wc => ∃ a n c, Hid (P2At d S (w.heap.size + 1 + 1 + 1) (w.heap.size + 1 + 1 + 1) W0 wc (KSA ++ [key]) XSB (.slice a n c) (.slice kaB knB kcB) (vs ++ [.int .i64 k', .int .i64 n', .string s', .slice ak' lk' ck', .slice al' ll' cl'])))
            case first =>
              have hownC1 := hide (hatB.out.drew.keys.alloc (.cells #[.string key] 9))
              have z' := fun o => ((hatB.out.drew.out.alloc o).cell).2.2.2.1
              have hswC1 : w.heap.size + 1 + 1 + 1 < wbB.heap.size := hatB.out.out.lt
              go_wp2_with fail
              go_region_law ((refine step_append_run _ (by rfl) _ _ 23 (by rfl) _ _ (by rfl) (by rfl) (run_append_own_at (P := Tryz.prog) _ (w.heap.size + 1 + 1 + 1) 23 _ 9 j0 (.string ByteArray.empty) 1 16 Tryz.underlying23 hj.out hjz0 hjz1 hjz2 rfl (by decide) _ _ _ hownC1.out ⟨wbB.heap.size, 0, none⟩ 1 1 [.string key] rfl (cell_one_new _ _ _) (by intro y hy; simp at hy; subst hy; rfl) (by unfold maxLen; omega) (by omega) (by rw [World.size_alloc]; show w.heap.size + 1 + 1 + 1 ≤ wbB.heap.size + 1; omega)) ?_; rintro v' waC1 ⟨o1, o2, _, o3⟩; obtain ⟨kaC1, knC1, kcC1, rfl⟩ := row_slice o1; have HHC1 := hide (hatB.out.drew.pushK hS0 o1 o2 o3); have zkC1 := HHC1.out.1.cell.2.2.2.1; have zfC1 := HHC1.out.1.frozen 3))
              all_goals
                go_wp2_with fail
                go_meet
                exact ⟨_, _, _, HHC1.out.2⟩
            case rest =>
            rename World => wC
            obtain ⟨kaC, knC, kcC, hatC⟩ := hcut
            clear hatB y0 y1 y2 y3 y4 x3 x4 e0 f0 f1 f2 f3 f4 hlo
            obtain ⟨KC, hKC⟩ : ∃ l, l = KSA ++ [key] := ⟨_, rfl⟩
            have hKlC : KC.length ≤ 2020 := by rw [hKC, List.length_append, List.length_singleton]; omega
            rw [← hKC] at hatC
            have HKC := hide hKC
            clear hKC
            obtain ⟨y0, y1, y2, y3, y4⟩ := hatC.out.out.cell
            obtain ⟨x3, x4, e0, f0, f1, f2, f3, f4⟩ := HC.out wC hatC.out.below
            have hlo := HLO.out wC hatC.out.below
            have hownC2 := hide (hatC.out.drew.row.1.alloc (.cells #[.int .i64 q0, .int .i64 q1, .string q2, .slice q3 q4 q5, .slice q6 q7 q8] 26))
            have z' := fun o => ((hatC.out.drew.out.alloc o).cell).2.2.2.2
            have hswC2 : w.heap.size + 1 + 1 + 1 < wC.heap.size := hatC.out.out.lt
            go_wp2_with fail
            go_region_law ((refine step_append_run _ (by rfl) _ _ 24 (by rfl) _ _ (by rfl) (by rfl) (run_append_own_at (P := Tryz.prog) _ (w.heap.size + 1 + 1 + 1) 24 _ 26 i0 zeroVal 5 80 Tryz.underlying24 hi.out hiz0 hiz1 hiz2 rfl (by decide) _ _ _ hownC2.out ⟨wC.heap.size, 0, none⟩ 1 1 [.int .i64 q0, .int .i64 q1, .string q2, .slice q3 q4 q5, .slice q6 q7 q8] rfl (cell_five_new _ _ _ _ _ _ _) (by intro y hy; simp at hy; rcases hy with rfl | rfl | rfl | rfl | rfl <;> rfl) (by unfold maxLen; omega) (by omega) (by rw [World.size_alloc]; show w.heap.size + 1 + 1 + 1 ≤ wC.heap.size + 1; omega)) ?_; rintro v' waC2 ⟨o1, o2, _, o3⟩; obtain ⟨kaC2, knC2, kcC2, rfl⟩ := row_slice o1; have HHC2 := hide (hatC.out.drew.pushX hS0 ((HVAL.out wC.drew hatC.out.drew.below)) o1 o2 o3); have zkC2 := HHC2.out.1.cell.2.2.2.2; have zfC2 := HHC2.out.1.frozen 4))
            all_goals
              have hauC := hide HHC2.out.2
              clear hatC y0 y1 y2 y3 y4 x3 x4 e0 f0 f1 f2 f3 f4 hlo o1 o2 o3 hownC2 z'
              have hnx : Hid (putAt s x (keys.zip list) (k + 1) = (true, acc ++ [(s, x)] ++ [(key, y)])) := by
                show putAt s x (keys.zip list) (k + 1) = _
                rw [hnext.out]
                simp [stepP, ltB, hlt, beq_bytes heq]
              go_wp2_with fail
              go_roundw
              case rel =>
                refine ⟨k + 1, .slice kaC knC kcC, .slice kaC2 knC2 kcC2, vs ++ [.int .i64 k', .int .i64 n', .string s', .slice ak' lk' ck', .slice al' ll' cl'] ++ [.int .i64 q0, .int .i64 q1, .string q2, .slice q3 q4 q5, .slice q6 q7 q8], HKL.out, by rw [hnx.out], by go_num, ?_⟩
                rw [hnx.out]
                simp only [List.map_append, List.map_cons, List.map_nil]
                rw [← HKS.out, ← HXS.out]
                have hh := hauC
                rw [HKC.out, HKSA.out, HXSB.out] at hh
                exact hh
              case measure => simp [intOf]; have := HKL.out; omega
      | true =>
        cases heq : (key.toList == s.toList) with
        | true =>
          have hnx : Hid (putAt s x (keys.zip list) (k + 1) = (true, acc)) := by
            show putAt s x (keys.zip list) (k + 1) = _
            rw [hnext.out]
            simp [stepP, beq_bytes heq]
          have HAT := hide hat.out
          clear hat
          go_wp2_with fail
          go_roundw
          case rel =>
            refine ⟨k + 1, .slice ka kn kc, .slice la ln lc, vs, HKL.out, by rw [hnx.out], by go_num, ?_⟩
            rw [hnx.out]
            show Hid (P2At d S _ _ W0 wr (acc.map Prod.fst) (acc.map Prod.snd) _ _ _)
            rw [← HKS.out, ← HXS.out]
            exact HAT
          case measure => simp [intOf]; have := HKL.out; omega
        | false =>
          go_upto_region 11 with fail
          go_cut [] (fun wc => ∃ a n c, Hid (P2At d S (w.heap.size + 1 + 1 + 1) (w.heap.size + 1 + 1 + 1) W0 wc (KS ++ [key]) XS (.slice a n c) (.slice la ln lc) vs))
          case first =>
            have hownC1 := hide (hat.out.drew.keys.alloc (.cells #[.string key] 9))
            have z' := fun o => ((hat.out.drew.out.alloc o).cell).2.2.2.1
            have hswC1 : w.heap.size + 1 + 1 + 1 < wr.heap.size := hat.out.out.lt
            go_wp2_with fail
            go_region_law ((refine step_append_run _ (by rfl) _ _ 23 (by rfl) _ _ (by rfl) (by rfl) (run_append_own_at (P := Tryz.prog) _ (w.heap.size + 1 + 1 + 1) 23 _ 9 j0 (.string ByteArray.empty) 1 16 Tryz.underlying23 hj.out hjz0 hjz1 hjz2 rfl (by decide) _ _ _ hownC1.out ⟨wr.heap.size, 0, none⟩ 1 1 [.string key] rfl (cell_one_new _ _ _) (by intro y hy; simp at hy; subst hy; rfl) (by unfold maxLen; omega) (by omega) (by rw [World.size_alloc]; show w.heap.size + 1 + 1 + 1 ≤ wr.heap.size + 1; omega)) ?_; rintro v' waC1 ⟨o1, o2, _, o3⟩; obtain ⟨kaC1, knC1, kcC1, rfl⟩ := row_slice o1; have HHC1 := hide (hat.out.drew.pushK hS0 o1 o2 o3); have zkC1 := HHC1.out.1.cell.2.2.2.1; have zfC1 := HHC1.out.1.frozen 3))
            all_goals
              go_wp2_with fail
              go_meet
              exact ⟨_, _, _, HHC1.out.2⟩
          case rest =>
          rename World => wC
          obtain ⟨kaC, knC, kcC, hatC⟩ := hcut
          clear hat y0 y1 y2 y3 y4 x3 x4 e0 f0 f1 f2 f3 f4 hlo
          obtain ⟨KC, hKC⟩ : ∃ l, l = KS ++ [key] := ⟨_, rfl⟩
          have hKlC : KC.length ≤ 2020 := by rw [hKC, List.length_append, List.length_singleton]; omega
          rw [← hKC] at hatC
          have HKC := hide hKC
          clear hKC
          obtain ⟨y0, y1, y2, y3, y4⟩ := hatC.out.out.cell
          obtain ⟨x3, x4, e0, f0, f1, f2, f3, f4⟩ := HC.out wC hatC.out.below
          have hlo := HLO.out wC hatC.out.below
          have hownC2 := hide (hatC.out.drew.row.1.alloc (.cells #[.int .i64 q0, .int .i64 q1, .string q2, .slice q3 q4 q5, .slice q6 q7 q8] 26))
          have z' := fun o => ((hatC.out.drew.out.alloc o).cell).2.2.2.2
          have hswC2 : w.heap.size + 1 + 1 + 1 < wC.heap.size := hatC.out.out.lt
          go_wp2_with fail
          go_region_law ((refine step_append_run _ (by rfl) _ _ 24 (by rfl) _ _ (by rfl) (by rfl) (run_append_own_at (P := Tryz.prog) _ (w.heap.size + 1 + 1 + 1) 24 _ 26 i0 zeroVal 5 80 Tryz.underlying24 hi.out hiz0 hiz1 hiz2 rfl (by decide) _ _ _ hownC2.out ⟨wC.heap.size, 0, none⟩ 1 1 [.int .i64 q0, .int .i64 q1, .string q2, .slice q3 q4 q5, .slice q6 q7 q8] rfl (cell_five_new _ _ _ _ _ _ _) (by intro y hy; simp at hy; rcases hy with rfl | rfl | rfl | rfl | rfl <;> rfl) (by unfold maxLen; omega) (by omega) (by rw [World.size_alloc]; show w.heap.size + 1 + 1 + 1 ≤ wC.heap.size + 1; omega)) ?_; rintro v' waC2 ⟨o1, o2, _, o3⟩; obtain ⟨kaC2, knC2, kcC2, rfl⟩ := row_slice o1; have HHC2 := hide (hatC.out.drew.pushX hS0 ((HVAL.out wC.drew hatC.out.drew.below)) o1 o2 o3); have zkC2 := HHC2.out.1.cell.2.2.2.2; have zfC2 := HHC2.out.1.frozen 4))
          all_goals
            have hauC := hide HHC2.out.2
            clear hatC y0 y1 y2 y3 y4 x3 x4 e0 f0 f1 f2 f3 f4 hlo o1 o2 o3 hownC2 z'
            have hnx : Hid (putAt s x (keys.zip list) (k + 1) = (true, acc ++ [(key, y)])) := by
              show putAt s x (keys.zip list) (k + 1) = _
              rw [hnext.out]
              simp [stepP, ltB, beq_bytes heq]
            go_wp2_with fail
            go_roundw
            case rel =>
              refine ⟨k + 1, .slice kaC knC kcC, .slice kaC2 knC2 kcC2, vs ++ [.int .i64 q0, .int .i64 q1, .string q2, .slice q3 q4 q5, .slice q6 q7 q8], HKL.out, by rw [hnx.out], by go_num, ?_⟩
              rw [hnx.out]
              simp only [List.map_append, List.map_cons, List.map_nil]
              rw [← HKS.out, ← HXS.out]
              have hh := hauC
              rw [HKC.out] at hh
              exact hh
            case measure => simp [intOf]; have := HKL.out; omega
    · obtain rfl : k = keys.length := by omega
      have hfull : putAt s x (keys.zip list) keys.length = (keys.zip list).foldl (stepP s x) (false, []) := by
        unfold putAt
        rw [List.take_of_length_le (by rw [List.length_zip]; omega)]
      have hacc := hide (putAt_len (s := s) (x := x) (ps := keys.zip list) keys.length)
      have hall : Hid (∀ p ∈ (putAt s x (keys.zip list) keys.length).2, p.1.size < 281474976710656) := by
        rw [hfull]
        exact foldP_all hsz (keys.zip list) (false, []) (fun p hp => by cases hp) (fun p hp => hkw.out.2.1 _ (zip_key hp))
      have HFULL := hide hfull.symm
      clear hfull
      have hk60 : keys.length ≤ 1000 := by have := HK.out; omega
      have kx0 := (k0.of_block (hat.out.below.block _ (by omega))).cell
      obtain ⟨x0, x1, x2, x3, x4⟩ := kx0
      generalize hst' : putAt s x (keys.zip list) keys.length = st at *
      obtain ⟨dn, acc⟩ := st
      clear hst'
      have hacc' : acc.length ≤ 2 * keys.length := hacc.out
      have hall' : ∀ p ∈ acc, p.1.size < 281474976710656 := hall.out
      obtain ⟨KS, hKS⟩ : ∃ l, l = acc.map Prod.fst := ⟨_, rfl⟩
      obtain ⟨XS, hXS⟩ : ∃ l, l = acc.map Prod.snd := ⟨_, rfl⟩
      have hKl : KS.length ≤ 2000 := by rw [hKS, List.length_map]; omega
      have hXl : XS.length ≤ 2000 := by rw [hXS, List.length_map]; omega
      replace hat : Hid (P2At d S (w.heap.size + 1 + 1 + 1) (w.heap.size + 1 + 1 + 1) W0 wr KS XS (.slice ka kn kc) (.slice la ln lc) vs) := by rw [hKS, hXS]; exact hat
      have HKS := hide hKS
      have HXS := hide hXS
      clear hKS hXS hacc hall hkw hlw
      cases dn with
      | true =>
        have HEND := hide (endP_true (s := s) (x := x) acc)
        have HSZ := hide hall'
        have hend := hide (P2At.done (w := w) (r := w.heap.size + 1 + 1) (ps := acc) hat.out HKS.out HXS.out hS (by omega) (by omega) hW0 (by omega) HSZ.out)
        have kz := k2.of_block (hat.out.below.block _ (by omega))
        obtain ⟨z0, z1, z2, z3, z4⟩ := kz.cell
        have zf := kz.frozen
        clear hat kz
        go_wp2_with fail
        rw [HFULL.out, HEND.out]
        refine bodyPost_ret (v := .agg #[.int .i64 6, .int .i64 0, .string { data := #[] }, .slice ka kn kc, .slice la ln lc]) (by simp [results, Tryz.results110, go_sem, z0, z1, z2, z3, z4]) rfl ⟨_, rfl, hend.out _ rfl⟩
      | false =>
        have HEND := hide (endP_false (s := s) (x := x) acc)
        have HSZ : Hid (∀ p ∈ acc ++ [(s, x)], p.1.size < 281474976710656) := fun p hp => by
          rcases List.mem_append.1 hp with h | h
          · exact hall' p h
          · rw [List.mem_singleton.1 h]; exact hsz
        have HOKE := hide (hat.out.keys.alloc (.cells #[.string s] 9))
        have hswE : w.heap.size + 1 + 1 + 1 ≤ wr.heap.size := by have := hat.out.out.lt; omega
        go_wp2_with (at_builtin; refine wpList_append_own_at _ rfl _ _ 23 rfl (w.heap.size + 1 + 1 + 1) 9 j0 (.string ByteArray.empty) 1 16 Tryz.underlying23 hj.out hjz0 hjz1 hjz2 rfl (by decide) _ _ _ rfl HOKE.out ⟨wr.heap.size, 0, none⟩ 1 1 [.string s] rfl rfl (cell_one_new _ _ _) ?c2 ?c3 ?c4 ?c5 ?_)
        case c2 => first | rfl | (intro y hy; simp at hy; subst hy; rfl)
        case c3 => first | omega | (unfold maxLen; omega)
        case c4 => omega
        case c5 => first | omega | (simp; omega)
        intro kvE waE o1 o2 _ o3
        have HHE := hide (hat.out.pushK hS0 o1 o2 (by rw [World.size_alloc]; exact o3))
        obtain ⟨kaE, knE, kcE, rfl⟩ := row_slice o1
        have zkE := HHE.out.1.cell.2.2.2.1
        have zfE := HHE.out.1.frozen 3
        clear o1 o2 o3 HOKE hat y0 y1 y2 y3 y4
        go_upto_region 15 with fail
        obtain ⟨wbE, hwE⟩ : ∃ wb, wb = waE.setCell ⟨w.heap.size + 1 + 1 + 1, 3, none⟩ (.slice kaE knE kcE) := ⟨_, rfl⟩
        obtain ⟨KSE, hKSE⟩ : ∃ l, l = KS ++ [s] := ⟨_, rfl⟩
        have hlKSE : KSE.length = KS.length + 1 := by rw [hKSE]; simp
        have hleKSE : KSE.length ≤ 2010 := by omega
        have hatE := hide HHE.out.2
        rw [← hwE, ← hKSE] at hatE
        rw [← hwE]
        have HKSE := hide hKSE
        clear hwE HHE zkE zfE hKSE hlKSE
        obtain ⟨y0, y1, y2, y3, y4⟩ := hatE.out.out.cell
        have HOXF := hide (hatE.out.row.1.alloc (.cells #[.int .i64 k', .int .i64 n', .string s', .slice ak' lk' ck', .slice al' ll' cl'] 26))
        have hswF : w.heap.size + 1 + 1 + 1 ≤ wbE.heap.size := by have := hatE.out.out.lt; omega
        have hbxF := hatE.out.below
        obtain ⟨p0, p1, p2, p3, p4⟩ := (k1.of_block (hbxF.block _ (by omega))).cell
        go_wp2_with (at_builtin; refine wpList_append_own_at _ rfl _ _ 24 rfl (w.heap.size + 1 + 1 + 1) 26 i0 zeroVal 5 80 Tryz.underlying24 hi.out hiz0 hiz1 hiz2 rfl (by decide) _ _ _ rfl HOXF.out ⟨wbE.heap.size, 0, none⟩ 1 1 [.int .i64 k', .int .i64 n', .string s', .slice ak' lk' ck', .slice al' ll' cl'] rfl rfl (cell_five_new _ _ _ _ _ _ _) ?c2 ?c3 ?c4 ?c5 ?_)
        case c2 => first | (intro y hy; simp at hy; rcases hy with rfl | rfl | rfl | rfl | rfl <;> rfl) | exact ⟨rfl, rfl, rfl, rfl, rfl⟩ | simp [Value.oneCell']
        case c3 => first | omega | (unfold maxLen; omega)
        case c4 => omega
        case c5 => first | omega | (simp; omega)
        intro lvF waF o1 o2 _ o3
        have HHF := hide (hatE.out.pushX hS0 (hxw.out.same (fun b hb' => hbxF.block b (hS0 b hb'))) o1 o2 (by rw [World.size_alloc]; exact o3))
        obtain ⟨kaF, knF, kcF, rfl⟩ := row_slice o1
        have zkF := HHF.out.1.cell.2.2.2.2
        have zfF := HHF.out.1.frozen 4
        clear o1 o2 o3 HOXF hatE hbxF p0 p1 p2 p3 p4 y0 y1 y2 y3 y4
        go_upto_region 16 with fail
        obtain ⟨wbF, hwF⟩ : ∃ wb, wb = waF.setCell ⟨w.heap.size + 1 + 1 + 1, 4, none⟩ (.slice kaF knF kcF) := ⟨_, rfl⟩
        obtain ⟨XSF, hXSF⟩ : ∃ l, l = XS ++ [x] := ⟨_, rfl⟩
        have hlXSF : XSF.length = XS.length + 1 := by rw [hXSF]; simp
        have hleXSF : XSF.length ≤ 2010 := by omega
        have hatF := hide HHF.out.2
        rw [← hwF, ← hXSF] at hatF
        rw [← hwF]
        have HXSF := hide hXSF
        clear hwF HHF zkF zfF hXSF hlXSF
        obtain ⟨y0, y1, y2, y3, y4⟩ := hatF.out.out.cell
        have hend := hide (P2At.done (w := w) (r := w.heap.size + 1 + 1) (ps := acc ++ [(s, x)]) hatF.out (by rw [HKSE.out, HKS.out, List.map_append]; rfl) (by rw [HXSF.out, HXS.out, List.map_append]; rfl) hS (by omega) (by omega) hW0 (by rw [List.length_append, List.length_singleton]; omega) HSZ.out)
        have kz := k2.of_block (hatF.out.below.block _ (by omega))
        obtain ⟨z0, z1, z2, z3, z4⟩ := kz.cell
        have zf := kz.frozen
        clear hatF kz
        go_wp2_with fail
        rw [HFULL.out, HEND.out]
        refine bodyPost_ret (v := .agg #[.int .i64 6, .int .i64 0, .string { data := #[] }, .slice kaE knE kcE, .slice kaF knF kcF]) (by simp [results, Tryz.results110, go_sem, z0, z1, z2, z3, z4]) rfl ⟨_, rfl, hend.out _ rfl⟩
end Go.Proofs.YtmibjmipndffmaaGreatDoor
