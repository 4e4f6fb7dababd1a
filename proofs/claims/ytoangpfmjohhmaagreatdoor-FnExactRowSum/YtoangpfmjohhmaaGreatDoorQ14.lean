/- Texts of the proof, put together by program: WPutS, WKbS, WAddP. -/
import Derived.Test.YtoangpfmjohhmaaGreatDoorQ13
import Derived.Test.YtoangpfmjohhmaaGreatDoorQ12
import Derived.Test.YtoangpfmjohhmaaGreatDoorQ9
import Derived.Test.YtoangpfmjohhmaaGreatDoorQ6
import Derived.Test.YtoangpfmjohhmaaGreatDoorQ8
/- l2Put of the model. -/
namespace Go.Proofs.YtoangpfmjohhmaaGreatDoor
open Go.RowKit Go.Deep

theorem beq_bytes {a b : ByteArray} {r : Bool} (h : (a.toList == b.toList) = r) : (a == b) = r := by
  cases r with
  | true => exact (MapKept.bytes_beq a b).2 (by have e := beq_iff_eq.1 h; rw [ByteArray.toList_eq, ByteArray.toList_eq] at e; cases a with | mk a => cases b with | mk b => have e : a.toList = b.toList := e; cases a; cases b; simp at e; rw [e])
  | false => exact bytes_ne (fun e => by rw [e] at h; simp at h)

set_option maxRecDepth 100000 in
set_option maxHeartbeats 20000000 in
theorem l2Put_wide (d : Nat) (S : Nat → Prop) (t : Tr (d + 1)) (v : Value) (s : ByteArray) (x : Tr d) (xv : Value) (w : World) (hv : ValAt S w (d + 1) t v) (hx : ValAt S w d x xv) (hS : Within S w) (hkx : (Nd.keys t).length = (Nd.list t).length) (hl60 : (Nd.list t).length ≤ 1000) (hsz : s.size < 281474976710656) :
    Calls Tryz.prog 39 #[v, .string s, xv] w fun e w' => ∃ u, e = .returned u ∧ ValAt (fun b => S b ∨ Fresh w w' b) w' (d + 1) (mapT d (endP s x (((Nd.keys t).zip (Nd.list t)).foldl (stepP s x) (false, [])))) u ∧ Below w.heap.size w w' := by
  obtain ⟨kind, num, str, keys, list⟩ := t
  obtain ⟨vk, vl, rfl, i1, i2, i3, hk', hl'⟩ := hv
  replace hk' : StrsAt S w vk keys := hk'
  replace hl' : RowAt S w (ValAt S w d) vl list := hl'
  replace hkx : keys.length = list.length := hkx
  replace hl60 : list.length ≤ 1000 := hl60
  obtain ⟨ak, ck, rfl, hkl⟩ := hk'.open'
  obtain ⟨al, cl, rfl, hll⟩ := hl'.open'
  obtain ⟨k', n', s', ak', lk', ck', al', ll', cl', rfl⟩ := hx.shape
  show Calls Tryz.prog 39 #[.agg #[.int .i64 kind, .int .i64 num, .string str, .slice ak keys.length ck, .slice al list.length cl], .string s, .agg #[.int .i64 k', .int .i64 n', .string s', .slice ak' lk' ck', .slice al' ll' cl']] w _
  obtain ⟨k0, k1, k2, hW0, hsz0⟩ := laid3 w 26 26 26 (.int .i64 kind) (.int .i64 num) (.string str) (.slice ak keys.length ck) (.slice al list.length cl) (.int .i64 k') (.int .i64 n') (.string s') (.slice ak' lk' ck') (.slice al' ll' cl') (.int .i64 0) (.int .i64 0) (.string { data := #[] }) (.slice none 0 0) (.slice none 0 0)
  obtain ⟨W0, hW⟩ : ∃ W0, W0 = ((w.alloc (.cells #[.int .i64 kind, .int .i64 num, .string str, .slice ak keys.length ck, .slice al list.length cl] 26)).alloc (.cells #[.int .i64 k', .int .i64 n', .string s', .slice ak' lk' ck', .slice al' ll' cl'] 26)).alloc (.cells #[.int .i64 0, .int .i64 0, .string { data := #[] }, .slice none 0 0, .slice none 0 0] 26) := ⟨_, rfl⟩
  rw [← hW] at k0 k1 k2 hW0 hsz0
  have hxw := hide (hx.same (hS.same hW0))
  have hkw := hide (hk'.same (hS.same hW0))
  have hlw := hide (hl'.same (hS.same hW0))
  have hS0 : ∀ b, S b → b < w.heap.size + 1 + 1 + 1 := fun b hb => by have := hS b hb; omega
  have hst : Hid (P2At d S (w.heap.size + 1 + 1 + 1) (w.heap.size + 1 + 1 + 1) W0 (W0.alloc (.cells #[.int .i64 6, .int .i64 0, .string { data := #[] }, .slice none 0 0, .slice none 0 0] 26)) [] [] (.slice none 0 0) (.slice none 0 0) []) := by
    have hn := Blk5.new W0 26 (.int .i64 6) (.int .i64 0) (.string { data := #[] }) (.slice none 0 0) (.slice none 0 0)
    rw [hsz0] at hn
    exact ⟨hn, World.ownsRow_nil _ _ _ _, ⟨World.ownsRow_nil _ _ _ _, fun j x h => by simp at h⟩, (below_alloc1 _ _).mono (by omega), by simp [Value.ownBlock], by simp [Value.ownBlock], fun g h => by simp [Value.ownBlock] at h, Nat.le_refl _⟩
  have HW := hide hW
  have HK := hide hkx
  have HST := hide (hst.out)
  obtain ⟨j0, hj', hjz0, hjz1, hjz2⟩ := info_parts Tryz.infoS2
  obtain ⟨i0, hi', hiz0, hiz1, hiz2⟩ := info_parts Tryz.infoV2
  have hj := hide hj'
  have hi := hide hi'
  clear hW hk' hl' hx hkx hj' hi' hst
  go_enter Tryz.func39, Tryz.ntmps39
  go_wp2_with fail
  go_loopw [8, 9] (fun dn i wr => ∃ (k : Nat) (kv lv : Value) (vs : List Value), k ≤ keys.length ∧ dn = .bool (putAt s x (keys.zip list) k).1 ∧ i = .int .i64 (k : Int) ∧ Hid (P2At d S (w.heap.size + 1 + 1 + 1) (w.heap.size + 1 + 1 + 1) W0 wr ((putAt s x (keys.zip list) k).2.map Prod.fst) ((putAt s x (keys.zip list) k).2.map Prod.snd) kv lv vs)) (fun _ i _ => keys.length - (intOf i).toNat)
  case atStart => exact ⟨0, _, _, [], Nat.zero_le _, rfl, rfl, by rw [← HW.out]; exact HST⟩
  case round =>
    clear HST
    obtain ⟨k, kv, lv, vs, hkk, rfl, rfl, hat⟩ := hrel
    obtain ⟨ka, kn, kc, rfl⟩ := row_slice hat.out.keys
    obtain ⟨la, ln, lc, rfl⟩ := row_slice hat.out.row.1
    obtain ⟨y0, y1, y2, y3, y4⟩ := hat.out.out.cell
    by_cases hkl : k < keys.length
    · have hki : (k : Int) < (keys.length : Int) := by omega
      obtain ⟨eb, eo, key, rfl, heS, hkey, hksz, e0⟩ := hkw.out.cell hkl
      obtain ⟨fb, fo, y, c0, c1, c2, c3, c4, rfl, hfS, hy, f0, f1, f2, f3, f4, hval⟩ := hlw.out.cell (by rw [← HK.out]; exact hkl)
      obtain ⟨q0, q1, q2, q3, q4, q5, q6, q7, q8, hq⟩ := hval.shape
      cases hq
      have hzk : (keys.zip list)[k]? = some (key, y) := List.getElem?_zip_eq_some.2 ⟨hkey, hy⟩
      have hnext := hide (putAt_step (s := s) (x := x) hzk)
      have hacc := hide (putAt_len (s := s) (x := x) (ps := keys.zip list) k)
      have hebl := hS0 eb heS
      have hfbl := hS0 fb hfS
      have HC : Hid (∀ W', Below (w.heap.size + 1 + 1 + 1) W0 W' → W'.cell? ⟨w.heap.size, 3, none⟩ = some (.slice (some ⟨eb, eo, none⟩) keys.length ck) ∧ W'.cell? ⟨w.heap.size, 4, none⟩ = some (.slice (some ⟨fb, fo, none⟩) list.length cl) ∧ W'.cell? ⟨eb, eo + k, none⟩ = some (.string key) ∧
          W'.cell? ⟨fb, fo + k * 5, none⟩ = some (.int .i64 q0) ∧ W'.cell? ⟨fb, fo + k * 5 + 1, none⟩ = some (.int .i64 q1) ∧ W'.cell? ⟨fb, fo + k * 5 + 2, none⟩ = some (.string q2) ∧ W'.cell? ⟨fb, fo + k * 5 + 3, none⟩ = some (.slice q3 q4 q5) ∧ W'.cell? ⟨fb, fo + k * 5 + 4, none⟩ = some (.slice q6 q7 q8)) := fun W' hb => by
        have kk := (k0.of_block (hb.block _ (by omega))).cell
        have he := fun o => World.cell?_of_block (w := W0) (w' := W') (a := ⟨eb, o, none⟩) (hb.block eb hebl)
        have hf := fun o => World.cell?_of_block (w := W0) (w' := W') (a := ⟨fb, o, none⟩) (hb.block fb hfbl)
        exact ⟨kk.2.2.2.1, kk.2.2.2.2, (he _).trans e0, (hf _).trans f0, (hf _).trans f1, (hf _).trans f2, (hf _).trans f3, (hf _).trans f4⟩
      have HVAL : Hid (∀ W', Below (w.heap.size + 1 + 1 + 1) W0 W' → ValAt S W' d y (.agg #[.int .i64 q0, .int .i64 q1, .string q2, .slice q3 q4 q5, .slice q6 q7 q8])) := fun W' hb => hval.same (fun b hb' => hb.block b (hS0 b hb'))
      have HLO : Hid (∀ W', Below (w.heap.size + 1 + 1 + 1) W0 W' → w.heap.size < W'.heap.size ∧ eb < W'.heap.size ∧ fb < W'.heap.size) := fun W' hb => by have := hb.size; exact ⟨by omega, by omega, by omega⟩
      have HKL := hide hkl
      have hk120 : k ≤ 1000 := by have := HK.out; omega
      have hki2 : (k : Int) < (list.length : Int) := by have := HK.out; omega
      clear hkey hy hzk hval hkk hkl e0 f0 f1 f2 f3 f4
      generalize hst' : putAt s x (keys.zip list) k = st at *
      obtain ⟨dn, acc⟩ := st
      clear hst'
      have hacc' : acc.length ≤ 2 * k := hacc.out
      obtain ⟨KS, hKS⟩ : ∃ l, l = acc.map Prod.fst := ⟨_, rfl⟩
      obtain ⟨XS, hXS⟩ : ∃ l, l = acc.map Prod.snd := ⟨_, rfl⟩
      have hKl : KS.length ≤ 2000 := by rw [hKS, List.length_map]; omega
      have hXl : XS.length ≤ 2000 := by rw [hXS, List.length_map]; omega
      replace hat : Hid (P2At d S (w.heap.size + 1 + 1 + 1) (w.heap.size + 1 + 1 + 1) W0 wr KS XS (.slice ka kn kc) (.slice la ln lc) vs) := by rw [hKS, hXS]; exact hat
      have HKS := hide hKS
      have HXS := hide hXS
      clear hKS hXS hacc hacc'
      obtain ⟨x3, x4, e0, f0, f1, f2, f3, f4⟩ := HC.out wr hat.out.below
      have hlo := HLO.out wr hat.out.below
      cases dn with
      | false =>
        cases hlt : Op.bytesLess key.toList s.toList with
        | true =>
          have heq : (key.toList == s.toList) = false := by
            cases hb : (key.toList == s.toList)
            · rfl
            · rw [beq_iff_eq.1 hb, bytesLess_irrefl] at hlt
              cases hlt
          go_upto_region 11 with fail
          go_cut [] (fun wc => ∃ a n c, Hid (P2At d S (w.heap.size + 1 + 1 + 1) (w.heap.size + 1 + 1 + 1) W0 wc (KS ++ [key]) XS (.slice a n c) (.slice la ln lc) vs))
          case first =>
            have hownC1 := hide (hat.out.drew.keys.alloc (.cells #[.string key] 9))
            have z' := fun o => ((hat.out.drew.out.alloc o).cell).2.2.2.1
            have hswC1 : w.heap.size + 1 + 1 + 1 < wr.heap.size := hat.out.out.lt
            go_wp2_with fail
            go_region_law ((refine step_append_run _ (by rfl) _ _ 23 (by rfl) _ _ (by rfl) (by rfl) (run_append_own_at (P := Tryz.prog) _ (w.heap.size + 1 + 1 + 1) 23 _ 9 j0 (.string ByteArray.empty) 1 16 Tryz.underlying23 hj.out hjz0 hjz1 hjz2 rfl (by decide) _ _ _ hownC1.out ⟨wr.heap.size, 0, none⟩ 1 1 [.string key] rfl (cell_one_new _ _ _) (by intro y hy; simp at hy; subst hy; rfl) (by unfold maxLen; omega) (by omega) (by rw [World.size_alloc]; show w.heap.size + 1 + 1 + 1 ≤ wr.heap.size + 1; omega)) ?_; rintro v' waC1 ⟨o1, o2, _, o3⟩; obtain ⟨kaC1, knC1, kcC1, rfl⟩ := row_slice o1; have HHC1 := hide (hat.out.drew.pushK hS0 o1 o2 o3); have zkC1 := HHC1.out.1.cell.2.2.2.1; have zfC1 := HHC1.out.1.frozen 3))
            all_goals
              go_wp2_with fail
              go_meet
              exact ⟨_, _, _, HHC1.out.2⟩
          case rest =>
          rename World => wC
          obtain ⟨kaC, knC, kcC, hatC⟩ := hcut
          clear hat y0 y1 y2 y3 y4 x3 x4 e0 f0 f1 f2 f3 f4 hlo
          obtain ⟨KC, hKC⟩ : ∃ l, l = KS ++ [key] := ⟨_, rfl⟩
          have hKlC : KC.length ≤ 2020 := by rw [hKC, List.length_append, List.length_singleton]; omega
          rw [← hKC] at hatC
          have HKC := hide hKC
          clear hKC
          obtain ⟨y0, y1, y2, y3, y4⟩ := hatC.out.out.cell
          obtain ⟨x3, x4, e0, f0, f1, f2, f3, f4⟩ := HC.out wC hatC.out.below
          have hlo := HLO.out wC hatC.out.below
          have hownC2 := hide (hatC.out.drew.row.1.alloc (.cells #[.int .i64 q0, .int .i64 q1, .string q2, .slice q3 q4 q5, .slice q6 q7 q8] 26))
          have z' := fun o => ((hatC.out.drew.out.alloc o).cell).2.2.2.2
          have hswC2 : w.heap.size + 1 + 1 + 1 < wC.heap.size := hatC.out.out.lt
          go_wp2_with fail
          go_region_law ((refine step_append_run _ (by rfl) _ _ 24 (by rfl) _ _ (by rfl) (by rfl) (run_append_own_at (P := Tryz.prog) _ (w.heap.size + 1 + 1 + 1) 24 _ 26 i0 zeroVal 5 80 Tryz.underlying24 hi.out hiz0 hiz1 hiz2 rfl (by decide) _ _ _ hownC2.out ⟨wC.heap.size, 0, none⟩ 1 1 [.int .i64 q0, .int .i64 q1, .string q2, .slice q3 q4 q5, .slice q6 q7 q8] rfl (cell_five_new _ _ _ _ _ _ _) (by intro y hy; simp at hy; rcases hy with rfl | rfl | rfl | rfl | rfl <;> rfl) (by unfold maxLen; omega) (by omega) (by rw [World.size_alloc]; show w.heap.size + 1 + 1 + 1 ≤ wC.heap.size + 1; omega)) ?_; rintro v' waC2 ⟨o1, o2, _, o3⟩; obtain ⟨kaC2, knC2, kcC2, rfl⟩ := row_slice o1; have HHC2 := hide (hatC.out.drew.pushX hS0 ((HVAL.out wC.drew hatC.out.drew.below)) o1 o2 o3); have zkC2 := HHC2.out.1.cell.2.2.2.2; have zfC2 := HHC2.out.1.frozen 4))
          all_goals
            have hauC := hide HHC2.out.2
            clear hatC y0 y1 y2 y3 y4 x3 x4 e0 f0 f1 f2 f3 f4 hlo o1 o2 o3 hownC2 z'
            have hnx : Hid (putAt s x (keys.zip list) (k + 1) = (false, acc ++ [(key, y)])) := by
              show putAt s x (keys.zip list) (k + 1) = _
              rw [hnext.out]
              simp [stepP, ltB, hlt, beq_bytes heq]
            go_wp2_with fail
            go_roundw
            case rel =>
              refine ⟨k + 1, .slice kaC knC kcC, .slice kaC2 knC2 kcC2, vs ++ [.int .i64 q0, .int .i64 q1, .string q2, .slice q3 q4 q5, .slice q6 q7 q8], HKL.out, by rw [hnx.out], by go_num, ?_⟩
              rw [hnx.out]
              simp only [List.map_append, List.map_cons, List.map_nil]
              rw [← HKS.out, ← HXS.out]
              have hh := hauC
              rw [HKC.out] at hh
              exact hh
            case measure => simp [intOf]; have := HKL.out; omega
        | false =>
          cases heq : (key.toList == s.toList) with
          | true =>
            have HOKA := hide (hat.out.keys.alloc (.cells #[.string s] 9))
            have hswA : w.heap.size + 1 + 1 + 1 ≤ wr.heap.size := by have := hat.out.out.lt; omega
            go_wp2_with (at_builtin; refine wpList_append_own_at _ rfl _ _ 23 rfl (w.heap.size + 1 + 1 + 1) 9 j0 (.string ByteArray.empty) 1 16 Tryz.underlying23 hj.out hjz0 hjz1 hjz2 rfl (by decide) _ _ _ rfl HOKA.out ⟨wr.heap.size, 0, none⟩ 1 1 [.string s] rfl rfl (cell_one_new _ _ _) ?c2 ?c3 ?c4 ?c5 ?_)
            case c2 => first | rfl | (intro y hy; simp at hy; subst hy; rfl)
            case c3 => first | omega | (unfold maxLen; omega)
            case c4 => omega
            case c5 => first | omega | (simp; omega)
            intro kvA waA o1 o2 _ o3
            have HHA := hide (hat.out.pushK hS0 o1 o2 (by rw [World.size_alloc]; exact o3))
            obtain ⟨kaA, knA, kcA, rfl⟩ := row_slice o1
            have zkA := HHA.out.1.cell.2.2.2.1
            have zfA := HHA.out.1.frozen 3
            clear o1 o2 o3 HOKA hat y0 y1 y2 y3 y4
            go_upto_region 8 with fail
            obtain ⟨wbA, hwA⟩ : ∃ wb, wb = waA.setCell ⟨w.heap.size + 1 + 1 + 1, 3, none⟩ (.slice kaA knA kcA) := ⟨_, rfl⟩
            obtain ⟨KSA, hKSA⟩ : ∃ l, l = KS ++ [s] := ⟨_, rfl⟩
            have hlKSA : KSA.length = KS.length + 1 := by rw [hKSA]; simp
            have hleKSA : KSA.length ≤ 2010 := by omega
            have hatA := hide HHA.out.2
            rw [← hwA, ← hKSA] at hatA
            rw [← hwA]
            have HKSA := hide hKSA
            clear hwA HHA zkA zfA hKSA hlKSA
            obtain ⟨y0, y1, y2, y3, y4⟩ := hatA.out.out.cell
            have HOXB := hide (hatA.out.row.1.alloc (.cells #[.int .i64 k', .int .i64 n', .string s', .slice ak' lk' ck', .slice al' ll' cl'] 26))
            have hswB : w.heap.size + 1 + 1 + 1 ≤ wbA.heap.size := by have := hatA.out.out.lt; omega
            have hbxB := hatA.out.below
            obtain ⟨p0, p1, p2, p3, p4⟩ := (k1.of_block (hbxB.block _ (by omega))).cell
            go_wp2_with (at_builtin; refine wpList_append_own_at _ rfl _ _ 24 rfl (w.heap.size + 1 + 1 + 1) 26 i0 zeroVal 5 80 Tryz.underlying24 hi.out hiz0 hiz1 hiz2 rfl (by decide) _ _ _ rfl HOXB.out ⟨wbA.heap.size, 0, none⟩ 1 1 [.int .i64 k', .int .i64 n', .string s', .slice ak' lk' ck', .slice al' ll' cl'] rfl rfl (cell_five_new _ _ _ _ _ _ _) ?c2 ?c3 ?c4 ?c5 ?_)
            case c2 => first | (intro y hy; simp at hy; rcases hy with rfl | rfl | rfl | rfl | rfl <;> rfl) | exact ⟨rfl, rfl, rfl, rfl, rfl⟩ | simp [Value.oneCell']
            case c3 => first | omega | (unfold maxLen; omega)
            case c4 => omega
            case c5 => first | omega | (simp; omega)
            intro lvB waB o1 o2 _ o3
            have HHB := hide (hatA.out.pushX hS0 (hxw.out.same (fun b hb' => hbxB.block b (hS0 b hb'))) o1 o2 (by rw [World.size_alloc]; exact o3))
            obtain ⟨kaB, knB, kcB, rfl⟩ := row_slice o1
            have zkB := HHB.out.1.cell.2.2.2.2
            have zfB := HHB.out.1.frozen 4
            clear o1 o2 o3 HOXB hatA hbxB p0 p1 p2 p3 p4 y0 y1 y2 y3 y4
            go_upto_region 9 with fail
            obtain ⟨wbB, hwB⟩ : ∃ wb, wb = waB.setCell ⟨w.heap.size + 1 + 1 + 1, 4, none⟩ (.slice kaB knB kcB) := ⟨_, rfl⟩
            obtain ⟨XSB, hXSB⟩ : ∃ l, l = XS ++ [x] := ⟨_, rfl⟩
            have hlXSB : XSB.length = XS.length + 1 := by rw [hXSB]; simp
            have hleXSB : XSB.length ≤ 2010 := by omega
            have hatB := hide HHB.out.2
            rw [← hwB, ← hXSB] at hatB
            rw [← hwB]
            have HXSB := hide hXSB
            clear hwB HHB zkB zfB hXSB hlXSB
            obtain ⟨y0, y1, y2, y3, y4⟩ := hatB.out.out.cell
            clear x3 x4 e0 f0 f1 f2 f3 f4 hlo
            obtain ⟨x3, x4, e0, f0, f1, f2, f3, f4⟩ := HC.out wbB hatB.out.below
            have hlo := HLO.out wbB hatB.out.below
            have hnx : Hid (putAt s x (keys.zip list) (k + 1) = (true, acc ++ [(s, x)])) := by
              show putAt s x (keys.zip list) (k + 1) = _
              rw [hnext.out]
              simp [stepP, ltB, hlt, beq_bytes heq]
            go_wp2_with fail
            go_roundw
            case rel =>
              refine ⟨k + 1, .slice kaA knA kcA, .slice kaB knB kcB, vs ++ [.int .i64 k', .int .i64 n', .string s', .slice ak' lk' ck', .slice al' ll' cl'], HKL.out, by rw [hnx.out], by go_num, ?_⟩
              rw [hnx.out, List.map_append, List.map_append, ← HKS.out, ← HXS.out]
              have hh := hatB
              rw [HKSA.out, HXSB.out] at hh
              exact hh
            case measure => simp [intOf]; have := HKL.out; omega
          | false =>
            have HOKA := hide (hat.out.keys.alloc (.cells #[.string s] 9))
            have hswA : w.heap.size + 1 + 1 + 1 ≤ wr.heap.size := by have := hat.out.out.lt; omega
            go_wp2_with (at_builtin; refine wpList_append_own_at _ rfl _ _ 23 rfl (w.heap.size + 1 + 1 + 1) 9 j0 (.string ByteArray.empty) 1 16 Tryz.underlying23 hj.out hjz0 hjz1 hjz2 rfl (by decide) _ _ _ rfl HOKA.out ⟨wr.heap.size, 0, none⟩ 1 1 [.string s] rfl rfl (cell_one_new _ _ _) ?c2 ?c3 ?c4 ?c5 ?_)
            case c2 => first | rfl | (intro y hy; simp at hy; subst hy; rfl)
            case c3 => first | omega | (unfold maxLen; omega)
            case c4 => omega
            case c5 => first | omega | (simp; omega)
            intro kvA waA o1 o2 _ o3
            have HHA := hide (hat.out.pushK hS0 o1 o2 (by rw [World.size_alloc]; exact o3))
            obtain ⟨kaA, knA, kcA, rfl⟩ := row_slice o1
            have zkA := HHA.out.1.cell.2.2.2.1
            have zfA := HHA.out.1.frozen 3
            clear o1 o2 o3 HOKA hat y0 y1 y2 y3 y4
            go_upto_region 8 with fail
            obtain ⟨wbA, hwA⟩ : ∃ wb, wb = waA.setCell ⟨w.heap.size + 1 + 1 + 1, 3, none⟩ (.slice kaA knA kcA) := ⟨_, rfl⟩
            obtain ⟨KSA, hKSA⟩ : ∃ l, l = KS ++ [s] := ⟨_, rfl⟩
            have hlKSA : KSA.length = KS.length + 1 := by rw [hKSA]; simp
            have hleKSA : KSA.length ≤ 2010 := by omega
            have hatA := hide HHA.out.2
            rw [← hwA, ← hKSA] at hatA
            rw [← hwA]
            have HKSA := hide hKSA
            clear hwA HHA zkA zfA hKSA hlKSA
            obtain ⟨y0, y1, y2, y3, y4⟩ := hatA.out.out.cell
            have HOXB := hide (hatA.out.row.1.alloc (.cells #[.int .i64 k', .int .i64 n', .string s', .slice ak' lk' ck', .slice al' ll' cl'] 26))
            have hswB : w.heap.size + 1 + 1 + 1 ≤ wbA.heap.size := by have := hatA.out.out.lt; omega
            have hbxB := hatA.out.below
            obtain ⟨p0, p1, p2, p3, p4⟩ := (k1.of_block (hbxB.block _ (by omega))).cell
            go_wp2_with (at_builtin; refine wpList_append_own_at _ rfl _ _ 24 rfl (w.heap.size + 1 + 1 + 1) 26 i0 zeroVal 5 80 Tryz.underlying24 hi.out hiz0 hiz1 hiz2 rfl (by decide) _ _ _ rfl HOXB.out ⟨wbA.heap.size, 0, none⟩ 1 1 [.int .i64 k', .int .i64 n', .string s', .slice ak' lk' ck', .slice al' ll' cl'] rfl rfl (cell_five_new _ _ _ _ _ _ _) ?c2 ?c3 ?c4 ?c5 ?_)
            case c2 => first | (intro y hy; simp at hy; rcases hy with rfl | rfl | rfl | rfl | rfl <;> rfl) | exact ⟨rfl, rfl, rfl, rfl, rfl⟩ | simp [Value.oneCell']
            case c3 => first | omega | (unfold maxLen; omega)
            case c4 => omega
            case c5 => first | omega | (simp; omega)
            intro lvB waB o1 o2 _ o3
            have HHB := hide (hatA.out.pushX hS0 (hxw.out.same (fun b hb' => hbxB.block b (hS0 b hb'))) o1 o2 (by rw [World.size_alloc]; exact o3))
            obtain ⟨kaB, knB, kcB, rfl⟩ := row_slice o1
            have zkB := HHB.out.1.cell.2.2.2.2
            have zfB := HHB.out.1.frozen 4
            clear o1 o2 o3 HOXB hatA hbxB p0 p1 p2 p3 p4 y0 y1 y2 y3 y4
            go_upto_region 9 with fail
            obtain ⟨wbB, hwB⟩ : ∃ wb, wb = waB.setCell ⟨w.heap.size + 1 + 1 + 1, 4, none⟩ (.slice kaB knB kcB) := ⟨_, rfl⟩
            obtain ⟨XSB, hXSB⟩ : ∃ l, l = XS ++ [x] := ⟨_, rfl⟩
            have hlXSB : XSB.length = XS.length + 1 := by rw [hXSB]; simp
            have hleXSB : XSB.length ≤ 2010 := by omega
            have hatB := hide HHB.out.2
            rw [← hwB, ← hXSB] at hatB
            rw [← hwB]
            have HXSB := hide hXSB
            clear hwB HHB zkB zfB hXSB hlXSB
            obtain ⟨y0, y1, y2, y3, y4⟩ := hatB.out.out.cell
            clear x3 x4 e0 f0 f1 f2 f3 f4 hlo
            obtain ⟨x3, x4, e0, f0, f1, f2, f3, f4⟩ := HC.out wbB hatB.out.below
            have hlo := HLO.out wbB hatB.out.below
            go_upto_region 11 with fail
            go_cut [] (fun wc => ∃ a n c, Hid (P2At d S (w.heap.size + 1 + 1 + 1) (w.heap.size + 1 + 1 + 1) W0 wc (KSA ++ [key]) XSB (.slice a n c) (.slice kaB knB kcB) (vs ++ [.int .i64 k', .int .i64 n', .string s', .slice ak' lk' ck', .slice al' ll' cl'])))
            case first =>
              have hownC1 := hide (hatB.out.drew.keys.alloc (.cells #[.string key] 9))
              have z' := fun o => ((hatB.out.drew.out.alloc o).cell).2.2.2.1
              have hswC1 : w.heap.size + 1 + 1 + 1 < wbB.heap.size := hatB.out.out.lt
              go_wp2_with fail
              go_region_law ((refine step_append_run _ (by rfl) _ _ 23 (by rfl) _ _ (by rfl) (by rfl) (run_append_own_at (P := Tryz.prog) _ (w.heap.size + 1 + 1 + 1) 23 _ 9 j0 (.string ByteArray.empty) 1 16 Tryz.underlying23 hj.out hjz0 hjz1 hjz2 rfl (by decide) _ _ _ hownC1.out ⟨wbB.heap.size, 0, none⟩ 1 1 [.string key] rfl (cell_one_new _ _ _) (by intro y hy; simp at hy; subst hy; rfl) (by unfold maxLen; omega) (by omega) (by rw [World.size_alloc]; show w.heap.size + 1 + 1 + 1 ≤ wbB.heap.size + 1; omega)) ?_; rintro v' waC1 ⟨o1, o2, _, o3⟩; obtain ⟨kaC1, knC1, kcC1, rfl⟩ := row_slice o1; have HHC1 := hide (hatB.out.drew.pushK hS0 o1 o2 o3); have zkC1 := HHC1.out.1.cell.2.2.2.1; have zfC1 := HHC1.out.1.frozen 3))
              all_goals
                go_wp2_with fail
                go_meet
                exact ⟨_, _, _, HHC1.out.2⟩
            case rest =>
            rename World => wC
            obtain ⟨kaC, knC, kcC, hatC⟩ := hcut
            clear hatB y0 y1 y2 y3 y4 x3 x4 e0 f0 f1 f2 f3 f4 hlo
            obtain ⟨KC, hKC⟩ : ∃ l, l = KSA ++ [key] := ⟨_, rfl⟩
            have hKlC : KC.length ≤ 2020 := by rw [hKC, List.length_append, List.length_singleton]; omega
            rw [← hKC] at hatC
            have HKC := hide hKC
            clear hKC
            obtain ⟨y0, y1, y2, y3, y4⟩ := hatC.out.out.cell
            obtain ⟨x3, x4, e0, f0, f1, f2, f3, f4⟩ := HC.out wC hatC.out.below
            have hlo := HLO.out wC hatC.out.below
            have hownC2 := hide (hatC.out.drew.row.1.alloc (.cells #[.int .i64 q0, .int .i64 q1, .string q2, .slice q3 q4 q5, .slice q6 q7 q8] 26))
            have z' := fun o => ((hatC.out.drew.out.alloc o).cell).2.2.2.2
            have hswC2 : w.heap.size + 1 + 1 + 1 < wC.heap.size := hatC.out.out.lt
            go_wp2_with fail
            go_region_law ((refine step_append_run _ (by rfl) _ _ 24 (by rfl) _ _ (by rfl) (by rfl) (run_append_own_at (P := Tryz.prog) _ (w.heap.size + 1 + 1 + 1) 24 _ 26 i0 zeroVal 5 80 Tryz.underlying24 hi.out hiz0 hiz1 hiz2 rfl (by decide) _ _ _ hownC2.out ⟨wC.heap.size, 0, none⟩ 1 1 [.int .i64 q0, .int .i64 q1, .string q2, .slice q3 q4 q5, .slice q6 q7 q8] rfl (cell_five_new _ _ _ _ _ _ _) (by intro y hy; simp at hy; rcases hy with rfl | rfl | rfl | rfl | rfl <;> rfl) (by unfold maxLen; omega) (by omega) (by rw [World.size_alloc]; show w.heap.size + 1 + 1 + 1 ≤ wC.heap.size + 1; omega)) ?_; rintro v' waC2 ⟨o1, o2, _, o3⟩; obtain ⟨kaC2, knC2, kcC2, rfl⟩ := row_slice o1; have HHC2 := hide (hatC.out.drew.pushX hS0 ((HVAL.out wC.drew hatC.out.drew.below)) o1 o2 o3); have zkC2 := HHC2.out.1.cell.2.2.2.2; have zfC2 := HHC2.out.1.frozen 4))
            all_goals
              have hauC := hide HHC2.out.2
              clear hatC y0 y1 y2 y3 y4 x3 x4 e0 f0 f1 f2 f3 f4 hlo o1 o2 o3 hownC2 z'
              have hnx : Hid (putAt s x (keys.zip list) (k + 1) = (true, acc ++ [(s, x)] ++ [(key, y)])) := by
                show putAt s x (keys.zip list) (k + 1) = _
                rw [hnext.out]
                simp [stepP, ltB, hlt, beq_bytes heq]
              go_wp2_with fail
              go_roundw
              case rel =>
                refine ⟨k + 1, .slice kaC knC kcC, .slice kaC2 knC2 kcC2, vs ++ [.int .i64 k', .int .i64 n', .string s', .slice ak' lk' ck', .slice al' ll' cl'] ++ [.int .i64 q0, .int .i64 q1, .string q2, .slice q3 q4 q5, .slice q6 q7 q8], HKL.out, by rw [hnx.out], by go_num, ?_⟩
                rw [hnx.out]
                simp only [List.map_append, List.map_cons, List.map_nil]
                rw [← HKS.out, ← HXS.out]
                have hh := hauC
                rw [HKC.out, HKSA.out, HXSB.out] at hh
                exact hh
              case measure => simp [intOf]; have := HKL.out; omega
      | true =>
        cases heq : (key.toList == s.toList) with
        | true =>
          have hnx : Hid (putAt s x (keys.zip list) (k + 1) = (true, acc)) := by
            show putAt s x (keys.zip list) (k + 1) = _
            rw [hnext.out]
            simp [stepP, beq_bytes heq]
          have HAT := hide hat.out
          clear hat
          go_wp2_with fail
          go_roundw
          case rel =>
            refine ⟨k + 1, .slice ka kn kc, .slice la ln lc, vs, HKL.out, by rw [hnx.out], by go_num, ?_⟩
            rw [hnx.out]
            show Hid (P2At d S _ _ W0 wr (acc.map Prod.fst) (acc.map Prod.snd) _ _ _)
            rw [← HKS.out, ← HXS.out]
            exact HAT
          case measure => simp [intOf]; have := HKL.out; omega
        | false =>
          go_upto_region 11 with fail
          go_cut [] (fun wc => ∃ a n c, Hid (P2At d S (w.heap.size + 1 + 1 + 1) (w.heap.size + 1 + 1 + 1) W0 wc (KS ++ [key]) XS (.slice a n c) (.slice la ln lc) vs))
          case first =>
            have hownC1 := hide (hat.out.drew.keys.alloc (.cells #[.string key] 9))
            have z' := fun o => ((hat.out.drew.out.alloc o).cell).2.2.2.1
            have hswC1 : w.heap.size + 1 + 1 + 1 < wr.heap.size := hat.out.out.lt
            go_wp2_with fail
            go_region_law ((refine step_append_run _ (by rfl) _ _ 23 (by rfl) _ _ (by rfl) (by rfl) (run_append_own_at (P := Tryz.prog) _ (w.heap.size + 1 + 1 + 1) 23 _ 9 j0 (.string ByteArray.empty) 1 16 Tryz.underlying23 hj.out hjz0 hjz1 hjz2 rfl (by decide) _ _ _ hownC1.out ⟨wr.heap.size, 0, none⟩ 1 1 [.string key] rfl (cell_one_new _ _ _) (by intro y hy; simp at hy; subst hy; rfl) (by unfold maxLen; omega) (by omega) (by rw [World.size_alloc]; show w.heap.size + 1 + 1 + 1 ≤ wr.heap.size + 1; omega)) ?_; rintro v' waC1 ⟨o1, o2, _, o3⟩; obtain ⟨kaC1, knC1, kcC1, rfl⟩ := row_slice o1; have HHC1 := hide (hat.out.drew.pushK hS0 o1 o2 o3); have zkC1 := HHC1.out.1.cell.2.2.2.1; have zfC1 := HHC1.out.1.frozen 3))
            all_goals
              go_wp2_with fail
              go_meet
              exact ⟨_, _, _, HHC1.out.2⟩
          case rest =>
          rename World => wC
          obtain ⟨kaC, knC, kcC, hatC⟩ := hcut
          clear hat y0 y1 y2 y3 y4 x3 x4 e0 f0 f1 f2 f3 f4 hlo
          obtain ⟨KC, hKC⟩ : ∃ l, l = KS ++ [key] := ⟨_, rfl⟩
          have hKlC : KC.length ≤ 2020 := by rw [hKC, List.length_append, List.length_singleton]; omega
          rw [← hKC] at hatC
          have HKC := hide hKC
          clear hKC
          obtain ⟨y0, y1, y2, y3, y4⟩ := hatC.out.out.cell
          obtain ⟨x3, x4, e0, f0, f1, f2, f3, f4⟩ := HC.out wC hatC.out.below
          have hlo := HLO.out wC hatC.out.below
          have hownC2 := hide (hatC.out.drew.row.1.alloc (.cells #[.int .i64 q0, .int .i64 q1, .string q2, .slice q3 q4 q5, .slice q6 q7 q8] 26))
          have z' := fun o => ((hatC.out.drew.out.alloc o).cell).2.2.2.2
          have hswC2 : w.heap.size + 1 + 1 + 1 < wC.heap.size := hatC.out.out.lt
          go_wp2_with fail
          go_region_law ((refine step_append_run _ (by rfl) _ _ 24 (by rfl) _ _ (by rfl) (by rfl) (run_append_own_at (P := Tryz.prog) _ (w.heap.size + 1 + 1 + 1) 24 _ 26 i0 zeroVal 5 80 Tryz.underlying24 hi.out hiz0 hiz1 hiz2 rfl (by decide) _ _ _ hownC2.out ⟨wC.heap.size, 0, none⟩ 1 1 [.int .i64 q0, .int .i64 q1, .string q2, .slice q3 q4 q5, .slice q6 q7 q8] rfl (cell_five_new _ _ _ _ _ _ _) (by intro y hy; simp at hy; rcases hy with rfl | rfl | rfl | rfl | rfl <;> rfl) (by unfold maxLen; omega) (by omega) (by rw [World.size_alloc]; show w.heap.size + 1 + 1 + 1 ≤ wC.heap.size + 1; omega)) ?_; rintro v' waC2 ⟨o1, o2, _, o3⟩; obtain ⟨kaC2, knC2, kcC2, rfl⟩ := row_slice o1; have HHC2 := hide (hatC.out.drew.pushX hS0 ((HVAL.out wC.drew hatC.out.drew.below)) o1 o2 o3); have zkC2 := HHC2.out.1.cell.2.2.2.2; have zfC2 := HHC2.out.1.frozen 4))
          all_goals
            have hauC := hide HHC2.out.2
            clear hatC y0 y1 y2 y3 y4 x3 x4 e0 f0 f1 f2 f3 f4 hlo o1 o2 o3 hownC2 z'
            have hnx : Hid (putAt s x (keys.zip list) (k + 1) = (true, acc ++ [(key, y)])) := by
              show putAt s x (keys.zip list) (k + 1) = _
              rw [hnext.out]
              simp [stepP, ltB, beq_bytes heq]
            go_wp2_with fail
            go_roundw
            case rel =>
              refine ⟨k + 1, .slice kaC knC kcC, .slice kaC2 knC2 kcC2, vs ++ [.int .i64 q0, .int .i64 q1, .string q2, .slice q3 q4 q5, .slice q6 q7 q8], HKL.out, by rw [hnx.out], by go_num, ?_⟩
              rw [hnx.out]
              simp only [List.map_append, List.map_cons, List.map_nil]
              rw [← HKS.out, ← HXS.out]
              have hh := hauC
              rw [HKC.out] at hh
              exact hh
            case measure => simp [intOf]; have := HKL.out; omega
    · obtain rfl : k = keys.length := by omega
      have hfull : putAt s x (keys.zip list) keys.length = (keys.zip list).foldl (stepP s x) (false, []) := by
        unfold putAt
        rw [List.take_of_length_le (by rw [List.length_zip]; omega)]
      have hacc := hide (putAt_len (s := s) (x := x) (ps := keys.zip list) keys.length)
      have hall : Hid (∀ p ∈ (putAt s x (keys.zip list) keys.length).2, p.1.size < 281474976710656) := by
        rw [hfull]
        exact foldP_all hsz (keys.zip list) (false, []) (fun p hp => by cases hp) (fun p hp => hkw.out.2.1 _ (zip_key hp))
      have HFULL := hide hfull.symm
      clear hfull
      have hk60 : keys.length ≤ 1000 := by have := HK.out; omega
      have kx0 := (k0.of_block (hat.out.below.block _ (by omega))).cell
      obtain ⟨x0, x1, x2, x3, x4⟩ := kx0
      generalize hst' : putAt s x (keys.zip list) keys.length = st at *
      obtain ⟨dn, acc⟩ := st
      clear hst'
      have hacc' : acc.length ≤ 2 * keys.length := hacc.out
      have hall' : ∀ p ∈ acc, p.1.size < 281474976710656 := hall.out
      obtain ⟨KS, hKS⟩ : ∃ l, l = acc.map Prod.fst := ⟨_, rfl⟩
      obtain ⟨XS, hXS⟩ : ∃ l, l = acc.map Prod.snd := ⟨_, rfl⟩
      have hKl : KS.length ≤ 2000 := by rw [hKS, List.length_map]; omega
      have hXl : XS.length ≤ 2000 := by rw [hXS, List.length_map]; omega
      replace hat : Hid (P2At d S (w.heap.size + 1 + 1 + 1) (w.heap.size + 1 + 1 + 1) W0 wr KS XS (.slice ka kn kc) (.slice la ln lc) vs) := by rw [hKS, hXS]; exact hat
      have HKS := hide hKS
      have HXS := hide hXS
      clear hKS hXS hacc hall hkw hlw
      cases dn with
      | true =>
        have HEND := hide (endP_true (s := s) (x := x) acc)
        have HSZ := hide hall'
        have hend := hide (P2At.done (w := w) (r := w.heap.size + 1 + 1) (ps := acc) hat.out HKS.out HXS.out hS (by omega) (by omega) hW0 (by omega) HSZ.out)
        have kz := k2.of_block (hat.out.below.block _ (by omega))
        obtain ⟨z0, z1, z2, z3, z4⟩ := kz.cell
        have zf := kz.frozen
        clear hat kz
        go_wp2_with fail
        rw [HFULL.out, HEND.out]
        refine bodyPost_ret (v := .agg #[.int .i64 6, .int .i64 0, .string { data := #[] }, .slice ka kn kc, .slice la ln lc]) (by simp [results, Tryz.results39, go_sem, z0, z1, z2, z3, z4]) rfl ⟨_, rfl, hend.out _ rfl⟩
      | false =>
        have HEND := hide (endP_false (s := s) (x := x) acc)
        have HSZ : Hid (∀ p ∈ acc ++ [(s, x)], p.1.size < 281474976710656) := fun p hp => by
          rcases List.mem_append.1 hp with h | h
          · exact hall' p h
          · rw [List.mem_singleton.1 h]; exact hsz
        have HOKE := hide (hat.out.keys.alloc (.cells #[.string s] 9))
        have hswE : w.heap.size + 1 + 1 + 1 ≤ wr.heap.size := by have := hat.out.out.lt; omega
        go_wp2_with (at_builtin; refine wpList_append_own_at _ rfl _ _ 23 rfl (w.heap.size + 1 + 1 + 1) 9 j0 (.string ByteArray.empty) 1 16 Tryz.underlying23 hj.out hjz0 hjz1 hjz2 rfl (by decide) _ _ _ rfl HOKE.out ⟨wr.heap.size, 0, none⟩ 1 1 [.string s] rfl rfl (cell_one_new _ _ _) ?c2 ?c3 ?c4 ?c5 ?_)
        case c2 => first | rfl | (intro y hy; simp at hy; subst hy; rfl)
        case c3 => first | omega | (unfold maxLen; omega)
        case c4 => omega
        case c5 => first | omega | (simp; omega)
        intro kvE waE o1 o2 _ o3
        have HHE := hide (hat.out.pushK hS0 o1 o2 (by rw [World.size_alloc]; exact o3))
        obtain ⟨kaE, knE, kcE, rfl⟩ := row_slice o1
        have zkE := HHE.out.1.cell.2.2.2.1
        have zfE := HHE.out.1.frozen 3
        clear o1 o2 o3 HOKE hat y0 y1 y2 y3 y4
        go_upto_region 15 with fail
        obtain ⟨wbE, hwE⟩ : ∃ wb, wb = waE.setCell ⟨w.heap.size + 1 + 1 + 1, 3, none⟩ (.slice kaE knE kcE) := ⟨_, rfl⟩
        obtain ⟨KSE, hKSE⟩ : ∃ l, l = KS ++ [s] := ⟨_, rfl⟩
        have hlKSE : KSE.length = KS.length + 1 := by rw [hKSE]; simp
        have hleKSE : KSE.length ≤ 2010 := by omega
        have hatE := hide HHE.out.2
        rw [← hwE, ← hKSE] at hatE
        rw [← hwE]
        have HKSE := hide hKSE
        clear hwE HHE zkE zfE hKSE hlKSE
        obtain ⟨y0, y1, y2, y3, y4⟩ := hatE.out.out.cell
        have HOXF := hide (hatE.out.row.1.alloc (.cells #[.int .i64 k', .int .i64 n', .string s', .slice ak' lk' ck', .slice al' ll' cl'] 26))
        have hswF : w.heap.size + 1 + 1 + 1 ≤ wbE.heap.size := by have := hatE.out.out.lt; omega
        have hbxF := hatE.out.below
        obtain ⟨p0, p1, p2, p3, p4⟩ := (k1.of_block (hbxF.block _ (by omega))).cell
        go_wp2_with (at_builtin; refine wpList_append_own_at _ rfl _ _ 24 rfl (w.heap.size + 1 + 1 + 1) 26 i0 zeroVal 5 80 Tryz.underlying24 hi.out hiz0 hiz1 hiz2 rfl (by decide) _ _ _ rfl HOXF.out ⟨wbE.heap.size, 0, none⟩ 1 1 [.int .i64 k', .int .i64 n', .string s', .slice ak' lk' ck', .slice al' ll' cl'] rfl rfl (cell_five_new _ _ _ _ _ _ _) ?c2 ?c3 ?c4 ?c5 ?_)
        case c2 => first | (intro y hy; simp at hy; rcases hy with rfl | rfl | rfl | rfl | rfl <;> rfl) | exact ⟨rfl, rfl, rfl, rfl, rfl⟩ | simp [Value.oneCell']
        case c3 => first | omega | (unfold maxLen; omega)
        case c4 => omega
        case c5 => first | omega | (simp; omega)
        intro lvF waF o1 o2 _ o3
        have HHF := hide (hatE.out.pushX hS0 (hxw.out.same (fun b hb' => hbxF.block b (hS0 b hb'))) o1 o2 (by rw [World.size_alloc]; exact o3))
        obtain ⟨kaF, knF, kcF, rfl⟩ := row_slice o1
        have zkF := HHF.out.1.cell.2.2.2.2
        have zfF := HHF.out.1.frozen 4
        clear o1 o2 o3 HOXF hatE hbxF p0 p1 p2 p3 p4 y0 y1 y2 y3 y4
        go_upto_region 16 with fail
        obtain ⟨wbF, hwF⟩ : ∃ wb, wb = waF.setCell ⟨w.heap.size + 1 + 1 + 1, 4, none⟩ (.slice kaF knF kcF) := ⟨_, rfl⟩
        obtain ⟨XSF, hXSF⟩ : ∃ l, l = XS ++ [x] := ⟨_, rfl⟩
        have hlXSF : XSF.length = XS.length + 1 := by rw [hXSF]; simp
        have hleXSF : XSF.length ≤ 2010 := by omega
        have hatF := hide HHF.out.2
        rw [← hwF, ← hXSF] at hatF
        rw [← hwF]
        have HXSF := hide hXSF
        clear hwF HHF zkF zfF hXSF hlXSF
        obtain ⟨y0, y1, y2, y3, y4⟩ := hatF.out.out.cell
        have hend := hide (P2At.done (w := w) (r := w.heap.size + 1 + 1) (ps := acc ++ [(s, x)]) hatF.out (by rw [HKSE.out, HKS.out, List.map_append]; rfl) (by rw [HXSF.out, HXS.out, List.map_append]; rfl) hS (by omega) (by omega) hW0 (by rw [List.length_append, List.length_singleton]; omega) HSZ.out)
        have kz := k2.of_block (hatF.out.below.block _ (by omega))
        obtain ⟨z0, z1, z2, z3, z4⟩ := kz.cell
        have zf := kz.frozen
        clear hatF kz
        go_wp2_with fail
        rw [HFULL.out, HEND.out]
        refine bodyPost_ret (v := .agg #[.int .i64 6, .int .i64 0, .string { data := #[] }, .slice kaE knE kcE, .slice kaF knF kcF]) (by simp [results, Tryz.results39, go_sem, z0, z1, z2, z3, z4]) rfl ⟨_, rfl, hend.out _ rfl⟩
theorem l2Put_any (d : Nat) (S : Nat → Prop) (t : Tr (d + 1)) (v : Value) (s : ByteArray) (x : Tr d) (xv : Value) (w : World) (hv : ValAt S w (d + 1) t v) (hx : ValAt S w d x xv) (hS : Within S w) (hkx : (Nd.keys t).length = (Nd.list t).length) (hl60 : (Nd.list t).length ≤ 60) (hsz : s.size < 281474976710656) :
    Calls Tryz.prog 39 #[v, .string s, xv] w fun e w' => ∃ u, e = .returned u ∧ ValAt (fun b => S b ∨ Fresh w w' b) w' (d + 1) (mapT d (endP s x (((Nd.keys t).zip (Nd.list t)).foldl (stepP s x) (false, [])))) u ∧ Below w.heap.size w w' :=
  l2Put_wide d S t v s x xv w hv hx hS hkx (Nat.le_trans hl60 (by omega)) hsz
end Go.Proofs.YtoangpfmjohhmaaGreatDoor

/- RowKeys of the model. -/
namespace Go.Proofs.YtoangpfmjohhmaaGreatDoor
open Go.RowKit Go.Deep

theorem Blk5.all {w : World} {b : Nat} {T : TypeId} {c0 c1 c2 c3 c4 : Value} (h : Blk5 w b T c0 c1 c2 c3 c4) (v0 v1 v2 v3 v4 : Value) : Blk5 (set5 w b 0 v0 v1 v2 v3 v4) b T v0 v1 v2 v3 v4 := by
  unfold Blk5 at h ⊢
  simp [set5, World.setCell, Array.getElem?_modify, h]
theorem ValAt.five {S : Nat → Prop} {w : World} {d : Nat} {t : Tr (d + 1)} {k n : Int} {s : ByteArray} {ak al : Option Addr} {lk ck ll cl : Nat} (h : ValAt S w (d + 1) t (.agg #[.int .i64 k, .int .i64 n, .string s, .slice ak lk ck, .slice al ll cl])) :
    k = Nd.kind t ∧ s = Nd.str t ∧ ll = (Nd.list t).length ∧ RowAt S w (ValAt S w d) (.slice al ll cl) (Nd.list t) := by
  obtain ⟨vk, vl, hv, i1, i2, i3, hk, hl⟩ := h
  obtain ⟨a, c, rfl, _⟩ := hl.open'
  simp at hv
  obtain ⟨rfl, _, rfl, _, rfl, rfl, rfl⟩ := hv
  exact ⟨rfl, rfl, rfl, hl⟩

/-- The variable that is told at the end. -/
structure OutAt (d : Nat) (S : Nat → Prop) (ob : Nat) (W wr : World) (acc : List (ByteArray × Tr (d + 1))) (kv lv : Value) : Prop where
  blk : Blk5 wr ob 26 (.int .i64 6) (.int .i64 0) (.string { data := #[] }) kv lv
  val : ValAt (fun b => S b ∨ (ob < b ∧ b < wr.heap.size)) wr (d + 2) (mapT (d + 1) acc) (.agg #[.int .i64 6, .int .i64 0, .string { data := #[] }, kv, lv])
  below : Below ob W wr
theorem OutAt.shape {d ob : Nat} {S : Nat → Prop} {W wr : World} {acc : List (ByteArray × Tr (d + 1))} {kv lv : Value} (h : OutAt d S ob W wr acc kv lv) : ∃ ka kn kc la ln lc, kv = .slice ka kn kc ∧ lv = .slice la ln lc := by
  obtain ⟨vk, vl, hve, _, _, _, hkk, hll⟩ := h.val
  obtain ⟨ka, kc, hka, _⟩ := hkk.open'
  obtain ⟨la, lc, hla, _⟩ := hll.open'
  simp at hve
  exact ⟨_, _, _, _, _, _, hve.2.2.2.1.trans hka, hve.2.2.2.2.trans hla⟩
theorem OutAt.start {d : Nat} (S : Nat → Prop) (w : World) : OutAt d S w.heap.size w (w.alloc (.cells #[.int .i64 6, .int .i64 0, .string { data := #[] }, .slice none 0 0, .slice none 0 0] 26)) [] (.slice none 0 0) (.slice none 0 0) :=
  ⟨Blk5.new _ _ _ _ _ _ _, ⟨_, _, rfl, ⟨by show _ ≤ (6 : Int); omega, by show (6 : Int) ≤ _; omega⟩, ⟨by show _ ≤ (0 : Int); omega, by show (0 : Int) ≤ _; omega⟩, by show (0 : Nat) < _; omega, ⟨by show (0 : Nat) < _; omega, (fun s hs => by cases hs), none, 0, rfl, Or.inl rfl⟩, ⟨by show (0 : Nat) < _; omega, none, 0, rfl, Or.inl rfl⟩⟩, below_alloc1 _ _⟩
theorem OutAt.step {d ob : Nat} {S : Nat → Prop} {W wr w2 : World} {acc acc' : List (ByteArray × Tr (d + 1))} {kv lv kv' lv' : Value} {o : Obj} (h : OutAt d S ob W wr acc kv lv) (hS : ∀ b, S b → b < ob) (hb : Below (wr.alloc o).heap.size (wr.alloc o) w2) (hu : ValAt (fun b => (S b ∨ (ob < b ∧ b < wr.heap.size)) ∨ ((wr.alloc o).heap.size ≤ b ∧ b < w2.heap.size)) w2 (d + 2) (mapT (d + 1) acc') (.agg #[.int .i64 6, .int .i64 0, .string { data := #[] }, kv', lv'])) :
    OutAt d S ob W (set5 w2 ob 0 (.int .i64 6) (.int .i64 0) (.string { data := #[] }) kv' lv') acc' kv' lv' := by
  have hol := h.blk.lt
  have hz : (wr.alloc o).heap.size = wr.heap.size + 1 := by simp
  have hsz := hb.size
  have hblk : ∀ b, b < wr.heap.size → w2.heap[b]? = wr.heap[b]? := fun b hb' => (hb.block b (by omega)).trans (Below.heap_alloc _ _ _ hb')
  refine ⟨(h.blk.of_block (hblk ob hol)).all _ _ _ _ _, ?_, ?_⟩
  · refine ValAt.moved (fun b hb' => set5_block _ _ _ _ _ _ _ _ _ ?_) (fun b hb' => ?_) _ _ _ hu
    · rcases hb' with (hb' | hb') | hb'
      · have := hS b hb'; omega
      · have := hb'.1; omega
      · have := hb'.1; omega
    · rw [set5_size]
      rcases hb' with (hb' | hb') | hb'
      · exact Or.inl hb'
      · exact Or.inr ⟨hb'.1, by have := hb'.2; omega⟩
      · exact Or.inr ⟨by have := hb'.1; omega, hb'.2⟩
  · refine below_set5 ?_ (Nat.le_refl _) _ _ _ _ _ _
    exact ⟨hb.os.trans h.below.os, hb.tape.trans h.below.tape, hb.output.trans h.below.output, by have := h.below.size; omega, fun b hb' => (hblk b (by omega)).trans (h.below.block b hb')⟩

end Go.Proofs.YtoangpfmjohhmaaGreatDoor

/- PartAdd of the model: what stands ahead of its walk. -/
namespace Go.Proofs.YtoangpfmjohhmaaGreatDoor
open Go.RowKit Go.Deep

theorem num_self {d : Nat} {t : Tr (d + 1)} (h : okT (d + 1) t = true) (h3 : Nd.kind t = 3) : t = (Nd.mk 3 (Nd.num t) ByteArray.empty [] [] : Nd (Tr d)) ∧ -1000000 ≤ Nd.num t ∧ Nd.num t ≤ 1000000 := by
  obtain ⟨hf, _⟩ := okT_form h
  obtain ⟨kind, num, str, keys, list⟩ := t
  have h3 : kind = 3 := h3
  subst h3
  cases hb : headBad 3 num str keys.length list.length 6 with
  | true => rw [formT_bad hb] at hf; cases hf
  | false =>
    obtain ⟨_, _, g2, g3, g4⟩ := headBad_iff.1 hb
    rw [formT_good hb] at hf
    simp at hf
    obtain rfl := bytes_nil (g2 (by omega))
    obtain rfl := List.eq_nil_of_length_eq_zero (g3 (by omega))
    obtain rfl := List.eq_nil_of_length_eq_zero (g4 (by omega))
    exact ⟨rfl, hf.1, hf.2⟩
theorem str_self {d : Nat} {t : Tr (d + 1)} (h : okT (d + 1) t = true) (h4 : Nd.kind t = 4) : t = (Nd.mk 4 0 (Nd.str t) [] [] : Nd (Tr d)) ∧ (Nd.str t).size ≤ 12 := by
  have hs := strOk_size (okT_text h h4)
  obtain ⟨hf, _⟩ := okT_form h
  obtain ⟨kind, num, str, keys, list⟩ := t
  have h4 : kind = 4 := h4
  subst h4
  cases hb : headBad 4 num str keys.length list.length 6 with
  | true => rw [formT_bad hb] at hf; cases hf
  | false =>
    obtain ⟨_, g1, _, g3, g4⟩ := headBad_iff.1 hb
    obtain rfl := g1 (by omega)
    obtain rfl := List.eq_nil_of_length_eq_zero (g3 (by omega))
    obtain rfl := List.eq_nil_of_length_eq_zero (g4 (by omega))
    exact ⟨rfl, hs⟩
theorem strs_nil (S : Nat → Prop) (w : World) (a : Option Addr) (c : Nat) : StrsAt S w (.slice a 0 c) [] := ⟨by show (0 : Nat) < _; omega, (fun s hs => by cases hs), a, c, rfl, Or.inl rfl⟩
theorem rowAt_nil {α : Type} (S : Nat → Prop) (w : World) (At : α → Value → Prop) (a : Option Addr) (c : Nat) : RowAt S w At (.slice a 0 c) [] := ⟨by show (0 : Nat) < _; omega, a, c, rfl, Or.inl rfl⟩

/-- All pairs of the second put into the first, one by one. -/
theorem putAll_step {α : Type} (ps : List (ByteArray × α)) {qs : List (ByteArray × α)} {m : Nat} {q : ByteArray × α} (h : qs[m]? = some q) : putAll ps (qs.take (m + 1)) = putP (putAll ps (qs.take m)) q := by
  obtain ⟨hk, e⟩ := List.getElem?_eq_some_iff.1 h
  unfold putAll
  rw [List.take_succ_eq_append_getElem hk, List.foldl_append, e]
  rfl
theorem accOk_pairs {d : Nat} {t : Tr (d + 2)} (h : okT (d + 2) t = true) (h6 : Nd.kind t = 6) : AccOk 60 (pairsT t) := by
  obtain ⟨hl, hk⟩ := okT_maps h h6
  refine ⟨?_, ?_, fun p hp => okT_part h (List.of_mem_zip hp).2⟩
  · have := (okT_kinds h).2.1
    unfold pairsT
    rw [List.length_zip]
    omega
  · unfold pairsT
    rw [zip_fst _ _ hl]
    exact hk
theorem add_bad {d : Nat} {a b : Tr (d + 1)} (h : okT (d + 1) a = false ∨ okT (d + 1) b = false) : partAddT d a b = (zeroT d, false) := by
  unfold partAddT
  refine if_neg (fun hh => ?_)
  rcases h with h | h
  · rw [h] at hh; exact absurd hh.1 (by simp)
  · rw [h] at hh; exact absurd hh.2 (by simp)
theorem add_none {d : Nat} {a b : Tr (d + 1)} (h : sumT d a b = none) : partAddT d a b = (zeroT d, false) := by
  unfold partAddT
  split
  · rw [h]
  · rfl
theorem add_some {d : Nat} {a b t : Tr (d + 1)} (ha : okT (d + 1) a = true) (hb : okT (d + 1) b = true) (h : sumT d a b = some t) : partAddT d a b = (toldT d t, okT (d + 1) t) := by
  unfold partAddT
  rw [if_pos ⟨ha, hb⟩, h]
theorem sum_kinds {d : Nat} {a b : Tr (d + 1)} (h : Nd.kind a ≠ 0) (hb : Nd.kind b ≠ 0) (hn : Nd.kind a ≠ Nd.kind b ∨ Nd.kind a < 3) : sumT d a b = none := by
  unfold sumT
  rw [if_neg h, if_neg hb]
  split
  · rfl
  · rename_i hk
    rcases hn with hn | hn
    · exact absurd hn hk
    · rw [if_neg (by omega), if_neg (by omega), if_neg (by omega), if_neg (by omega)]
theorem sum_num {d : Nat} {a b : Tr (d + 1)} (h : Nd.kind a = 3) (hb : Nd.kind b = 3) : sumT d a b = some (Nd.mk 3 (Nd.num a + Nd.num b) ByteArray.empty [] [] : Nd (Tr d)) := by
  unfold sumT
  rw [if_neg (by omega), if_neg (by omega), if_neg (by omega), if_pos h]
  rfl
theorem sum_str {d : Nat} {a b : Tr (d + 1)} (h : Nd.kind a = 4) (hb : Nd.kind b = 4) : sumT d a b = some (Nd.mk 4 0 (Nd.str a ++ Nd.str b) [] [] : Nd (Tr d)) := by
  unfold sumT
  rw [if_neg (by omega), if_neg (by omega), if_neg (by omega), if_neg (by omega), if_pos h]
  rfl
theorem sum_row {d : Nat} {a b : Tr (d + 1)} (h : Nd.kind a = 5) (hb : Nd.kind b = 5) : sumT d a b = some (rowT d (Nd.list a ++ Nd.list b)) := by
  unfold sumT
  rw [if_neg (by omega), if_neg (by omega), if_neg (by omega), if_neg (by omega), if_neg (by omega), if_pos h]
theorem sum_map {d : Nat} {a b : Tr (d + 1)} (h : Nd.kind a = 6) (hb : Nd.kind b = 6) : sumT d a b = some (mapT d (putAll (pairsT a) (pairsT b))) := by
  unfold sumT
  rw [if_neg (by omega), if_neg (by omega), if_neg (by omega), if_neg (by omega), if_neg (by omega), if_neg (by omega), if_pos h]
theorem nodes_row2 {d : Nat} {a b : Tr (d + 2)} (ha : okT (d + 2) a = true) (hb : okT (d + 2) b = true) : (nodes (d + 2) (rowT (d + 1) (Nd.list a ++ Nd.list b)) : Int) ≤ 4194304 := by
  have h1 : ∀ y ∈ Nd.list a ++ Nd.list b, nodes (d + 1) y ≤ 300 := fun y hy => by
    rcases List.mem_append.1 hy with h | h
    · exact nodes_ok (okT_part ha h)
    · exact nodes_ok (okT_part hb h)
  have h2 := sum_le_of h1
  have h3 := (okT_kinds ha).2.1
  have h4 := (okT_kinds hb).2.1
  have h5 : nodes (d + 2) (rowT (d + 1) (Nd.list a ++ Nd.list b)) = 1 + ((Nd.list a ++ Nd.list b).map (nodes (d + 1))).sum := rfl
  rw [List.length_append] at h2
  rw [h5]
  omega

/-- The five cells of a tree of a known kind. -/
theorem copy_num (d : Nat) (S : Nat → Prop) (a : Tr (d + 2)) (va : Value) (w : World) (hv : ValAt S w (d + 2) a va) (hS : Within S w) (hok : okT (d + 2) a = true) (h3 : Nd.kind a = 3) :
    Calls Tryz.prog 38 #[va] w fun e w' => ∃ ka kc la lc, e = .returned (.agg #[.int .i64 3, .int .i64 (Nd.num a), .string { data := #[] }, .slice ka 0 kc, .slice la 0 lc]) ∧ Below w.heap.size w w' := by
  refine (l1Copy_any (d + 2) S a va w hv hS (by have := wtT_ok hok; omega)).mono ?_
  rintro e w' ⟨u, rfl, hu, hb⟩
  have hu' := ValOwn.at (d + 2) _ a _ hu
  rw [(num_self hok h3).1] at hu'
  obtain ⟨vk, vl, rfl, _, _, _, hk, hl⟩ := hu'
  obtain ⟨ka, kc, rfl, _⟩ := hk.open'
  obtain ⟨la, lc, rfl, _⟩ := hl.open'
  exact ⟨ka, kc, la, lc, rfl, hb⟩
theorem copy_str (d : Nat) (S : Nat → Prop) (a : Tr (d + 2)) (va : Value) (w : World) (hv : ValAt S w (d + 2) a va) (hS : Within S w) (hok : okT (d + 2) a = true) (h4 : Nd.kind a = 4) :
    Calls Tryz.prog 38 #[va] w fun e w' => ∃ ka kc la lc, e = .returned (.agg #[.int .i64 4, .int .i64 0, .string (Nd.str a), .slice ka 0 kc, .slice la 0 lc]) ∧ Below w.heap.size w w' := by
  refine (l1Copy_any (d + 2) S a va w hv hS (by have := wtT_ok hok; omega)).mono ?_
  rintro e w' ⟨u, rfl, hu, hb⟩
  have hu' := ValOwn.at (d + 2) _ a _ hu
  rw [(str_self hok h4).1] at hu'
  obtain ⟨vk, vl, rfl, _, _, _, hk, hl⟩ := hu'
  obtain ⟨ka, kc, rfl, _⟩ := hk.open'
  obtain ⟨la, lc, rfl, _⟩ := hl.open'
  exact ⟨ka, kc, la, lc, rfl, hb⟩
theorem copy_map (d : Nat) (S : Nat → Prop) (a : Tr (d + 2)) (va : Value) (w : World) (hv : ValAt S w (d + 2) a va) (hS : Within S w) (hok : okT (d + 2) a = true) (h6 : Nd.kind a = 6) :
    Calls Tryz.prog 38 #[va] w fun e w' => ∃ ka kn kc la ln lc, e = .returned (.agg #[.int .i64 6, .int .i64 0, .string { data := #[] }, .slice ka kn kc, .slice la ln lc]) ∧ ValAt (Fresh w w') w' (d + 2) (mapT (d + 1) (pairsT a)) (.agg #[.int .i64 6, .int .i64 0, .string { data := #[] }, .slice ka kn kc, .slice la ln lc]) ∧ Below w.heap.size w w' := by
  refine (l1Copy_any (d + 2) S a va w hv hS (by have := wtT_ok hok; omega)).mono ?_
  rintro e w' ⟨u, rfl, hu, hb⟩
  have hu' := ValOwn.at (d + 2) _ a _ hu
  rw [map_self hok h6] at hu'
  have hu2 := hu'
  obtain ⟨vk, vl, rfl, _, _, _, hk, hl⟩ := hu2
  obtain ⟨ka, kc, rfl, _⟩ := hk.open'
  obtain ⟨la, lc, rfl, _⟩ := hl.open'
  exact ⟨ka, _, kc, la, _, lc, rfl, hu', hb⟩
theorem copy_row (d : Nat) (S : Nat → Prop) (a : Tr (d + 2)) (va : Value) (w : World) (hv : ValAt S w (d + 2) a va) (hS : Within S w) (hok : okT (d + 2) a = true) (h5 : Nd.kind a = 5) :
    Calls Tryz.prog 38 #[va] w fun e w' => ∃ ka kc la lc N vs, e = .returned (.agg #[.int .i64 5, .int .i64 0, .string { data := #[] }, .slice ka 0 kc, .slice la (Nd.list a).length lc]) ∧ VTo (fun b => w.heap.size ≤ b ∧ b < w'.heap.size ∧ some b ≠ (Value.slice la (Nd.list a).length lc).ownBlock) N w' (.slice la (Nd.list a).length lc) (Nd.list a) vs ∧ w.heap.size ≤ N ∧ N ≤ w'.heap.size ∧ Below w.heap.size w w' := by
  refine (l1Copy_own (d + 1) S a va w hv hS (by have h := wtT_ok hok; show (wtT (d + 2) a : Int) ≤ _; omega)).mono ?_
  rintro e w' ⟨vk, lv, N, vs, rfl, hk, hv, h1, h2, hb⟩
  have hs := row_self hok h5
  have e1 : Nd.num a = 0 := by rw [hs]; rfl
  have e2 : Nd.str a = { data := #[] } := by rw [hs]; rfl
  have e3 : Nd.keys a = [] := by rw [hs]; rfl
  rw [e3] at hk
  obtain ⟨ka, kc, rfl, _⟩ := hk.open'
  obtain ⟨la, lc, rfl⟩ := hv.slice
  rw [h5, e1, e2]
  exact ⟨ka, kc, la, lc, N, vs, rfl, hv, h1, h2, hb⟩
theorem OutAt.step1 {d ob : Nat} {S : Nat → Prop} {W wr w2 : World} {acc acc' : List (ByteArray × Tr (d + 1))} {kv lv kv' lv' : Value} (h : OutAt d S ob W wr acc kv lv) (hS : ∀ b, S b → b < ob) (hb : Below wr.heap.size wr w2) (hu : ValAt (fun b => (S b ∨ (ob < b ∧ b < wr.heap.size)) ∨ (wr.heap.size ≤ b ∧ b < w2.heap.size)) w2 (d + 2) (mapT (d + 1) acc') (.agg #[.int .i64 6, .int .i64 0, .string { data := #[] }, kv', lv'])) :
    OutAt d S ob W (set5 w2 ob 0 (.int .i64 6) (.int .i64 0) (.string { data := #[] }) kv' lv') acc' kv' lv' := by
  have hol := h.blk.lt
  have hsz := hb.size
  refine ⟨(h.blk.of_block (hb.block ob hol)).all _ _ _ _ _, ?_, ?_⟩
  · refine ValAt.moved (fun b hb' => set5_block _ _ _ _ _ _ _ _ _ ?_) (fun b hb' => ?_) _ _ _ hu
    · rcases hb' with (hb' | hb') | hb'
      · have := hS b hb'; omega
      · have := hb'.1; omega
      · have := hb'.1; omega
    · rw [set5_size]
      rcases hb' with (hb' | hb') | hb'
      · exact Or.inl hb'
      · exact Or.inr ⟨hb'.1, by have := hb'.2; omega⟩
      · exact Or.inr ⟨by have := hb'.1; omega, hb'.2⟩
  · refine below_set5 ?_ (Nat.le_refl _) _ _ _ _ _ _
    exact ⟨hb.os.trans h.below.os, hb.tape.trans h.below.tape, hb.output.trans h.below.output, by have := h.below.size; omega, fun b hb' => (hb.block b (by omega)).trans (h.below.block b hb')⟩
theorem Blk5.set1 {w : World} {b : Nat} {T : TypeId} {c0 c1 c2 c3 c4 : Value} (h : Blk5 w b T c0 c1 c2 c3 c4) (u : Value) : Blk5 (w.setCell ⟨b, 1, none⟩ u) b T c0 u c2 c3 c4 := by
  unfold Blk5 at h ⊢
  simp [World.setCell, Array.getElem?_modify, h]
theorem Blk5.set2 {w : World} {b : Nat} {T : TypeId} {c0 c1 c2 c3 c4 : Value} (h : Blk5 w b T c0 c1 c2 c3 c4) (u : Value) : Blk5 (w.setCell ⟨b, 2, none⟩ u) b T c0 c1 u c3 c4 := by
  unfold Blk5 at h ⊢
  simp [World.setCell, Array.getElem?_modify, h]
/-- The sums, where they lie. -/
theorem numV (d : Nat) (n : Int) (hn : I64 n) (S : Nat → Prop) (w : World) (ka la : Option Addr) (kc lc : Nat) : ValAt S w (d + 1) (Nd.mk 3 n ByteArray.empty [] [] : Nd (Tr d)) (.agg #[.int .i64 3, .int .i64 n, .string { data := #[] }, .slice ka 0 kc, .slice la 0 lc]) :=
  ⟨_, _, rfl, ⟨by show _ ≤ (3 : Int); omega, by show (3 : Int) ≤ _; omega⟩, hn, by show (0 : Nat) < _; omega, strs_nil _ _ _ _, rowAt_nil _ _ _ _ _⟩
theorem strV (d : Nat) (s : ByteArray) (hn : s.size ≤ 24) (S : Nat → Prop) (w : World) (ka la : Option Addr) (kc lc : Nat) : ValAt S w (d + 1) (Nd.mk 4 0 s [] [] : Nd (Tr d)) (.agg #[.int .i64 4, .int .i64 0, .string s, .slice ka 0 kc, .slice la 0 lc]) :=
  ⟨_, _, rfl, ⟨by show _ ≤ (4 : Int); omega, by show (4 : Int) ≤ _; omega⟩, ⟨by show _ ≤ (0 : Int); omega, by show (0 : Int) ≤ _; omega⟩, by show s.size < _; omega, strs_nil _ _ _ _, rowAt_nil _ _ _ _ _⟩
theorem rowV {d N : Nat} {S : Nat → Prop} {w : World} {xs : List (Tr d)} {vs : List Value} {la : Option Addr} {ln lc : Nat} (h : VTo S N w (.slice la ln lc) xs vs) (hl : xs.length ≤ 1000) (ka : Option Addr) (kc : Nat) : ValAt (fun b => S b ∨ (N ≤ b ∧ b < w.heap.size)) w (d + 1) (rowT d xs) (.agg #[.int .i64 5, .int .i64 0, .string { data := #[] }, .slice ka 0 kc, .slice la ln lc]) :=
  ⟨_, _, rfl, ⟨by show _ ≤ (5 : Int); omega, by show (5 : Int) ≤ _; omega⟩, ⟨by show _ ≤ (0 : Int); omega, by show (0 : Int) ≤ _; omega⟩, by show (0 : Nat) < _; omega, strs_nil _ _ _ _, h.at (by omega)⟩
end Go.Proofs.YtoangpfmjohhmaaGreatDoor
