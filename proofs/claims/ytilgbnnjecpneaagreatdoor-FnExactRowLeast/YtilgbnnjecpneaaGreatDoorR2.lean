/- Texts of the proof, put together by program: WSame. -/
import Derived.Test.YtilgbnnjecpneaaGreatDoorR1
/- ValSame of the model. -/
namespace Go.Proofs.YtilgbnnjecpneaaGreatDoor
open Go.RowKit Go.Deep

/-- What ValSame of the model does with trees of this depth. -/
def SameVal (d : Nat) : Prop := ∀ (S S' : Nat → Prop) (t t' : Tr d) (v v' : Value) (w : World), ValAt S w d t v → ValAt S' w d t' v' → Within S w → Within S' w →
    Calls Tryz.prog 66 #[v, v'] w fun e w' => e = .returned (.bool (eqT d t t')) ∧ Below w.heap.size w w'

theorem two_blocks (w : World) (T : TypeId) (a0 a1 a2 a3 a4 b0 b1 b2 b3 b4 : Value) :
    Blk5 ((w.alloc (.cells #[a0, a1, a2, a3, a4] T)).alloc (.cells #[b0, b1, b2, b3, b4] T)) w.heap.size T a0 a1 a2 a3 a4 ∧
    Blk5 ((w.alloc (.cells #[a0, a1, a2, a3, a4] T)).alloc (.cells #[b0, b1, b2, b3, b4] T)) (w.heap.size + 1) T b0 b1 b2 b3 b4 ∧
    Below w.heap.size w ((w.alloc (.cells #[a0, a1, a2, a3, a4] T)).alloc (.cells #[b0, b1, b2, b3, b4] T)) := by
  have h1 := Blk5.new (w.alloc (.cells #[a0, a1, a2, a3, a4] T)) T b0 b1 b2 b3 b4
  simp only [World.size_alloc] at h1
  exact ⟨(Blk5.new w _ _ _ _ _ _).alloc _, h1, below_trans (below_alloc1 _ _) (below_alloc1 _ _)⟩

theorem eqT_head {d : Nat} {t t' : Tr (d + 1)} (h1 : (t.kind == t'.kind) = true) (h2 : (t.num == t'.num) = true) (h3 : (t.str.toList == t'.str.toList) = true) :
    eqT (d + 1) t t' = (eqStrs t.keys t'.keys && eqL (eqT d) t.list t'.list) := by
  rw [eqT, h1, h2, h3]
  rfl

set_option maxRecDepth 100000 in
set_option maxHeartbeats 2000000 in
theorem specSame_any : ∀ (d : Nat), SameVal d
  | 0 => fun _ _ _ _ _ _ _ h => h.elim
  | d + 1 => by
    intro S S' t t' v v' w hv hv' hS hS'
    have ih := specSame_any d
    obtain ⟨vk, vl, rfl, i1, i2, i3, hk, hl⟩ := hv
    obtain ⟨ak, ck, rfl, hkl⟩ := hk.open'
    obtain ⟨al, cl, rfl, hll⟩ := hl.open'
    obtain ⟨vk', vl', rfl, i1', i2', i3', hk', hl'⟩ := hv'
    obtain ⟨ak', ck', rfl, hkl'⟩ := hk'.open'
    obtain ⟨al', cl', rfl, hll'⟩ := hl'.open'
    obtain ⟨k0, k1, hba⟩ := two_blocks w 29 (.int .i64 t.kind) (.int .i64 t.num) (.string t.str) (.slice ak t.keys.length ck) (.slice al t.list.length cl)
      (.int .i64 t'.kind) (.int .i64 t'.num) (.string t'.str) (.slice ak' t'.keys.length ck') (.slice al' t'.list.length cl')
    cases h1 : (t.kind == t'.kind) with
    | false =>
      have hfin : Hid (eqT (d + 1) t t' = false) := by
        show eqT (d + 1) t t' = false
        rw [eqT, h1]
        rfl
      have hq : (t.kind != t'.kind) = true := by rw [bne, h1]; rfl
      clear h1
      go_enter Tryz.func66, Tryz.ntmps66
      go_wp2_with fail
      go_ret
      rw [hfin.out]
      exact ⟨rfl, hba⟩
    | true =>
    have hq : (t.kind != t'.kind) = false := by rw [bne, h1]; rfl
    cases h2 : (t.num == t'.num) with
    | false =>
      have hfin : Hid (eqT (d + 1) t t' = false) := by
        show eqT (d + 1) t t' = false
        rw [eqT, h1, h2]
        rfl
      have hq2 : (t.num != t'.num) = true := by rw [bne, h2]; rfl
      clear h1 h2
      go_enter Tryz.func66, Tryz.ntmps66
      go_wp2_with fail
      go_ret
      rw [hfin.out]
      exact ⟨rfl, hba⟩
    | true =>
    have hq2 : (t.num != t'.num) = false := by rw [bne, h2]; rfl
    cases h3 : (t.str.toList == t'.str.toList) with
    | false =>
      have hfin : Hid (eqT (d + 1) t t' = false) := by
        show eqT (d + 1) t t' = false
        rw [eqT, h1, h2, h3]
        rfl
      clear h1 h2
      go_enter Tryz.func66, Tryz.ntmps66
      go_wp2_with fail
      go_ret
      rw [hfin.out]
      exact ⟨rfl, hba⟩
    | true =>
    have hfin : Hid (eqT (d + 1) t t' = (eqStrs t.keys t'.keys && eqL (eqT d) t.list t'.list)) := eqT_head h1 h2 h3
    clear h1 h2
    by_cases h4 : t.keys.length = t'.keys.length
    case neg =>
      have hq4 : ((t.keys.length : Int) != (t'.keys.length : Int)) = true := by rw [bne_iff_ne]; omega
      have hfin2 : Hid (eqT (d + 1) t t' = false) := by
        show eqT (d + 1) t t' = false
        rw [hfin.out]
        cases h : eqStrs t.keys t'.keys
        · rfl
        · exact absurd (eqStrs_len _ _ h) h4
      go_enter Tryz.func66, Tryz.ntmps66
      go_wp2_with fail
      go_ret
      rw [hfin2.out]
      exact ⟨rfl, hba⟩
    have hq4 : ((t.keys.length : Int) != (t'.keys.length : Int)) = false := by rw [h4]; simp
    by_cases h5 : t.list.length = t'.list.length
    case neg =>
      have hq5 : ((t.list.length : Int) != (t'.list.length : Int)) = true := by rw [bne_iff_ne]; omega
      have hfin2 : Hid (eqT (d + 1) t t' = false) := by
        show eqT (d + 1) t t' = false
        rw [hfin.out]
        cases h : eqL (eqT d) t.list t'.list
        · simp
        · exact absurd (eqL_len _ _ _ h) h5
      clear h4
      go_enter Tryz.func66, Tryz.ntmps66
      go_wp2_with fail
      go_ret
      rw [hfin2.out]
      exact ⟨rfl, hba⟩
    have hq5 : ((t.list.length : Int) != (t'.list.length : Int)) = false := by rw [h5]; simp
    have H4 : Hid (t.keys.length = t'.keys.length) := h4
    have H5 : Hid (t.list.length = t'.list.length) := h5
    clear h4 h5
    obtain ⟨W0, HW⟩ : ∃ W0, Hid (W0 = (w.alloc (Obj.cells #[.int .i64 t.kind, .int .i64 t.num, .string t.str, .slice ak t.keys.length ck, .slice al t.list.length cl] 29)).alloc
      (Obj.cells #[.int .i64 t'.kind, .int .i64 t'.num, .string t'.str, .slice ak' t'.keys.length ck', .slice al' t'.list.length cl'] 29)) := ⟨_, rfl⟩
    rw [← HW.out] at k0 k1 hba
    go_enter Tryz.func66, Tryz.ntmps66
    go_wp2_with fail
    rw [← HW.out]
    clear HW hq hq2 h3 hq4 hq5
    go_loopw [5] (fun i wr => ∃ (k : Nat), k ≤ t.keys.length ∧ i = .int .i64 k ∧ Below W0.heap.size W0 wr ∧ Hid (eqStrs t.keys t'.keys = eqStrs (t.keys.drop k) (t'.keys.drop k))) (fun i _ => t.keys.length - (intOf i).toNat)
    case atStart => exact ⟨0, Nat.zero_le _, rfl, Below.refl _ _, rfl⟩
    case round =>
      obtain ⟨k, hkk, rfl, hbel, hst⟩ := hrel
      have hc3 : wr.cell? ⟨w.heap.size, 3, none⟩ = some (.slice ak t.keys.length ck) := (k0.below hbel).cell.2.2.2.1
      have hc3' : wr.cell? ⟨w.heap.size + 1, 3, none⟩ = some (.slice ak' t'.keys.length ck') := (k1.below hbel).cell.2.2.2.1
      have hbw := below_trans hba hbel
      by_cases hkl2 : k < t.keys.length
      · have hkl3 : k < t'.keys.length := by rw [← H4.out]; exact hkl2
        obtain ⟨b, o, s, rfl, _, hs, _, hck⟩ := (hk.same (hS.same hbw)).cell hkl2
        obtain ⟨b', o', s', rfl, _, hs', _, hck'⟩ := (hk'.same (hS'.same hbw)).cell hkl3
        have hst2 : Hid (_ = _) := eqStrs_drop hs hs'
        clear hs hs'
        have hki : (k : Int) < (t.keys.length : Int) := by omega
        have hki' : (k : Int) < (t'.keys.length : Int) := by omega
        cases heq : (s.toList == s'.toList) with
        | true =>
          have hst3 : Hid (eqStrs t.keys t'.keys = eqStrs (t.keys.drop (k + 1)) (t'.keys.drop (k + 1))) := by
            show eqStrs t.keys t'.keys = _
            rw [hst.out, hst2.out, heq]
            rfl
          clear hst hst2
          go_wp2_with fail
          go_quiet (fail)
          go_wp2_with fail
          exact ⟨⟨k + 1, by omega, by go_num, hbel.trans (below_drewN _ _ _), hst3⟩, by simp [intOf]; omega⟩
        | false =>
          have hfin2 : Hid (eqT (d + 1) t t' = false) := by
            show eqT (d + 1) t t' = false
            rw [hfin.out, hst.out, hst2.out, heq]
            rfl
          clear hst hst2
          go_wp2_with fail
          go_quiet (fail)
          go_wp2_with fail
          go_ret
          rw [hfin2.out]
          exact ⟨rfl, hbw.trans (below_drewN _ _ _)⟩
      · have hfin2 : Hid (eqT (d + 1) t t' = eqL (eqT d) t.list t'.list) := by
          show eqT (d + 1) t t' = _
          rw [hfin.out, hst.out, List.drop_eq_nil_of_le (by omega), List.drop_eq_nil_of_le (by have := H4.out; omega)]
          rfl
        clear hst hfin hk hk'
        go_wp2_with fail
        go_loopw [6] (fun i wr2 => ∃ (k : Nat), k ≤ t.list.length ∧ i = .int .i64 k ∧ Below W0.heap.size W0 wr2 ∧ Hid (eqL (eqT d) t.list t'.list = eqL (eqT d) (t.list.drop k) (t'.list.drop k))) (fun i _ => t.list.length - (intOf i).toNat)
        case atStart => exact ⟨0, Nat.zero_le _, rfl, hbel, rfl⟩
        case round =>
          clear hbw hc3 hc3' hbel
          obtain ⟨j, hjj, rfl, hbel, hst⟩ := hrel
          rename_i wx
          have hc4 : wr.cell? ⟨w.heap.size, 4, none⟩ = some (.slice al t.list.length cl) := (k0.below hbel).cell.2.2.2.2
          have hc4' : wr.cell? ⟨w.heap.size + 1, 4, none⟩ = some (.slice al' t'.list.length cl') := (k1.below hbel).cell.2.2.2.2
          have hbw := below_trans hba hbel
          by_cases hjl : j < t.list.length
          · have hjl' : j < t'.list.length := by rw [← H5.out]; exact hjl
            obtain ⟨b, o, x, c0, c1, c2, c3, c4, rfl, hb, hx, e0, e1, e2, e3, e4, hval⟩ := (hl.same (hS.same hbw)).cell hjl
            obtain ⟨b', o', x', c0', c1', c2', c3', c4', rfl, hb', hx', e0', e1', e2', e3', e4', hval'⟩ := (hl'.same (hS'.same hbw)).cell hjl'
            have hst2 : Hid (_ = _) := eqL_drop (eqT d) hx hx'
            have hW := hS.later hbw.size
            have hW' := hS'.later hbw.size
            clear hl hl' hx hx'
            have hki : (j : Int) < (t.list.length : Int) := by omega
            have hki' : (j : Int) < (t'.list.length : Int) := by omega
            cases heq : eqT d x x' with
            | true =>
              have hst3 : Hid (eqL (eqT d) t.list t'.list = eqL (eqT d) (t.list.drop (j + 1)) (t'.list.drop (j + 1))) := by
                show eqL (eqT d) t.list t'.list = _
                rw [hst.out, hst2.out, heq]
                rfl
              clear hst hst2
              go_wp2_with fail
              go_region_with (go_at_call 66; refine (ih S S' x x' _ _ _ ?_ ?_ ?_ ?_).mono ?_; exact hval.same (fun _ _ => rfl); exact hval'.same (fun _ _ => rfl); exact hW; exact hW'; rintro e w1 ⟨rfl, hb1⟩)
              all_goals
                have hb2 : Below W0.heap.size W0 w1 := below_trans hbel (show Below wr.heap.size wr w1 from ⟨hb1.os, hb1.tape, hb1.output, hb1.size, hb1.block⟩)
                clear hb1 hbel hval hval' e0 e1 e2 e3 e4 e0' e1' e2' e3' e4'
                go_wp2_with fail
                go_roundw
                case rel => exact ⟨j + 1, by omega, by go_num, hb2, hst3⟩
                case measure => simp [intOf]; omega
            | false =>
              have hfin3 : Hid (eqT (d + 1) t t' = false) := by
                show eqT (d + 1) t t' = false
                rw [hfin2.out, hst.out, hst2.out, heq]
                rfl
              clear hst hst2
              go_wp2_with fail
              go_region_with (go_at_call 66; refine (ih S S' x x' _ _ _ ?_ ?_ ?_ ?_).mono ?_; exact hval.same (fun _ _ => rfl); exact hval'.same (fun _ _ => rfl); exact hW; exact hW'; rintro e w1 ⟨rfl, hb1⟩)
              all_goals
                have hb2 : Below w.heap.size w w1 := below_trans hbw (show Below wr.heap.size wr w1 from ⟨hb1.os, hb1.tape, hb1.output, hb1.size, hb1.block⟩)
                clear hb1 hbel hval hval' e0 e1 e2 e3 e4 e0' e1' e2' e3' e4'
                go_wp2_with fail
                go_ret
                rw [hfin3.out]
                exact ⟨rfl, hb2⟩
          · go_wp2_with fail
            go_ret
            rw [hfin2.out, hst.out, List.drop_eq_nil_of_le (by omega), List.drop_eq_nil_of_le (by have := H5.out; omega)]
            exact ⟨rfl, hbw⟩
end Go.Proofs.YtilgbnnjecpneaaGreatDoor
