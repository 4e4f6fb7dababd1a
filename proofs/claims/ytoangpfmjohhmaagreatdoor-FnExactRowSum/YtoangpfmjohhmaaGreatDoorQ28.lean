/- Texts of the proof, put together by program: WAddI. -/
import Derived.Test.YtoangpfmjohhmaaGreatDoorQ26
import Derived.Test.YtoangpfmjohhmaaGreatDoorQ27
import Derived.Test.YtoangpfmjohhmaaGreatDoorQ7
import Derived.Test.YtoangpfmjohhmaaGreatDoorQ6
import Derived.Test.YtoangpfmjohhmaaGreatDoorQ12
/- addTrees, PartAdd of the program. -/
namespace Go.Proofs.YtoangpfmjohhmaaGreatDoor
open Go.RowKit Go.Deep

theorem add_kinds {d : Nat} {a b : Tr (d + 1)} (h : Nd.kind a ≠ 0) (hb : Nd.kind b ≠ 0) (hn : Nd.kind a ≠ Nd.kind b ∨ Nd.kind a < 3) : sumT d a b = none := by
  unfold sumT
  rw [if_neg h, if_neg hb]
  split
  · rfl
  · rename_i hk
    rcases hn with hn | hn
    · exact absurd hn hk
    · rw [if_neg (by omega), if_neg (by omega), if_neg (by omega), if_neg (by omega)]
/-- What addTrees is asked to give. -/
def AddQ (d N : Nat) (a b : Tr (d + 1)) (w : World) (e : Ending) (w' : World) : Prop :=
  Below w.heap.size w w' ∧ ((∃ t u, sumT d a b = some t ∧ e = .returned (.tuple #[u, .nilIface]) ∧ TreeG (fun c => N ≤ c ∧ c < w'.heap.size) w' (d + 1) t u) ∨ (sumT d a b = none ∧ ∃ why, e = .returned (.tuple #[.nilIface, faultV why])))
theorem okT_len60 {d : Nat} {t : Tr (d + 1)} (h : okT (d + 1) t = true) : (Nd.list t).length < 60 := okT_len h

set_option maxRecDepth 100000 in
set_option maxHeartbeats 8000000 in
theorem addTrees_any (d N : Nat) (S : Nat → Prop) (a b : Tr (d + 1)) (ua ub : Value) (w : World) (hoka : okT (d + 1) a = true) (hokb : okT (d + 1) b = true) (hua : TreeG S w (d + 1) a ua) (hub : TreeG S w (d + 1) b ub) (hS : ∀ c, S c → N ≤ c ∧ c < w.heap.size) (hN : N ≤ w.heap.size) :
    Calls Tryz.prog 37 #[ua, ub] w (AddQ d N a b w) := by
  have hSw : Within S w := fun c hc => (hS c hc).2
  have HUA := hide hua
  have HUB := hide hub
  have HA0 := hide (num_bounds hoka)
  have HB0 := hide (num_bounds hokb)
  have HSA := hide (str_bounds hoka)
  have HSB := hide (str_bounds hokb)
  have HLA := hide (okT_len60 hoka)
  have HLB := hide (okT_len60 hokb)
  clear hoka hokb
  have hret : ∀ (t : Tr (d + 1)) (u : Value) (w' : World), TreeG S w (d + 1) t u → Below w.heap.size w w' → TreeG (fun c => N ≤ c ∧ c < w'.heap.size) w' (d + 1) t u := fun t u w' ht hb =>
    TreeG.moved (hSw.same hb) (fun c hc => ⟨(hS c hc).1, by have := (hS c hc).2; have := hb.size; omega⟩) (d + 1) t u ht
  have HRET := hide hret
  clear hret
  go_enter Tryz.func37, Tryz.ntmps37
  rcases hua with ⟨ka, ha1, rfl, rfl⟩ | ⟨na, ha1, rfl, rfl⟩ | ⟨sa, ha1, rfl, rfl⟩ | ⟨xsa, sva, ha1, rfl, rfl, hra⟩ | ⟨keysa, xsa, psa, ra, esa, ha1, ha2, ha3, ha4, rfl, rfl, hra, hma, hea⟩
  · have asaN := Tryz.asN_B
    have asaS := Tryz.asS_B
    have asaR := Tryz.asR_B
    have asaM := Tryz.asM_B
    go_wp2_with fail
    refine (isNothing_bare ka w).mono ?_
    rintro e w1 ⟨rfl, hbx⟩
    have HB := hide hbx
    clear hbx
    obtain ⟨Tb, ub', rfl⟩ := hub.iface
    by_cases ka0 : ka = 0
    · have kab : (ka == 0) = true := by simpa using ka0
      have hq : Hid (sumT d (Nd.mk ka 0 ByteArray.empty [] [] : Nd (Tr d)) b = some b) := if_pos ka0
      go_wp2_with fail
      go_ret2
      exact ⟨by first | exact HB.out | exact below_trans HB.out (below_alloc1 _ _) | exact below_trans (below_trans HB.out (below_alloc1 _ _)) (below_alloc1 _ _) | exact below_trans (below_trans (below_trans HB.out (below_alloc1 _ _)) (below_alloc1 _ _)) (below_alloc1 _ _), Or.inl ⟨_, _, hq.out, rfl, HRET.out _ _ _ HUB.out (by first | exact HB.out | exact below_trans HB.out (below_alloc1 _ _) | exact below_trans (below_trans HB.out (below_alloc1 _ _)) (below_alloc1 _ _) | exact below_trans (below_trans (below_trans HB.out (below_alloc1 _ _)) (below_alloc1 _ _)) (below_alloc1 _ _))⟩⟩
    have kab : (ka == 0) = false := by simpa using ka0
    rcases hub with ⟨kb, hb1, rfl, hvb⟩ | ⟨nb, hb1, rfl, hvb⟩ | ⟨sb, hb1, rfl, hvb⟩ | ⟨xsb, svb, hb1, rfl, hvb, hrb⟩ | ⟨keysb, xsb, psb, rb, esb, hb1, hb2k, hb3, hb4, rfl, hvb, hrb, hmb, heb⟩
    · cases hvb
      have asbN := Tryz.asN_B
      have asbS := Tryz.asS_B
      have asbR := Tryz.asR_B
      have asbM := Tryz.asM_B
      go_wp2_with fail
      refine (isNothing_bare kb w1).mono ?_
      rintro e w2 ⟨rfl, hbx⟩
      have HBn := hide (below_trans HB.out hbx)
      clear HB
      have HB := HBn
      clear HBn
      clear hbx
      by_cases kb0 : kb = 0
      · have kbb : (kb == 0) = true := by simpa using kb0
        have hq : Hid (sumT d (Nd.mk ka 0 ByteArray.empty [] [] : Nd (Tr d)) (Nd.mk kb 0 ByteArray.empty [] [] : Nd (Tr d)) = some (Nd.mk ka 0 ByteArray.empty [] [] : Nd (Tr d))) := by show sumT _ _ _ = _; unfold sumT; rw [if_neg (show Nd.kind (Nd.mk ka 0 ByteArray.empty [] [] : Nd (Tr d)) ≠ 0 from ka0)]; exact if_pos kb0
        go_wp2_with fail
        go_ret2
        exact ⟨by first | exact HB.out | exact below_trans HB.out (below_alloc1 _ _) | exact below_trans (below_trans HB.out (below_alloc1 _ _)) (below_alloc1 _ _) | exact below_trans (below_trans (below_trans HB.out (below_alloc1 _ _)) (below_alloc1 _ _)) (below_alloc1 _ _), Or.inl ⟨_, _, hq.out, rfl, HRET.out _ _ _ HUA.out (by first | exact HB.out | exact below_trans HB.out (below_alloc1 _ _) | exact below_trans (below_trans HB.out (below_alloc1 _ _)) (below_alloc1 _ _) | exact below_trans (below_trans (below_trans HB.out (below_alloc1 _ _)) (below_alloc1 _ _)) (below_alloc1 _ _))⟩⟩
      have kbb : (kb == 0) = false := by simpa using kb0
      have hq : Hid (sumT d (Nd.mk ka 0 ByteArray.empty [] [] : Nd (Tr d)) (Nd.mk kb 0 ByteArray.empty [] [] : Nd (Tr d)) = none) := add_kinds (show Nd.kind (Nd.mk ka 0 ByteArray.empty [] [] : Nd (Tr d)) ≠ 0 from ka0) (show Nd.kind (Nd.mk kb 0 ByteArray.empty [] [] : Nd (Tr d)) ≠ 0 from kb0) (Or.inr (by show ka < 3; omega))
      go_wp2_with fail
      go_ret2
      exact ⟨by first | exact HB.out | exact below_trans HB.out (below_alloc1 _ _) | exact below_trans (below_trans HB.out (below_alloc1 _ _)) (below_alloc1 _ _) | exact below_trans (below_trans (below_trans HB.out (below_alloc1 _ _)) (below_alloc1 _ _)) (below_alloc1 _ _), Or.inr ⟨hq.out, _, rfl⟩⟩
    · cases hvb
      have asbN := Tryz.asN_N
      have asbS := Tryz.asS_N
      have asbR := Tryz.asR_N
      have asbM := Tryz.asM_N
      go_wp2_with fail
      refine (isNothing_num _ w1).mono ?_
      rintro e w2 ⟨rfl, hbx⟩
      have HBn := hide (below_trans HB.out hbx)
      clear HB
      have HB := HBn
      clear HBn
      clear hbx
      have hq : Hid (sumT d (Nd.mk ka 0 ByteArray.empty [] [] : Nd (Tr d)) (Nd.mk 3 nb ByteArray.empty [] [] : Nd (Tr d)) = none) := add_kinds (show Nd.kind (Nd.mk ka 0 ByteArray.empty [] [] : Nd (Tr d)) ≠ 0 from ka0) (show Nd.kind (Nd.mk 3 nb ByteArray.empty [] [] : Nd (Tr d)) ≠ 0 from by show (3 : Int) ≠ 0; omega) (Or.inr (by show ka < 3; omega))
      go_wp2_with fail
      go_ret2
      exact ⟨by first | exact HB.out | exact below_trans HB.out (below_alloc1 _ _) | exact below_trans (below_trans HB.out (below_alloc1 _ _)) (below_alloc1 _ _) | exact below_trans (below_trans (below_trans HB.out (below_alloc1 _ _)) (below_alloc1 _ _)) (below_alloc1 _ _), Or.inr ⟨hq.out, _, rfl⟩⟩
    · cases hvb
      have asbN := Tryz.asN_S
      have asbS := Tryz.asS_S
      have asbR := Tryz.asR_S
      have asbM := Tryz.asM_S
      go_wp2_with fail
      refine (isNothing_str _ w1).mono ?_
      rintro e w2 ⟨rfl, hbx⟩
      have HBn := hide (below_trans HB.out hbx)
      clear HB
      have HB := HBn
      clear HBn
      clear hbx
      have hq : Hid (sumT d (Nd.mk ka 0 ByteArray.empty [] [] : Nd (Tr d)) (Nd.mk 4 0 sb [] [] : Nd (Tr d)) = none) := add_kinds (show Nd.kind (Nd.mk ka 0 ByteArray.empty [] [] : Nd (Tr d)) ≠ 0 from ka0) (show Nd.kind (Nd.mk 4 0 sb [] [] : Nd (Tr d)) ≠ 0 from by show (4 : Int) ≠ 0; omega) (Or.inr (by show ka < 3; omega))
      go_wp2_with fail
      go_ret2
      exact ⟨by first | exact HB.out | exact below_trans HB.out (below_alloc1 _ _) | exact below_trans (below_trans HB.out (below_alloc1 _ _)) (below_alloc1 _ _) | exact below_trans (below_trans (below_trans HB.out (below_alloc1 _ _)) (below_alloc1 _ _)) (below_alloc1 _ _), Or.inr ⟨hq.out, _, rfl⟩⟩
    · cases hvb
      have asbN := Tryz.asN_R
      have asbS := Tryz.asS_R
      have asbR := Tryz.asR_R
      have asbM := Tryz.asM_R
      go_wp2_with fail
      refine (isNothing_row _ w1).mono ?_
      rintro e w2 ⟨rfl, hbx⟩
      have HBn := hide (below_trans HB.out hbx)
      clear HB
      have HB := HBn
      clear HBn
      clear hbx
      have hq : Hid (sumT d (Nd.mk ka 0 ByteArray.empty [] [] : Nd (Tr d)) (Nd.mk 5 0 ByteArray.empty [] xsb : Nd (Tr d)) = none) := add_kinds (show Nd.kind (Nd.mk ka 0 ByteArray.empty [] [] : Nd (Tr d)) ≠ 0 from ka0) (show Nd.kind (Nd.mk 5 0 ByteArray.empty [] xsb : Nd (Tr d)) ≠ 0 from by show (5 : Int) ≠ 0; omega) (Or.inr (by show ka < 3; omega))
      go_wp2_with fail
      go_ret2
      exact ⟨by first | exact HB.out | exact below_trans HB.out (below_alloc1 _ _) | exact below_trans (below_trans HB.out (below_alloc1 _ _)) (below_alloc1 _ _) | exact below_trans (below_trans (below_trans HB.out (below_alloc1 _ _)) (below_alloc1 _ _)) (below_alloc1 _ _), Or.inr ⟨hq.out, _, rfl⟩⟩
    · cases hvb
      have asbN := Tryz.asN_M
      have asbS := Tryz.asS_M
      have asbR := Tryz.asR_M
      have asbM := Tryz.asM_M
      go_wp2_with fail
      refine (isNothing_map _ w1).mono ?_
      rintro e w2 ⟨rfl, hbx⟩
      have HBn := hide (below_trans HB.out hbx)
      clear HB
      have HB := HBn
      clear HBn
      clear hbx
      have hq : Hid (sumT d (Nd.mk ka 0 ByteArray.empty [] [] : Nd (Tr d)) (Nd.mk 6 0 ByteArray.empty keysb xsb : Nd (Tr d)) = none) := add_kinds (show Nd.kind (Nd.mk ka 0 ByteArray.empty [] [] : Nd (Tr d)) ≠ 0 from ka0) (show Nd.kind (Nd.mk 6 0 ByteArray.empty keysb xsb : Nd (Tr d)) ≠ 0 from by show (6 : Int) ≠ 0; omega) (Or.inr (by show ka < 3; omega))
      go_wp2_with fail
      go_ret2
      exact ⟨by first | exact HB.out | exact below_trans HB.out (below_alloc1 _ _) | exact below_trans (below_trans HB.out (below_alloc1 _ _)) (below_alloc1 _ _) | exact below_trans (below_trans (below_trans HB.out (below_alloc1 _ _)) (below_alloc1 _ _)) (below_alloc1 _ _), Or.inr ⟨hq.out, _, rfl⟩⟩
  · have asaN := Tryz.asN_N
    have asaS := Tryz.asS_N
    have asaR := Tryz.asR_N
    have asaM := Tryz.asM_N
    go_wp2_with fail
    refine (isNothing_num _ w).mono ?_
    rintro e w1 ⟨rfl, hbx⟩
    have HB := hide hbx
    clear hbx
    obtain ⟨Tb, ub', rfl⟩ := hub.iface
    rcases hub with ⟨kb, hb1, rfl, hvb⟩ | ⟨nb, hb1, rfl, hvb⟩ | ⟨sb, hb1, rfl, hvb⟩ | ⟨xsb, svb, hb1, rfl, hvb, hrb⟩ | ⟨keysb, xsb, psb, rb, esb, hb1, hb2k, hb3, hb4, rfl, hvb, hrb, hmb, heb⟩
    · cases hvb
      have asbN := Tryz.asN_B
      have asbS := Tryz.asS_B
      have asbR := Tryz.asR_B
      have asbM := Tryz.asM_B
      go_wp2_with fail
      refine (isNothing_bare kb w1).mono ?_
      rintro e w2 ⟨rfl, hbx⟩
      have HBn := hide (below_trans HB.out hbx)
      clear HB
      have HB := HBn
      clear HBn
      clear hbx
      by_cases kb0 : kb = 0
      · have kbb : (kb == 0) = true := by simpa using kb0
        have hq : Hid (sumT d (Nd.mk 3 na ByteArray.empty [] [] : Nd (Tr d)) (Nd.mk kb 0 ByteArray.empty [] [] : Nd (Tr d)) = some (Nd.mk 3 na ByteArray.empty [] [] : Nd (Tr d))) := by show sumT _ _ _ = _; unfold sumT; rw [if_neg (show Nd.kind (Nd.mk 3 na ByteArray.empty [] [] : Nd (Tr d)) ≠ 0 from by show (3 : Int) ≠ 0; omega)]; exact if_pos kb0
        go_wp2_with fail
        go_ret2
        exact ⟨by first | exact HB.out | exact below_trans HB.out (below_alloc1 _ _) | exact below_trans (below_trans HB.out (below_alloc1 _ _)) (below_alloc1 _ _) | exact below_trans (below_trans (below_trans HB.out (below_alloc1 _ _)) (below_alloc1 _ _)) (below_alloc1 _ _), Or.inl ⟨_, _, hq.out, rfl, HRET.out _ _ _ HUA.out (by first | exact HB.out | exact below_trans HB.out (below_alloc1 _ _) | exact below_trans (below_trans HB.out (below_alloc1 _ _)) (below_alloc1 _ _) | exact below_trans (below_trans (below_trans HB.out (below_alloc1 _ _)) (below_alloc1 _ _)) (below_alloc1 _ _))⟩⟩
      have kbb : (kb == 0) = false := by simpa using kb0
      have hq : Hid (sumT d (Nd.mk 3 na ByteArray.empty [] [] : Nd (Tr d)) (Nd.mk kb 0 ByteArray.empty [] [] : Nd (Tr d)) = none) := add_kinds (show Nd.kind (Nd.mk 3 na ByteArray.empty [] [] : Nd (Tr d)) ≠ 0 from by show (3 : Int) ≠ 0; omega) (show Nd.kind (Nd.mk kb 0 ByteArray.empty [] [] : Nd (Tr d)) ≠ 0 from kb0) (Or.inl (by show (3 : Int) ≠ kb; omega))
      go_wp2_with fail
      go_ret2
      exact ⟨by first | exact HB.out | exact below_trans HB.out (below_alloc1 _ _) | exact below_trans (below_trans HB.out (below_alloc1 _ _)) (below_alloc1 _ _) | exact below_trans (below_trans (below_trans HB.out (below_alloc1 _ _)) (below_alloc1 _ _)) (below_alloc1 _ _), Or.inr ⟨hq.out, _, rfl⟩⟩
    · cases hvb
      have asbN := Tryz.asN_N
      have asbS := Tryz.asS_N
      have asbR := Tryz.asR_N
      have asbM := Tryz.asM_N
      go_wp2_with fail
      refine (isNothing_num _ w1).mono ?_
      rintro e w2 ⟨rfl, hbx⟩
      have HBn := hide (below_trans HB.out hbx)
      clear HB
      have HB := HBn
      clear HBn
      clear hbx
      have hq : Hid (sumT d (Nd.mk 3 na ByteArray.empty [] [] : Nd (Tr d)) (Nd.mk 3 nb ByteArray.empty [] [] : Nd (Tr d)) = some (Nd.mk 3 (na + nb) ByteArray.empty [] [] : Nd (Tr d))) := rfl
      have hn1' : -1000000 ≤ na ∧ na ≤ 1000000 := by first | exact HA0.out rfl | exact HA0.out trivial
      have hn2' : -1000000 ≤ nb ∧ nb ≤ 1000000 := by first | exact HB0.out rfl | exact HB0.out trivial
      have hwr : wrap64 (na + nb) = na + nb := by unfold wrap64; omega
      go_wp2_with fail
      go_ret2
      exact ⟨by first | exact HB.out | exact below_trans HB.out (below_alloc1 _ _) | exact below_trans (below_trans HB.out (below_alloc1 _ _)) (below_alloc1 _ _) | exact below_trans (below_trans (below_trans HB.out (below_alloc1 _ _)) (below_alloc1 _ _)) (below_alloc1 _ _), Or.inl ⟨_, _, hq.out, rfl, Or.inr (Or.inl ⟨na + nb, ⟨by omega, by omega⟩, rfl, rfl⟩)⟩⟩
    · cases hvb
      have asbN := Tryz.asN_S
      have asbS := Tryz.asS_S
      have asbR := Tryz.asR_S
      have asbM := Tryz.asM_S
      go_wp2_with fail
      refine (isNothing_str _ w1).mono ?_
      rintro e w2 ⟨rfl, hbx⟩
      have HBn := hide (below_trans HB.out hbx)
      clear HB
      have HB := HBn
      clear HBn
      clear hbx
      have hq : Hid (sumT d (Nd.mk 3 na ByteArray.empty [] [] : Nd (Tr d)) (Nd.mk 4 0 sb [] [] : Nd (Tr d)) = none) := add_kinds (show Nd.kind (Nd.mk 3 na ByteArray.empty [] [] : Nd (Tr d)) ≠ 0 from by show (3 : Int) ≠ 0; omega) (show Nd.kind (Nd.mk 4 0 sb [] [] : Nd (Tr d)) ≠ 0 from by show (4 : Int) ≠ 0; omega) (Or.inl (by show (3 : Int) ≠ 4; omega))
      go_wp2_with fail
      go_ret2
      exact ⟨by first | exact HB.out | exact below_trans HB.out (below_alloc1 _ _) | exact below_trans (below_trans HB.out (below_alloc1 _ _)) (below_alloc1 _ _) | exact below_trans (below_trans (below_trans HB.out (below_alloc1 _ _)) (below_alloc1 _ _)) (below_alloc1 _ _), Or.inr ⟨hq.out, _, rfl⟩⟩
    · cases hvb
      have asbN := Tryz.asN_R
      have asbS := Tryz.asS_R
      have asbR := Tryz.asR_R
      have asbM := Tryz.asM_R
      go_wp2_with fail
      refine (isNothing_row _ w1).mono ?_
      rintro e w2 ⟨rfl, hbx⟩
      have HBn := hide (below_trans HB.out hbx)
      clear HB
      have HB := HBn
      clear HBn
      clear hbx
      have hq : Hid (sumT d (Nd.mk 3 na ByteArray.empty [] [] : Nd (Tr d)) (Nd.mk 5 0 ByteArray.empty [] xsb : Nd (Tr d)) = none) := add_kinds (show Nd.kind (Nd.mk 3 na ByteArray.empty [] [] : Nd (Tr d)) ≠ 0 from by show (3 : Int) ≠ 0; omega) (show Nd.kind (Nd.mk 5 0 ByteArray.empty [] xsb : Nd (Tr d)) ≠ 0 from by show (5 : Int) ≠ 0; omega) (Or.inl (by show (3 : Int) ≠ 5; omega))
      go_wp2_with fail
      go_ret2
      exact ⟨by first | exact HB.out | exact below_trans HB.out (below_alloc1 _ _) | exact below_trans (below_trans HB.out (below_alloc1 _ _)) (below_alloc1 _ _) | exact below_trans (below_trans (below_trans HB.out (below_alloc1 _ _)) (below_alloc1 _ _)) (below_alloc1 _ _), Or.inr ⟨hq.out, _, rfl⟩⟩
    · cases hvb
      have asbN := Tryz.asN_M
      have asbS := Tryz.asS_M
      have asbR := Tryz.asR_M
      have asbM := Tryz.asM_M
      go_wp2_with fail
      refine (isNothing_map _ w1).mono ?_
      rintro e w2 ⟨rfl, hbx⟩
      have HBn := hide (below_trans HB.out hbx)
      clear HB
      have HB := HBn
      clear HBn
      clear hbx
      have hq : Hid (sumT d (Nd.mk 3 na ByteArray.empty [] [] : Nd (Tr d)) (Nd.mk 6 0 ByteArray.empty keysb xsb : Nd (Tr d)) = none) := add_kinds (show Nd.kind (Nd.mk 3 na ByteArray.empty [] [] : Nd (Tr d)) ≠ 0 from by show (3 : Int) ≠ 0; omega) (show Nd.kind (Nd.mk 6 0 ByteArray.empty keysb xsb : Nd (Tr d)) ≠ 0 from by show (6 : Int) ≠ 0; omega) (Or.inl (by show (3 : Int) ≠ 6; omega))
      go_wp2_with fail
      go_ret2
      exact ⟨by first | exact HB.out | exact below_trans HB.out (below_alloc1 _ _) | exact below_trans (below_trans HB.out (below_alloc1 _ _)) (below_alloc1 _ _) | exact below_trans (below_trans (below_trans HB.out (below_alloc1 _ _)) (below_alloc1 _ _)) (below_alloc1 _ _), Or.inr ⟨hq.out, _, rfl⟩⟩
  · have asaN := Tryz.asN_S
    have asaS := Tryz.asS_S
    have asaR := Tryz.asR_S
    have asaM := Tryz.asM_S
    go_wp2_with fail
    refine (isNothing_str _ w).mono ?_
    rintro e w1 ⟨rfl, hbx⟩
    have HB := hide hbx
    clear hbx
    obtain ⟨Tb, ub', rfl⟩ := hub.iface
    rcases hub with ⟨kb, hb1, rfl, hvb⟩ | ⟨nb, hb1, rfl, hvb⟩ | ⟨sb, hb1, rfl, hvb⟩ | ⟨xsb, svb, hb1, rfl, hvb, hrb⟩ | ⟨keysb, xsb, psb, rb, esb, hb1, hb2k, hb3, hb4, rfl, hvb, hrb, hmb, heb⟩
    · cases hvb
      have asbN := Tryz.asN_B
      have asbS := Tryz.asS_B
      have asbR := Tryz.asR_B
      have asbM := Tryz.asM_B
      go_wp2_with fail
      refine (isNothing_bare kb w1).mono ?_
      rintro e w2 ⟨rfl, hbx⟩
      have HBn := hide (below_trans HB.out hbx)
      clear HB
      have HB := HBn
      clear HBn
      clear hbx
      by_cases kb0 : kb = 0
      · have kbb : (kb == 0) = true := by simpa using kb0
        have hq : Hid (sumT d (Nd.mk 4 0 sa [] [] : Nd (Tr d)) (Nd.mk kb 0 ByteArray.empty [] [] : Nd (Tr d)) = some (Nd.mk 4 0 sa [] [] : Nd (Tr d))) := by show sumT _ _ _ = _; unfold sumT; rw [if_neg (show Nd.kind (Nd.mk 4 0 sa [] [] : Nd (Tr d)) ≠ 0 from by show (4 : Int) ≠ 0; omega)]; exact if_pos kb0
        go_wp2_with fail
        go_ret2
        exact ⟨by first | exact HB.out | exact below_trans HB.out (below_alloc1 _ _) | exact below_trans (below_trans HB.out (below_alloc1 _ _)) (below_alloc1 _ _) | exact below_trans (below_trans (below_trans HB.out (below_alloc1 _ _)) (below_alloc1 _ _)) (below_alloc1 _ _), Or.inl ⟨_, _, hq.out, rfl, HRET.out _ _ _ HUA.out (by first | exact HB.out | exact below_trans HB.out (below_alloc1 _ _) | exact below_trans (below_trans HB.out (below_alloc1 _ _)) (below_alloc1 _ _) | exact below_trans (below_trans (below_trans HB.out (below_alloc1 _ _)) (below_alloc1 _ _)) (below_alloc1 _ _))⟩⟩
      have kbb : (kb == 0) = false := by simpa using kb0
      have hq : Hid (sumT d (Nd.mk 4 0 sa [] [] : Nd (Tr d)) (Nd.mk kb 0 ByteArray.empty [] [] : Nd (Tr d)) = none) := add_kinds (show Nd.kind (Nd.mk 4 0 sa [] [] : Nd (Tr d)) ≠ 0 from by show (4 : Int) ≠ 0; omega) (show Nd.kind (Nd.mk kb 0 ByteArray.empty [] [] : Nd (Tr d)) ≠ 0 from kb0) (Or.inl (by show (4 : Int) ≠ kb; omega))
      go_wp2_with fail
      go_ret2
      exact ⟨by first | exact HB.out | exact below_trans HB.out (below_alloc1 _ _) | exact below_trans (below_trans HB.out (below_alloc1 _ _)) (below_alloc1 _ _) | exact below_trans (below_trans (below_trans HB.out (below_alloc1 _ _)) (below_alloc1 _ _)) (below_alloc1 _ _), Or.inr ⟨hq.out, _, rfl⟩⟩
    · cases hvb
      have asbN := Tryz.asN_N
      have asbS := Tryz.asS_N
      have asbR := Tryz.asR_N
      have asbM := Tryz.asM_N
      go_wp2_with fail
      refine (isNothing_num _ w1).mono ?_
      rintro e w2 ⟨rfl, hbx⟩
      have HBn := hide (below_trans HB.out hbx)
      clear HB
      have HB := HBn
      clear HBn
      clear hbx
      have hq : Hid (sumT d (Nd.mk 4 0 sa [] [] : Nd (Tr d)) (Nd.mk 3 nb ByteArray.empty [] [] : Nd (Tr d)) = none) := add_kinds (show Nd.kind (Nd.mk 4 0 sa [] [] : Nd (Tr d)) ≠ 0 from by show (4 : Int) ≠ 0; omega) (show Nd.kind (Nd.mk 3 nb ByteArray.empty [] [] : Nd (Tr d)) ≠ 0 from by show (3 : Int) ≠ 0; omega) (Or.inl (by show (4 : Int) ≠ 3; omega))
      go_wp2_with fail
      go_ret2
      exact ⟨by first | exact HB.out | exact below_trans HB.out (below_alloc1 _ _) | exact below_trans (below_trans HB.out (below_alloc1 _ _)) (below_alloc1 _ _) | exact below_trans (below_trans (below_trans HB.out (below_alloc1 _ _)) (below_alloc1 _ _)) (below_alloc1 _ _), Or.inr ⟨hq.out, _, rfl⟩⟩
    · cases hvb
      have asbN := Tryz.asN_S
      have asbS := Tryz.asS_S
      have asbR := Tryz.asR_S
      have asbM := Tryz.asM_S
      go_wp2_with fail
      refine (isNothing_str _ w1).mono ?_
      rintro e w2 ⟨rfl, hbx⟩
      have HBn := hide (below_trans HB.out hbx)
      clear HB
      have HB := HBn
      clear HBn
      clear hbx
      have hq : Hid (sumT d (Nd.mk 4 0 sa [] [] : Nd (Tr d)) (Nd.mk 4 0 sb [] [] : Nd (Tr d)) = some (Nd.mk 4 0 (sa ++ sb) [] [] : Nd (Tr d))) := rfl
      have hn1 : sa.size ≤ 12 := by first | exact HSA.out rfl | exact HSA.out trivial
      have hn2 : sb.size ≤ 12 := by first | exact HSB.out rfl | exact HSB.out trivial
      go_wp2_with fail
      go_ret2
      exact ⟨by first | exact HB.out | exact below_trans HB.out (below_alloc1 _ _) | exact below_trans (below_trans HB.out (below_alloc1 _ _)) (below_alloc1 _ _) | exact below_trans (below_trans (below_trans HB.out (below_alloc1 _ _)) (below_alloc1 _ _)) (below_alloc1 _ _), Or.inl ⟨_, _, hq.out, rfl, Or.inr (Or.inr (Or.inl ⟨sa ++ sb, by rw [ByteArray.size_append]; omega, rfl, rfl⟩))⟩⟩
    · cases hvb
      have asbN := Tryz.asN_R
      have asbS := Tryz.asS_R
      have asbR := Tryz.asR_R
      have asbM := Tryz.asM_R
      go_wp2_with fail
      refine (isNothing_row _ w1).mono ?_
      rintro e w2 ⟨rfl, hbx⟩
      have HBn := hide (below_trans HB.out hbx)
      clear HB
      have HB := HBn
      clear HBn
      clear hbx
      have hq : Hid (sumT d (Nd.mk 4 0 sa [] [] : Nd (Tr d)) (Nd.mk 5 0 ByteArray.empty [] xsb : Nd (Tr d)) = none) := add_kinds (show Nd.kind (Nd.mk 4 0 sa [] [] : Nd (Tr d)) ≠ 0 from by show (4 : Int) ≠ 0; omega) (show Nd.kind (Nd.mk 5 0 ByteArray.empty [] xsb : Nd (Tr d)) ≠ 0 from by show (5 : Int) ≠ 0; omega) (Or.inl (by show (4 : Int) ≠ 5; omega))
      go_wp2_with fail
      go_ret2
      exact ⟨by first | exact HB.out | exact below_trans HB.out (below_alloc1 _ _) | exact below_trans (below_trans HB.out (below_alloc1 _ _)) (below_alloc1 _ _) | exact below_trans (below_trans (below_trans HB.out (below_alloc1 _ _)) (below_alloc1 _ _)) (below_alloc1 _ _), Or.inr ⟨hq.out, _, rfl⟩⟩
    · cases hvb
      have asbN := Tryz.asN_M
      have asbS := Tryz.asS_M
      have asbR := Tryz.asR_M
      have asbM := Tryz.asM_M
      go_wp2_with fail
      refine (isNothing_map _ w1).mono ?_
      rintro e w2 ⟨rfl, hbx⟩
      have HBn := hide (below_trans HB.out hbx)
      clear HB
      have HB := HBn
      clear HBn
      clear hbx
      have hq : Hid (sumT d (Nd.mk 4 0 sa [] [] : Nd (Tr d)) (Nd.mk 6 0 ByteArray.empty keysb xsb : Nd (Tr d)) = none) := add_kinds (show Nd.kind (Nd.mk 4 0 sa [] [] : Nd (Tr d)) ≠ 0 from by show (4 : Int) ≠ 0; omega) (show Nd.kind (Nd.mk 6 0 ByteArray.empty keysb xsb : Nd (Tr d)) ≠ 0 from by show (6 : Int) ≠ 0; omega) (Or.inl (by show (4 : Int) ≠ 6; omega))
      go_wp2_with fail
      go_ret2
      exact ⟨by first | exact HB.out | exact below_trans HB.out (below_alloc1 _ _) | exact below_trans (below_trans HB.out (below_alloc1 _ _)) (below_alloc1 _ _) | exact below_trans (below_trans (below_trans HB.out (below_alloc1 _ _)) (below_alloc1 _ _)) (below_alloc1 _ _), Or.inr ⟨hq.out, _, rfl⟩⟩
  · have asaN := Tryz.asN_R
    have asaS := Tryz.asS_R
    have asaR := Tryz.asR_R
    have asaM := Tryz.asM_R
    obtain ⟨aa, ca, rfl, _⟩ := hra.open'
    go_wp2_with fail
    refine (isNothing_row _ w).mono ?_
    rintro e w1 ⟨rfl, hbx⟩
    have HB := hide hbx
    clear hbx
    obtain ⟨Tb, ub', rfl⟩ := hub.iface
    rcases hub with ⟨kb, hb1, rfl, hvb⟩ | ⟨nb, hb1, rfl, hvb⟩ | ⟨sb, hb1, rfl, hvb⟩ | ⟨xsb, svb, hb1, rfl, hvb, hrb⟩ | ⟨keysb, xsb, psb, rb, esb, hb1, hb2k, hb3, hb4, rfl, hvb, hrb, hmb, heb⟩
    · cases hvb
      have asbN := Tryz.asN_B
      have asbS := Tryz.asS_B
      have asbR := Tryz.asR_B
      have asbM := Tryz.asM_B
      go_wp2_with fail
      refine (isNothing_bare kb w1).mono ?_
      rintro e w2 ⟨rfl, hbx⟩
      have HBn := hide (below_trans HB.out hbx)
      clear HB
      have HB := HBn
      clear HBn
      clear hbx
      by_cases kb0 : kb = 0
      · have kbb : (kb == 0) = true := by simpa using kb0
        have hq : Hid (sumT d (Nd.mk 5 0 ByteArray.empty [] xsa : Nd (Tr d)) (Nd.mk kb 0 ByteArray.empty [] [] : Nd (Tr d)) = some (Nd.mk 5 0 ByteArray.empty [] xsa : Nd (Tr d))) := by show sumT _ _ _ = _; unfold sumT; rw [if_neg (show Nd.kind (Nd.mk 5 0 ByteArray.empty [] xsa : Nd (Tr d)) ≠ 0 from by show (5 : Int) ≠ 0; omega)]; exact if_pos kb0
        go_wp2_with fail
        go_ret2
        exact ⟨by first | exact HB.out | exact below_trans HB.out (below_alloc1 _ _) | exact below_trans (below_trans HB.out (below_alloc1 _ _)) (below_alloc1 _ _) | exact below_trans (below_trans (below_trans HB.out (below_alloc1 _ _)) (below_alloc1 _ _)) (below_alloc1 _ _), Or.inl ⟨_, _, hq.out, rfl, HRET.out _ _ _ HUA.out (by first | exact HB.out | exact below_trans HB.out (below_alloc1 _ _) | exact below_trans (below_trans HB.out (below_alloc1 _ _)) (below_alloc1 _ _) | exact below_trans (below_trans (below_trans HB.out (below_alloc1 _ _)) (below_alloc1 _ _)) (below_alloc1 _ _))⟩⟩
      have kbb : (kb == 0) = false := by simpa using kb0
      have hq : Hid (sumT d (Nd.mk 5 0 ByteArray.empty [] xsa : Nd (Tr d)) (Nd.mk kb 0 ByteArray.empty [] [] : Nd (Tr d)) = none) := add_kinds (show Nd.kind (Nd.mk 5 0 ByteArray.empty [] xsa : Nd (Tr d)) ≠ 0 from by show (5 : Int) ≠ 0; omega) (show Nd.kind (Nd.mk kb 0 ByteArray.empty [] [] : Nd (Tr d)) ≠ 0 from kb0) (Or.inl (by show (5 : Int) ≠ kb; omega))
      go_wp2_with fail
      go_ret2
      exact ⟨by first | exact HB.out | exact below_trans HB.out (below_alloc1 _ _) | exact below_trans (below_trans HB.out (below_alloc1 _ _)) (below_alloc1 _ _) | exact below_trans (below_trans (below_trans HB.out (below_alloc1 _ _)) (below_alloc1 _ _)) (below_alloc1 _ _), Or.inr ⟨hq.out, _, rfl⟩⟩
    · cases hvb
      have asbN := Tryz.asN_N
      have asbS := Tryz.asS_N
      have asbR := Tryz.asR_N
      have asbM := Tryz.asM_N
      go_wp2_with fail
      refine (isNothing_num _ w1).mono ?_
      rintro e w2 ⟨rfl, hbx⟩
      have HBn := hide (below_trans HB.out hbx)
      clear HB
      have HB := HBn
      clear HBn
      clear hbx
      have hq : Hid (sumT d (Nd.mk 5 0 ByteArray.empty [] xsa : Nd (Tr d)) (Nd.mk 3 nb ByteArray.empty [] [] : Nd (Tr d)) = none) := add_kinds (show Nd.kind (Nd.mk 5 0 ByteArray.empty [] xsa : Nd (Tr d)) ≠ 0 from by show (5 : Int) ≠ 0; omega) (show Nd.kind (Nd.mk 3 nb ByteArray.empty [] [] : Nd (Tr d)) ≠ 0 from by show (3 : Int) ≠ 0; omega) (Or.inl (by show (5 : Int) ≠ 3; omega))
      go_wp2_with fail
      go_ret2
      exact ⟨by first | exact HB.out | exact below_trans HB.out (below_alloc1 _ _) | exact below_trans (below_trans HB.out (below_alloc1 _ _)) (below_alloc1 _ _) | exact below_trans (below_trans (below_trans HB.out (below_alloc1 _ _)) (below_alloc1 _ _)) (below_alloc1 _ _), Or.inr ⟨hq.out, _, rfl⟩⟩
    · cases hvb
      have asbN := Tryz.asN_S
      have asbS := Tryz.asS_S
      have asbR := Tryz.asR_S
      have asbM := Tryz.asM_S
      go_wp2_with fail
      refine (isNothing_str _ w1).mono ?_
      rintro e w2 ⟨rfl, hbx⟩
      have HBn := hide (below_trans HB.out hbx)
      clear HB
      have HB := HBn
      clear HBn
      clear hbx
      have hq : Hid (sumT d (Nd.mk 5 0 ByteArray.empty [] xsa : Nd (Tr d)) (Nd.mk 4 0 sb [] [] : Nd (Tr d)) = none) := add_kinds (show Nd.kind (Nd.mk 5 0 ByteArray.empty [] xsa : Nd (Tr d)) ≠ 0 from by show (5 : Int) ≠ 0; omega) (show Nd.kind (Nd.mk 4 0 sb [] [] : Nd (Tr d)) ≠ 0 from by show (4 : Int) ≠ 0; omega) (Or.inl (by show (5 : Int) ≠ 4; omega))
      go_wp2_with fail
      go_ret2
      exact ⟨by first | exact HB.out | exact below_trans HB.out (below_alloc1 _ _) | exact below_trans (below_trans HB.out (below_alloc1 _ _)) (below_alloc1 _ _) | exact below_trans (below_trans (below_trans HB.out (below_alloc1 _ _)) (below_alloc1 _ _)) (below_alloc1 _ _), Or.inr ⟨hq.out, _, rfl⟩⟩
    · cases hvb
      have asbN := Tryz.asN_R
      have asbS := Tryz.asS_R
      have asbR := Tryz.asR_R
      have asbM := Tryz.asM_R
      go_wp2_with fail
      refine (isNothing_row _ w1).mono ?_
      rintro e w2 ⟨rfl, hbx⟩
      have HBn := hide (below_trans HB.out hbx)
      clear HB
      have HB := HBn
      clear HBn
      clear hbx
      have hq : Hid (sumT d (Nd.mk 5 0 ByteArray.empty [] xsa : Nd (Tr d)) (Nd.mk 5 0 ByteArray.empty [] xsb : Nd (Tr d)) = some (rowT d (xsa ++ xsb))) := rfl
      obtain ⟨ba, cb, rfl, _⟩ := hrb.open'
      have hbA := below_trans (below_trans HB.out (below_alloc1 w2 (.cells #[.slice aa xsa.length ca] 120))) (below_alloc1 _ (.cells #[.slice ba xsb.length cb] 120))
      have HX := hide hra
      have HY := hide hrb
      clear hra hrb
      go_wp2_with fail
      obtain ⟨WC, hWC⟩ : ∃ WC, WC = ((w2.alloc (.cells #[.slice aa xsa.length ca] 120)).alloc (.cells #[.slice ba xsb.length cb] 120)).alloc (.cells #[.slice aa xsa.length ca, .slice ba xsb.length cb] 118) := ⟨_, rfl⟩
      have hbC : Below w.heap.size w WC := by rw [hWC]; exact below_trans hbA (below_alloc1 _ _)
      have hzC : WC.heap.size = w2.heap.size + 1 + 1 + 1 := by rw [hWC]; simp
      have hhC : WC.heap[w2.heap.size + 1 + 1]? = some (.cells #[.slice aa xsa.length ca, .slice ba xsb.length cb] 118 (0, 0)) := by
        have := heap_alloc_new ((w2.alloc (.cells #[.slice aa xsa.length ca] 120)).alloc (.cells #[.slice ba xsb.length cb] 120)) (.cells #[.slice aa xsa.length ca, .slice ba xsb.length cb] 118)
        rw [hWC]
        simpa using this
      rw [← hWC]
      have hsm := hSw.same hbC
      have hle := hbC.size
      refine Calls.mono (concat_any d S xsa xsb aa ba ca cb (w2.heap.size + 1 + 1) WC (HX.out.moved (At' := TreeG S WC d) hsm (fun _ h => h) (fun x u hx => TreeG.moved hsm (fun _ h => h) d x u hx)) (HY.out.moved (At' := TreeG S WC d) hsm (fun _ h => h) (fun x u hx => TreeG.moved hsm (fun _ h => h) d x u hx)) (hSw.later hle) (by simp [World.cell?, hhC]) (by simp [World.cell?, hhC]) (by omega) ha1 hb1) ?_
      rintro e w3 ⟨sv, vs, rfl, hgf, hb3⟩
      have hl3 : xsa.length < 60 := HLA.out
      have hl4 : xsb.length < 60 := HLB.out
      obtain ⟨ga, gc, e⟩ := hgf.slice
      rw [List.length_append] at e
      subst e
      have HT := hide (hgf.tree (M := N) (by rw [List.length_append]; omega) (by omega) (fun c hc => ⟨(hS c hc).1, by have := (hS c hc).2; have := hb3.size; omega⟩))
      have HB3 := hide (below_trans hbC hb3)
      clear hgf hb3 hsm hbC hWC hhC HB HX HY
      go_wp2_with fail
      go_ret2
      exact ⟨HB3.out, Or.inl ⟨_, _, hq.out, rfl, HT.out⟩⟩
    · cases hvb
      have asbN := Tryz.asN_M
      have asbS := Tryz.asS_M
      have asbR := Tryz.asR_M
      have asbM := Tryz.asM_M
      go_wp2_with fail
      refine (isNothing_map _ w1).mono ?_
      rintro e w2 ⟨rfl, hbx⟩
      have HBn := hide (below_trans HB.out hbx)
      clear HB
      have HB := HBn
      clear HBn
      clear hbx
      have hq : Hid (sumT d (Nd.mk 5 0 ByteArray.empty [] xsa : Nd (Tr d)) (Nd.mk 6 0 ByteArray.empty keysb xsb : Nd (Tr d)) = none) := add_kinds (show Nd.kind (Nd.mk 5 0 ByteArray.empty [] xsa : Nd (Tr d)) ≠ 0 from by show (5 : Int) ≠ 0; omega) (show Nd.kind (Nd.mk 6 0 ByteArray.empty keysb xsb : Nd (Tr d)) ≠ 0 from by show (6 : Int) ≠ 0; omega) (Or.inl (by show (5 : Int) ≠ 6; omega))
      go_wp2_with fail
      go_ret2
      exact ⟨by first | exact HB.out | exact below_trans HB.out (below_alloc1 _ _) | exact below_trans (below_trans HB.out (below_alloc1 _ _)) (below_alloc1 _ _) | exact below_trans (below_trans (below_trans HB.out (below_alloc1 _ _)) (below_alloc1 _ _)) (below_alloc1 _ _), Or.inr ⟨hq.out, _, rfl⟩⟩
  · have asaN := Tryz.asN_M
    have asaS := Tryz.asS_M
    have asaR := Tryz.asR_M
    have asaM := Tryz.asM_M
    go_wp2_with fail
    refine (isNothing_map _ w).mono ?_
    rintro e w1 ⟨rfl, hbx⟩
    have HB := hide hbx
    clear hbx
    obtain ⟨Tb, ub', rfl⟩ := hub.iface
    rcases hub with ⟨kb, hb1, rfl, hvb⟩ | ⟨nb, hb1, rfl, hvb⟩ | ⟨sb, hb1, rfl, hvb⟩ | ⟨xsb, svb, hb1, rfl, hvb, hrb⟩ | ⟨keysb, xsb, psb, rb, esb, hb1, hb2k, hb3, hb4, rfl, hvb, hrb, hmb, heb⟩
    · cases hvb
      have asbN := Tryz.asN_B
      have asbS := Tryz.asS_B
      have asbR := Tryz.asR_B
      have asbM := Tryz.asM_B
      go_wp2_with fail
      refine (isNothing_bare kb w1).mono ?_
      rintro e w2 ⟨rfl, hbx⟩
      have HBn := hide (below_trans HB.out hbx)
      clear HB
      have HB := HBn
      clear HBn
      clear hbx
      by_cases kb0 : kb = 0
      · have kbb : (kb == 0) = true := by simpa using kb0
        have hq : Hid (sumT d (Nd.mk 6 0 ByteArray.empty keysa xsa : Nd (Tr d)) (Nd.mk kb 0 ByteArray.empty [] [] : Nd (Tr d)) = some (Nd.mk 6 0 ByteArray.empty keysa xsa : Nd (Tr d))) := by show sumT _ _ _ = _; unfold sumT; rw [if_neg (show Nd.kind (Nd.mk 6 0 ByteArray.empty keysa xsa : Nd (Tr d)) ≠ 0 from by show (6 : Int) ≠ 0; omega)]; exact if_pos kb0
        go_wp2_with fail
        go_ret2
        exact ⟨by first | exact HB.out | exact below_trans HB.out (below_alloc1 _ _) | exact below_trans (below_trans HB.out (below_alloc1 _ _)) (below_alloc1 _ _) | exact below_trans (below_trans (below_trans HB.out (below_alloc1 _ _)) (below_alloc1 _ _)) (below_alloc1 _ _), Or.inl ⟨_, _, hq.out, rfl, HRET.out _ _ _ HUA.out (by first | exact HB.out | exact below_trans HB.out (below_alloc1 _ _) | exact below_trans (below_trans HB.out (below_alloc1 _ _)) (below_alloc1 _ _) | exact below_trans (below_trans (below_trans HB.out (below_alloc1 _ _)) (below_alloc1 _ _)) (below_alloc1 _ _))⟩⟩
      have kbb : (kb == 0) = false := by simpa using kb0
      have hq : Hid (sumT d (Nd.mk 6 0 ByteArray.empty keysa xsa : Nd (Tr d)) (Nd.mk kb 0 ByteArray.empty [] [] : Nd (Tr d)) = none) := add_kinds (show Nd.kind (Nd.mk 6 0 ByteArray.empty keysa xsa : Nd (Tr d)) ≠ 0 from by show (6 : Int) ≠ 0; omega) (show Nd.kind (Nd.mk kb 0 ByteArray.empty [] [] : Nd (Tr d)) ≠ 0 from kb0) (Or.inl (by show (6 : Int) ≠ kb; omega))
      go_wp2_with fail
      go_ret2
      exact ⟨by first | exact HB.out | exact below_trans HB.out (below_alloc1 _ _) | exact below_trans (below_trans HB.out (below_alloc1 _ _)) (below_alloc1 _ _) | exact below_trans (below_trans (below_trans HB.out (below_alloc1 _ _)) (below_alloc1 _ _)) (below_alloc1 _ _), Or.inr ⟨hq.out, _, rfl⟩⟩
    · cases hvb
      have asbN := Tryz.asN_N
      have asbS := Tryz.asS_N
      have asbR := Tryz.asR_N
      have asbM := Tryz.asM_N
      go_wp2_with fail
      refine (isNothing_num _ w1).mono ?_
      rintro e w2 ⟨rfl, hbx⟩
      have HBn := hide (below_trans HB.out hbx)
      clear HB
      have HB := HBn
      clear HBn
      clear hbx
      have hq : Hid (sumT d (Nd.mk 6 0 ByteArray.empty keysa xsa : Nd (Tr d)) (Nd.mk 3 nb ByteArray.empty [] [] : Nd (Tr d)) = none) := add_kinds (show Nd.kind (Nd.mk 6 0 ByteArray.empty keysa xsa : Nd (Tr d)) ≠ 0 from by show (6 : Int) ≠ 0; omega) (show Nd.kind (Nd.mk 3 nb ByteArray.empty [] [] : Nd (Tr d)) ≠ 0 from by show (3 : Int) ≠ 0; omega) (Or.inl (by show (6 : Int) ≠ 3; omega))
      go_wp2_with fail
      go_ret2
      exact ⟨by first | exact HB.out | exact below_trans HB.out (below_alloc1 _ _) | exact below_trans (below_trans HB.out (below_alloc1 _ _)) (below_alloc1 _ _) | exact below_trans (below_trans (below_trans HB.out (below_alloc1 _ _)) (below_alloc1 _ _)) (below_alloc1 _ _), Or.inr ⟨hq.out, _, rfl⟩⟩
    · cases hvb
      have asbN := Tryz.asN_S
      have asbS := Tryz.asS_S
      have asbR := Tryz.asR_S
      have asbM := Tryz.asM_S
      go_wp2_with fail
      refine (isNothing_str _ w1).mono ?_
      rintro e w2 ⟨rfl, hbx⟩
      have HBn := hide (below_trans HB.out hbx)
      clear HB
      have HB := HBn
      clear HBn
      clear hbx
      have hq : Hid (sumT d (Nd.mk 6 0 ByteArray.empty keysa xsa : Nd (Tr d)) (Nd.mk 4 0 sb [] [] : Nd (Tr d)) = none) := add_kinds (show Nd.kind (Nd.mk 6 0 ByteArray.empty keysa xsa : Nd (Tr d)) ≠ 0 from by show (6 : Int) ≠ 0; omega) (show Nd.kind (Nd.mk 4 0 sb [] [] : Nd (Tr d)) ≠ 0 from by show (4 : Int) ≠ 0; omega) (Or.inl (by show (6 : Int) ≠ 4; omega))
      go_wp2_with fail
      go_ret2
      exact ⟨by first | exact HB.out | exact below_trans HB.out (below_alloc1 _ _) | exact below_trans (below_trans HB.out (below_alloc1 _ _)) (below_alloc1 _ _) | exact below_trans (below_trans (below_trans HB.out (below_alloc1 _ _)) (below_alloc1 _ _)) (below_alloc1 _ _), Or.inr ⟨hq.out, _, rfl⟩⟩
    · cases hvb
      have asbN := Tryz.asN_R
      have asbS := Tryz.asS_R
      have asbR := Tryz.asR_R
      have asbM := Tryz.asM_R
      go_wp2_with fail
      refine (isNothing_row _ w1).mono ?_
      rintro e w2 ⟨rfl, hbx⟩
      have HBn := hide (below_trans HB.out hbx)
      clear HB
      have HB := HBn
      clear HBn
      clear hbx
      have hq : Hid (sumT d (Nd.mk 6 0 ByteArray.empty keysa xsa : Nd (Tr d)) (Nd.mk 5 0 ByteArray.empty [] xsb : Nd (Tr d)) = none) := add_kinds (show Nd.kind (Nd.mk 6 0 ByteArray.empty keysa xsa : Nd (Tr d)) ≠ 0 from by show (6 : Int) ≠ 0; omega) (show Nd.kind (Nd.mk 5 0 ByteArray.empty [] xsb : Nd (Tr d)) ≠ 0 from by show (5 : Int) ≠ 0; omega) (Or.inl (by show (6 : Int) ≠ 5; omega))
      go_wp2_with fail
      go_ret2
      exact ⟨by first | exact HB.out | exact below_trans HB.out (below_alloc1 _ _) | exact below_trans (below_trans HB.out (below_alloc1 _ _)) (below_alloc1 _ _) | exact below_trans (below_trans (below_trans HB.out (below_alloc1 _ _)) (below_alloc1 _ _)) (below_alloc1 _ _), Or.inr ⟨hq.out, _, rfl⟩⟩
    · cases hvb
      have asbN := Tryz.asN_M
      have asbS := Tryz.asS_M
      have asbR := Tryz.asR_M
      have asbM := Tryz.asM_M
      go_wp2_with fail
      refine (isNothing_map _ w1).mono ?_
      rintro e w2 ⟨rfl, hbx⟩
      have HBn := hide (below_trans HB.out hbx)
      clear HB
      have HB := HBn
      clear HBn
      clear hbx
      have hq : Hid (sumT d (Nd.mk 6 0 ByteArray.empty keysa xsa : Nd (Tr d)) (Nd.mk 6 0 ByteArray.empty keysb xsb : Nd (Tr d)) = some (mapT d (putAll (keysa.zip xsa) (keysb.zip xsb)))) := rfl
      have hb2 := hide (below_trans (below_trans HB.out (below_alloc1 w2 (.cells #[.map (some ra)] 125))) (below_alloc1 _ (.cells #[.map (some rb)] 125)))
      have HIA := hide (show MapIn S w ra esa psa (keysa.zip xsa) from ⟨hma, hea, ha4, by rw [zip_fst _ _ ha3]; exact ha2⟩)
      have HIB := hide (show MapIn S w rb esb psb (keysb.zip xsb) from ⟨hmb, heb, hb4, by rw [zip_fst _ _ hb3]; exact hb2k⟩)
      have HLA2 : xsa.length < 60 := HLA.out
      have HLB2 : xsb.length < 60 := HLB.out
      have hral := hSw ra hra
      have hrbl := hSw rb hrb
      clear hma hea ha4 ha3 ha2 hmb heb hb4 hb3 hb2k hra hrb
      go_wp2_with fail
      have hsm := hSw.same hb2.out
      refine Calls.mono (addMaps_any d N S ra rb esa esb psa (keysa.zip xsa) psb (keysb.zip xsb) _ (HIA.out.later (hb2.out.block _ hral) hsm) (HIB.out.later (hb2.out.block _ hrbl) hsm) (fun c hc => ⟨(hS c hc).1, by have := (hS c hc).2; have := hb2.out.size; omega⟩) (by have := hb2.out.size; omega) (by rw [List.length_zip, List.length_zip]; omega)) ?_
      rintro e w3 ⟨u, rfl, hu, hb3'⟩
      obtain ⟨Tu, u', rfl⟩ := hu.iface
      have HU := hide hu
      have HB3 := hide (below_trans hb2.out hb3')
      clear hu hb3' hsm
      go_wp2_with fail
      go_ret2
      exact ⟨HB3.out, Or.inl ⟨_, _, hq.out, rfl, HU.out⟩⟩

theorem add_bad2 {d : Nat} {a b : Tr (d + 1)} (h : okT (d + 1) a = false ∨ okT (d + 1) b = false) : partAddT d a b = (zeroT d, false) := by
  unfold partAddT
  refine if_neg (fun hh => ?_)
  rcases h with h | h
  · rw [h] at hh; exact absurd hh.1 (by simp)
  · rw [h] at hh; exact absurd hh.2 (by simp)

set_option maxRecDepth 100000 in
set_option maxHeartbeats 4000000 in
theorem implPartAdd_any (d : Nat) (S : Nat → Prop) (a : Tr (d + 1)) (va : Value) (S2 : Nat → Prop) (b : Tr (d + 1)) (vb : Value) (w : World) (hv : ValAt S w (d + 1) a va) (hS : Within S w) (hx : ValAt S2 w (d + 1) b vb) (hS2 : Within S2 w) (hg : ErrType w) :
    Calls Tryz.prog 9 #[va, vb] w (TellQ d (partAddT d a b).1 (partAddT d a b).2 w) := by
  obtain ⟨k, n, s, ak, lk, ck, al, ll, cl, rfl⟩ := hv.shape
  obtain ⟨k', n', s', ak', lk', ck', al', ll', cl', rfl⟩ := hx.shape
  obtain ⟨k0, k1, k2, hW0, hsz0⟩ := laid3 w 26 26 26 (.int .i64 k) (.int .i64 n) (.string s) (.slice ak lk ck) (.slice al ll cl) (.int .i64 k') (.int .i64 n') (.string s') (.slice ak' lk' ck') (.slice al' ll' cl') (.int .i64 0) (.int .i64 0) (.string { data := #[] }) (.slice none 0 0) (.slice none 0 0)
  obtain ⟨W0, hW⟩ : ∃ W0, W0 = ((w.alloc (.cells #[.int .i64 k, .int .i64 n, .string s, .slice ak lk ck, .slice al ll cl] 26)).alloc (.cells #[.int .i64 k', .int .i64 n', .string s', .slice ak' lk' ck', .slice al' ll' cl'] 26)).alloc (.cells #[.int .i64 0, .int .i64 0, .string { data := #[] }, .slice none 0 0, .slice none 0 0] 26) := ⟨_, rfl⟩
  rw [← hW] at k0 k1 k2 hW0 hsz0
  have HW := hide hW
  clear hW k0
  go_enter Tryz.func9, Tryz.ntmps9
  go_wp2_with fail
  rw [← HW.out]
  clear HW
  refine (given_any (d + 1) S a _ W0 (hv.same (hS.same hW0)) (hS.later hW0.size)).mono ?_
  rintro e w1 ⟨hb1, hq⟩
  have hB1 := below_trans hW0 hb1
  replace k1 := k1.below hb1
  replace k2 := k2.below hb1
  have hg1 := hg.below hB1
  have hs1 := hb1.size
  have hfin : ∀ (w1' : World), Below W0.heap.size w1 w1' → ∀ (y : Tr (d + 1)) (ok : Bool), Hid (∀ e w2, TellQ d y ok w1' e w2 → ∃ v0 v1 v2 v3 v4 v5 v6 v7 v8, e = .returned (.tuple #[.agg #[.int .i64 v0, .int .i64 v1, .string v2, .slice v3 v4 v5, .slice v6 v7 v8], .bool ok]) ∧
      Blk5 w2 (w.heap.size + 1 + 1) 26 (.int .i64 0) (.int .i64 0) (.string { data := #[] }) (.slice none 0 0) (.slice none 0 0) ∧
      ∀ wF, wF = set5 w2 (w.heap.size + 1 + 1) 0 (.int .i64 v0) (.int .i64 v1) (.string v2) (.slice v3 v4 v5) (.slice v6 v7 v8) → ValOwn wF (d + 1) (Fresh w wF) y (.agg #[.int .i64 v0, .int .i64 v1, .string v2, .slice v3 v4 v5, .slice v6 v7 v8]) ∧ Below w.heap.size w wF) := fun w1' hb' y ok => by
    intro e w2 ⟨v, he, hv, hb2⟩
    obtain ⟨v0, v1, v2, v3, v4, v5, v6, v7, v8, rfl⟩ := (ValOwn.at _ _ _ _ hv).shape
    have hbw : Below w.heap.size w w1' := hB1.trans (hb'.mono (by omega))
    have hk : Blk5 w1' (w.heap.size + 1 + 1) 26 (.int .i64 0) (.int .i64 0) (.string { data := #[] }) (.slice none 0 0) (.slice none 0 0) := k2.of_block (hb'.block _ (by omega))
    exact ⟨v0, v1, v2, v3, v4, v5, v6, v7, v8, he, hk.below hb2, tell_end hv (below_trans hbw hb2) (by omega) (by have := hb'.size; omega)⟩
  clear hv hW0 k2
  rcases hq with ⟨hok, u, rfl, hu⟩ | ⟨hok, why, rfl⟩
  · obtain ⟨T, u', rfl⟩ := hu.iface
    obtain ⟨x0, x1, x2, x3, x4⟩ := k1.cell
    have HU := hide hu
    clear hu
    go_wp2_with fail
    refine (given_any (d + 1) S2 b _ w1 (hx.same (hS2.same hB1)) (hS2.later hB1.size)).mono ?_
    rintro e w2 ⟨hb2, hq⟩
    have hbN2 : Below W0.heap.size w1 w2 := hb2.mono hs1
    have hs2 := hb2.size
    have hg2 := hg1.below hb2
    clear x0 x1 x2 x3 x4
    rcases hq with ⟨hok2, u2, rfl, hu2⟩ | ⟨hok2, why, rfl⟩
    · obtain ⟨T2, u2', rfl⟩ := hu2.iface
      have hu1 : TreeG (fun c => W0.heap.size ≤ c ∧ c < w2.heap.size) w2 (d + 1) a (.iface T u') := TreeG.moved (fun c hc => hb2.block c hc.2) (fun c hc => ⟨hc.1, by have := hc.2; omega⟩) (d + 1) a _ HU.out
      have hu2' : TreeG (fun c => W0.heap.size ≤ c ∧ c < w2.heap.size) w2 (d + 1) b (.iface T2 u2') := hu2.mono (fun c hc => ⟨by have := hc.1; omega, hc.2⟩)
      have hcallA := hide (addTrees_any d W0.heap.size (fun c => W0.heap.size ≤ c ∧ c < w2.heap.size) a b _ _ w2 hok hok2 hu1 hu2' (fun c hc => hc) (by omega))
      have HOK := hide (And.intro hok hok2)
      clear hu1 hu2 hu2' hb2 hok hok2 HU
      go_wp2_with fail
      refine Calls.mono hcallA.out ?_
      rintro e w3 ⟨hb3, hq⟩
      have hbN3 := hbN2.trans (hb3.mono (by omega))
      have hg3 := hg2.below hb3
      clear hcallA
      rcases hq with ⟨t, u3, hsum, rfl, hu3⟩ | ⟨hsum, why, rfl⟩
      · obtain ⟨T3, u3', rfl⟩ := hu3.iface
        have HR : Hid (partAddT d a b = (toldT d t, okT (d + 1) t)) := by
          show partAddT d a b = _
          unfold partAddT
          rw [if_pos HOK.out, hsum]
        have hcall := hide (told_tree d _ _ _ w3 hu3 (fun b hb => hb.2))
        clear hu3 hsum hb3
        go_wp2_with fail
        refine Calls.mono hcall.out ?_
        intro e w4 hq
        obtain ⟨v0, v1, v2, v3, v4, v5, v6, v7, v8, rfl, k3, hF⟩ := (hfin w3 hbN3 _ _).out e w4 hq
        have HF := hide hF
        obtain ⟨y0, y1, y2, y3, y4⟩ := k3.cell
        have yf := k3.frozen
        clear hF hq hfin hcall k3
        go_wp2_with fail
        refine bodyPost_ret (v := .tuple #[.agg #[.int .i64 v0, .int .i64 v1, .string v2, .slice v3 v4 v5, .slice v6 v7 v8], .bool (okT (d + 1) t)]) (by simp [results, Tryz.results9, go_sem, y0, y1, y2, y3, y4]) rfl ⟨_, by rw [HR.out], by rw [HR.out]; exact (HF.out _ rfl).1, (HF.out _ rfl).2⟩
      · have HR : Hid (partAddT d a b = (zeroT d, false)) := by
          show partAddT d a b = _
          unfold partAddT
          rw [if_pos HOK.out, hsum]
        have hcall := hide (told_fault d .nilIface why w3 hg3)
        unfold faultV
        clear hsum hb3
        go_wp2_with fail
        refine Calls.mono hcall.out ?_
        intro e w4 hq
        obtain ⟨v0, v1, v2, v3, v4, v5, v6, v7, v8, rfl, k3, hF⟩ := (hfin w3 hbN3 _ _).out e w4 hq
        have HF := hide hF
        obtain ⟨y0, y1, y2, y3, y4⟩ := k3.cell
        have yf := k3.frozen
        clear hF hq hfin hcall k3
        go_wp2_with fail
        refine bodyPost_ret (v := .tuple #[.agg #[.int .i64 v0, .int .i64 v1, .string v2, .slice v3 v4 v5, .slice v6 v7 v8], .bool false]) (by simp [results, Tryz.results9, go_sem, y0, y1, y2, y3, y4]) rfl ⟨_, by rw [HR.out], by rw [HR.out]; exact (HF.out _ rfl).1, (HF.out _ rfl).2⟩
    · have HR : Hid (partAddT d a b = (zeroT d, false)) := add_bad2 (Or.inr hok2)
      have hcall := hide (told_fault d .nilIface why w2 hg2)
      unfold faultV
      clear HU
      go_wp2_with fail
      refine Calls.mono hcall.out ?_
      intro e w4 hq
      obtain ⟨v0, v1, v2, v3, v4, v5, v6, v7, v8, rfl, k3, hF⟩ := (hfin w2 hbN2 _ _).out e w4 hq
      have HF := hide hF
      obtain ⟨y0, y1, y2, y3, y4⟩ := k3.cell
      have yf := k3.frozen
      clear hF hq hfin hcall k3
      go_wp2_with fail
      refine bodyPost_ret (v := .tuple #[.agg #[.int .i64 v0, .int .i64 v1, .string v2, .slice v3 v4 v5, .slice v6 v7 v8], .bool false]) (by simp [results, Tryz.results9, go_sem, y0, y1, y2, y3, y4]) rfl ⟨_, by rw [HR.out], by rw [HR.out]; exact (HF.out _ rfl).1, (HF.out _ rfl).2⟩
  · have HR : Hid (partAddT d a b = (zeroT d, false)) := add_bad2 (Or.inl hok)
    have hcall := hide (told_fault d .nilIface why w1 hg1)
    unfold faultV
    clear k1
    go_wp2_with fail
    refine Calls.mono hcall.out ?_
    intro e w2 hq
    obtain ⟨v0, v1, v2, v3, v4, v5, v6, v7, v8, rfl, k3, hF⟩ := (hfin w1 (Below.refl _ _) _ _).out e w2 hq
    have HF := hide hF
    obtain ⟨y0, y1, y2, y3, y4⟩ := k3.cell
    have yf := k3.frozen
    clear hF hq hfin hcall k3
    go_wp2_with fail
    refine bodyPost_ret (v := .tuple #[.agg #[.int .i64 v0, .int .i64 v1, .string v2, .slice v3 v4 v5, .slice v6 v7 v8], .bool false]) (by simp [results, Tryz.results9, go_sem, y0, y1, y2, y3, y4]) rfl ⟨_, by rw [HR.out], by rw [HR.out]; exact (HF.out _ rfl).1, (HF.out _ rfl).2⟩
end Go.Proofs.YtoangpfmjohhmaaGreatDoor
