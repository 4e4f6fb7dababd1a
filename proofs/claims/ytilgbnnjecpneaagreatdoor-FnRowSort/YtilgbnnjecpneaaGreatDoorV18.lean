/- Texts of the proof, put together by program: WOrdT, WCmp, WKey, WWalkA. -/
import Derived.Test.YtilgbnnjecpneaaGreatDoorV17
import Derived.Test.YtilgbnnjecpneaaGreatDoorV3
import Derived.LaidEql
import Derived.Laws.StructEq
import Derived.Test.YtilgbnnjecpneaaGreatDoorV4
/- The order of trees: it is turned round, and goes on. -/
namespace Go.Proofs.YtilgbnnjecpneaaGreatDoor
open Go.RowKit Go.Deep

/-- Turned round it is the other way; of three it goes on. -/
structure OrdF {α : Type} (f : α → α → Int) : Prop where
  neg : ∀ a b, f a b = -f b a
  trans : ∀ a b c, f a b ≤ 0 → f b c ≤ 0 → f a c ≤ 0

theorem OrdF.self {α : Type} {f : α → α → Int} (h : OrdF f) (a : α) : f a a = 0 := by
  have := h.neg a a
  omega
theorem OrdF.lt {α : Type} {f : α → α → Int} (h : OrdF f) {a b c : α} (h1 : f a b < 0) (h2 : f b c ≤ 0) : f a c < 0 := by
  have k1 := h.trans a b c (by omega) h2
  have n1 := h.neg a c
  have n2 := h.neg a b
  have n3 := h.neg b c
  rcases Int.lt_or_eq_of_le k1 with k | k
  · exact k
  · have := h.trans b c a h2 (by omega)
    omega
theorem OrdF.lt' {α : Type} {f : α → α → Int} (h : OrdF f) {a b c : α} (h1 : f a b ≤ 0) (h2 : f b c < 0) : f a c < 0 := by
  have k1 := h.trans a b c h1 (by omega)
  have n1 := h.neg a c
  have n2 := h.neg a b
  have n3 := h.neg b c
  rcases Int.lt_or_eq_of_le k1 with k | k
  · exact k
  · have := h.trans c a b (by omega) h1
    omega
theorem OrdF.or {α : Type} {f g : α → α → Int} (hf : OrdF f) (hg : OrdF g) : OrdF (fun a b => orI (f a b) (g a b)) := by
  refine ⟨fun a b => ?_, fun a b c h1 h2 => ?_⟩
  · have e1 := hf.neg a b
    have e2 := hg.neg a b
    show orI (f a b) (g a b) = -orI (f b a) (g b a)
    unfold orI
    by_cases h : f b a = 0
    · rw [if_pos h, if_pos (by omega)]; exact e2
    · rw [if_neg h, if_neg (by omega)]; exact e1
  · have h1' : orI (f a b) (g a b) ≤ 0 := h1
    have h2' : orI (f b c) (g b c) ≤ 0 := h2
    show orI (f a c) (g a c) ≤ 0
    unfold orI at h1' h2' ⊢
    by_cases x1 : f a b = 0
    · rw [if_pos x1] at h1'
      by_cases x2 : f b c = 0
      · rw [if_pos x2] at h2'
        have y1 := hf.trans a b c (by omega) (by omega)
        have y2 := hf.trans c b a (by have := hf.neg b c; omega) (by have := hf.neg a b; omega)
        have y3 := hf.neg a c
        rw [if_pos (by omega)]
        exact hg.trans a b c h1' h2'
      · rw [if_neg x2] at h2'
        have := hf.lt' (a := a) (b := b) (c := c) (by omega) (by omega)
        rw [if_neg (by omega)]
        omega
    · rw [if_neg x1] at h1'
      have hbc : f b c ≤ 0 := by
        by_cases x2 : f b c = 0
        · omega
        · rw [if_neg x2] at h2'; exact h2'
      have := hf.lt (a := a) (b := b) (c := c) (by omega) hbc
      rw [if_neg (by omega)]
      omega
theorem OrdF.pull {α β : Type} {f : β → β → Int} (hf : OrdF f) (g : α → β) : OrdF (fun a b => f (g a) (g b)) := ⟨fun a b => hf.neg (g a) (g b), fun a b c => hf.trans (g a) (g b) (g c)⟩

theorem ordL_neg {α : Type} {f : α → α → Int} (hf : OrdF f) : ∀ (xs ys : List α), ordL f xs ys = -ordL f ys xs
  | [], [] => rfl
  | [], _ :: _ => rfl
  | _ :: _, [] => rfl
  | a :: r, b :: s => by
    have e1 := hf.neg a b
    have e2 := ordL_neg hf r s
    show orI (f a b) (ordL f r s) = -orI (f b a) (ordL f s r)
    unfold orI
    by_cases h : f b a = 0
    · rw [if_pos h, if_pos (by omega)]; exact e2
    · rw [if_neg h, if_neg (by omega)]; exact e1
theorem ordL_trans {α : Type} {f : α → α → Int} (hf : OrdF f) : ∀ (xs ys zs : List α), ordL f xs ys ≤ 0 → ordL f ys zs ≤ 0 → ordL f xs zs ≤ 0
  | [], _, [], _, _ => Int.le_refl _
  | [], _, _ :: _, _, _ => by show (-1 : Int) ≤ 0; omega
  | a :: r, [], zs, h, _ => by exact absurd h (by show ¬ (1 : Int) ≤ 0; omega)
  | a :: r, b :: s, [], _, h => by exact absurd h (by show ¬ (1 : Int) ≤ 0; omega)
  | a :: r, b :: s, c :: t, h1, h2 => by
    have ih := ordL_trans hf r s t
    have h1' : orI (f a b) (ordL f r s) ≤ 0 := h1
    have h2' : orI (f b c) (ordL f s t) ≤ 0 := h2
    show orI (f a c) (ordL f r t) ≤ 0
    unfold orI at h1' h2' ⊢
    by_cases x1 : f a b = 0
    · rw [if_pos x1] at h1'
      by_cases x2 : f b c = 0
      · rw [if_pos x2] at h2'
        have y1 := hf.trans a b c (by omega) (by omega)
        have y2 := hf.trans c b a (by have := hf.neg b c; omega) (by have := hf.neg a b; omega)
        have y3 := hf.neg a c
        rw [if_pos (by omega)]
        exact ih h1' h2'
      · rw [if_neg x2] at h2'
        have := hf.lt' (a := a) (b := b) (c := c) (by omega) (by omega)
        rw [if_neg (by omega)]
        omega
    · rw [if_neg x1] at h1'
      have hbc : f b c ≤ 0 := by
        by_cases x2 : f b c = 0
        · omega
        · rw [if_neg x2] at h2'; exact h2'
      have := hf.lt (a := a) (b := b) (c := c) (by omega) hbc
      rw [if_neg (by omega)]
      omega
theorem OrdF.list {α : Type} {f : α → α → Int} (hf : OrdF f) : OrdF (ordL f) := ⟨ordL_neg hf, ordL_trans hf⟩

theorem ord_cmpI : OrdF cmpI := by
  refine ⟨fun a b => ?_, fun a b c h1 h2 => ?_⟩
  · unfold cmpI; split <;> split <;> (try split) <;> omega
  · unfold cmpI at *
    split at h1 <;> split at h2 <;> (try split at h1) <;> (try split at h2) <;> (try (split <;> (try split) <;> omega)) <;> omega

theorem less_total : ∀ (a b : List UInt8), Op.bytesLess a b = true ∨ a = b ∨ Op.bytesLess b a = true
  | [], [] => Or.inr (Or.inl rfl)
  | [], _ :: _ => Or.inl rfl
  | _ :: _, [] => Or.inr (Or.inr rfl)
  | a :: r, b :: s => by
    simp only [Op.bytesLess, Bool.or_eq_true, Bool.and_eq_true, decide_eq_true_eq, beq_iff_eq]
    by_cases h1 : a < b
    · exact Or.inl (Or.inl h1)
    · by_cases h2 : b < a
      · exact Or.inr (Or.inr (Or.inl h2))
      · have e : a = b := by
          rw [UInt8.lt_iff_toNat_lt] at h1 h2
          exact UInt8.toNat_inj.1 (by omega)
        subst e
        rcases less_total r s with h | h | h
        · exact Or.inl (Or.inr ⟨rfl, h⟩)
        · exact Or.inr (Or.inl (by rw [h]))
        · exact Or.inr (Or.inr (Or.inr ⟨rfl, h⟩))
theorem cmpS_cases (a b : ByteArray) : (cmpS a b = -1 ∧ Op.bytesLess a.toList b.toList = true) ∨ (cmpS a b = 0 ∧ a.toList = b.toList) ∨ (cmpS a b = 1 ∧ Op.bytesLess b.toList a.toList = true) := by
  rcases less_total a.toList b.toList with h | h | h
  · exact Or.inl ⟨cmpS_lt h, h⟩
  · exact Or.inr (Or.inl ⟨cmpS_eq (by simpa using h), h⟩)
  · refine Or.inr (Or.inr ⟨cmpS_gt ?_ ?_, h⟩)
    · cases hb : Op.bytesLess a.toList b.toList
      · rfl
      · have := bytesLess_trans _ _ _ h hb
        rw [bytesLess_irrefl] at this
        cases this
    · cases hb : (a.toList == b.toList)
      · rfl
      · have e : a.toList = b.toList := by simpa using hb
        rw [e, bytesLess_irrefl] at h
        cases h
theorem ord_cmpS : OrdF cmpS := by
  refine ⟨fun a b => ?_, fun a b c h1 h2 => ?_⟩
  · rcases cmpS_cases a b with ⟨e, h⟩ | ⟨e, h⟩ | ⟨e, h⟩ <;> rcases cmpS_cases b a with ⟨e', h'⟩ | ⟨e', h'⟩ | ⟨e', h'⟩ <;> rw [e, e'] <;> (first | rfl | skip)
    all_goals first
      | (have := bytesLess_trans _ _ _ h h'; rw [bytesLess_irrefl] at this; cases this)
      | (rw [h', bytesLess_irrefl] at h; cases h)
      | (rw [h, bytesLess_irrefl] at h'; cases h')
  · rcases cmpS_cases a b with ⟨e, h⟩ | ⟨e, h⟩ | ⟨e, h⟩
    · rcases cmpS_cases b c with ⟨e', h'⟩ | ⟨e', h'⟩ | ⟨e', h'⟩
      · rw [cmpS_lt (bytesLess_trans _ _ _ h h')]; omega
      · rw [h'] at h; rw [cmpS_lt h]; omega
      · omega
    · rcases cmpS_cases b c with ⟨e', h'⟩ | ⟨e', h'⟩ | ⟨e', h'⟩
      · rw [← h] at h'; rw [cmpS_lt h']; omega
      · rw [cmpS_eq (by simpa using h.trans h')]; omega
      · omega
    · omega

theorem ord_headO {α : Type} : OrdF (fun (a b : Nd α) => headO a b) :=
  (ord_cmpI.pull Nd.kind).or ((ord_cmpI.pull Nd.num).or ((ord_cmpS.pull Nd.str).or (ord_cmpS.list.pull Nd.keys)))
theorem ord_T : ∀ (d : Nat), OrdF (ordT d)
  | 0 => ⟨fun _ _ => rfl, fun _ _ _ _ _ => Int.le_refl _⟩
  | d + 1 => (ord_headO (α := Tr d)).or ((ord_T d).list.pull Nd.list)
end Go.Proofs.YtilgbnnjecpneaaGreatDoor

/- cmp.Compare, cmp.Or, slices.Compare. -/
namespace Go.Proofs.YtilgbnnjecpneaaGreatDoor
open Go.RowKit Go.Deep

set_option maxHeartbeats 400000 in
theorem isNaNInt_any (a : Int) (w : World) : Calls Tryz.prog 92 #[.int .i64 a] w fun e w' => e = .returned (.bool false) ∧ w' = w := by
  have hq : (a != a) = false := by simp
  go_enter Tryz.func92, Tryz.ntmps92
  go_wp2_with fail
  go_ret
  exact ⟨by simp, rfl⟩
set_option maxHeartbeats 400000 in
theorem isNaNStr_any (a : ByteArray) (w : World) : Calls Tryz.prog 93 #[.string a] w fun e w' => e = .returned (.bool false) ∧ w' = w := by
  have hq : (a.toList == a.toList) = true := by simp
  go_enter Tryz.func93, Tryz.ntmps93
  go_wp2_with fail
  go_ret
  exact ⟨by simp, rfl⟩

set_option maxHeartbeats 1000000 in
theorem compareInt_any (a b : Int) (w : World) : Calls Tryz.prog 74 #[.int .i64 a, .int .i64 b] w fun e w' => e = .returned (.int .i64 (cmpI a b)) ∧ w' = w := by
  go_enter Tryz.func74, Tryz.ntmps74
  go_wp2_with fail
  refine (isNaNInt_any _ _).mono ?_
  rintro e w1 ⟨rfl, rfl⟩
  go_wp2_with fail
  refine (isNaNInt_any _ _).mono ?_
  rintro e w1 ⟨rfl, rfl⟩
  by_cases h : a < b
  · have hf : Hid _ := cmpI_lt h
    go_wp2_with fail
    go_ret
    rw [hf.out]
    exact ⟨rfl, rfl⟩
  · by_cases h' : b < a
    · have hf : Hid _ := cmpI_gt h'
      go_wp2_with fail
      go_ret
      rw [hf.out]
      exact ⟨rfl, rfl⟩
    · have hf : Hid _ := cmpI_eq h h'
      go_wp2_with fail
      go_ret
      rw [hf.out]
      exact ⟨rfl, rfl⟩
set_option maxHeartbeats 1000000 in
theorem compareStr_any (a b : ByteArray) (w : World) : Calls Tryz.prog 75 #[.string a, .string b] w fun e w' => e = .returned (.int .i64 (cmpS a b)) ∧ w' = w := by
  go_enter Tryz.func75, Tryz.ntmps75
  go_wp2_with fail
  refine (isNaNStr_any _ _).mono ?_
  rintro e w1 ⟨rfl, rfl⟩
  go_wp2_with fail
  refine (isNaNStr_any _ _).mono ?_
  rintro e w1 ⟨rfl, rfl⟩
  cases h1 : Op.bytesLess a.toList b.toList with
  | true =>
    have hf : Hid _ := cmpS_lt h1
    go_wp2_with fail
    go_ret
    rw [hf.out]
    exact ⟨rfl, rfl⟩
  | false =>
    cases h2 : (a.toList == b.toList) with
    | true =>
      have hf : Hid _ := cmpS_eq h2
      go_wp2_with fail
      go_ret
      rw [hf.out]
      exact ⟨rfl, rfl⟩
    | false =>
      have hf : Hid _ := cmpS_gt h1 h2
      go_wp2_with fail
      go_ret
      rw [hf.out]
      exact ⟨rfl, rfl⟩

set_option maxHeartbeats 1000000 in
theorem compareStrs_any (S S' : Nat → Prop) (ss ss' : List ByteArray) (v v' : Value) (w : World) (hv : StrsAt S w v ss) (hv' : StrsAt S' w v' ss') :
    Calls Tryz.prog 76 #[v, v'] w fun e w' => e = .returned (.int .i64 (ordL cmpS ss ss')) ∧ w' = w := by
  obtain ⟨a, cap, rfl, hlen⟩ := hv.open'
  obtain ⟨a', cap', rfl, hlen'⟩ := hv'.open'
  go_enter Tryz.func76, Tryz.ntmps76
  go_wp2_with fail
  go_loop [11] (fun i => ∃ (k : Nat), k ≤ ss.length ∧ k ≤ ss'.length ∧ i = .int .i64 k ∧ Hid (ordL cmpS ss ss' = ordL cmpS (ss.drop k) (ss'.drop k))) (fun i => ss.length - (intOf i).toNat)
  case atStart => exact ⟨0, Nat.zero_le _, Nat.zero_le _, rfl, rfl⟩
  case round =>
    obtain ⟨k, hk, hk', rfl, hfin⟩ := hrel
    by_cases hkl : k < ss.length
    case neg =>
      have hf2 : Hid (ordL cmpS ss ss' = cmpI ss.length ss'.length) := by
        show _ = _
        rw [hfin.out, ordL_end cmpS hk hk' (by omega)]
      by_cases hl : ss.length < ss'.length
      · have hf3 : Hid (ordL cmpS ss ss' = -1) := by show _ = _; rw [hf2.out, cmpI_lt (by omega)]
        go_wp2_with fail
        go_ret
        rw [hf3.out]
        exact ⟨rfl, rfl⟩
      · have hf3 : Hid (ordL cmpS ss ss' = 0) := by show _ = _; rw [hf2.out, cmpI_eq (by omega) (by omega)]
        go_wp2_with fail
        go_ret
        rw [hf3.out]
        exact ⟨rfl, rfl⟩
    case pos =>
    obtain ⟨b, o, s, rfl, _, hs, _, hck⟩ := hv.cell hkl
    by_cases hkl' : k < ss'.length
    case neg =>
      have hf3 : Hid (ordL cmpS ss ss' = 1) := by
        show _ = _
        rw [hfin.out, ordL_end cmpS hk hk' (by omega), cmpI_gt (by omega)]
      have hge : (ss'.length : Int) ≤ (k : Int) := by omega
      go_wp2_with fail
      go_ret
      rw [hf3.out]
      exact ⟨rfl, rfl⟩
    case pos =>
    obtain ⟨b', o', s', rfl, _, hs', _, hck'⟩ := hv'.cell hkl'
    have hst : Hid (_ = _) := ordL_drop cmpS hs hs'
    clear hv hv' hs hs'
    have hge : ¬ (ss'.length : Int) ≤ (k : Int) := by omega
    go_wp2_with fail
    refine (compareStr_any _ _ _).mono ?_
    rintro e w1 ⟨rfl, rfl⟩
    by_cases heq : cmpS s s' = 0
    · have hst2 : Hid (ordL cmpS ss ss' = ordL cmpS (ss.drop (k + 1)) (ss'.drop (k + 1))) := by
        show ordL cmpS ss ss' = _
        rw [hfin.out, hst.out, heq]
        rfl
      clear hst hfin
      go_wp2_with fail
      go_round
      case rel => exact ⟨k + 1, by omega, by omega, by go_num, hst2⟩
      case measure => simp [intOf]; omega
    · have hfin2 : Hid (ordL cmpS ss ss' = cmpS s s') := by
        show ordL cmpS ss ss' = _
        rw [hfin.out, hst.out, orI_ne heq]
      clear hst hfin
      go_wp2_with fail
      go_ret
      rw [hfin2.out]
      exact ⟨rfl, rfl⟩

end Go.Proofs.YtilgbnnjecpneaaGreatDoor

/- The map of pairs of lists: two keys are one, a key is sought, a key is laid. -/
namespace Go.Proofs.YtilgbnnjecpneaaGreatDoor
open Go.RowKit Go.Deep

/-- Two lists, by where they lie. -/
def pairKey (a b : Addr) (m n : Nat) : Value := .agg #[.pointer (some a), .pointer (some b), .int .i64 m, .int .i64 n]

theorem Tryz.fieldsPair : (Tryz.prog.fieldsOf 130).toList.map (fun f => (f.name, f.type, f.offset)) = [("a", 128, 0), ("b", 128, 1), ("manyA", 3, 2), ("manyB", 3, 3)] := by kernel_rfl
theorem Tryz.structPair : Tryz.prog.underlying 130 = some (.struct (Tryz.prog.fieldsOf 130)) := by kernel_rfl
theorem Tryz.pairHeld : Tryz.prog.stoodInHeld 130 = false := by kernel_rfl
theorem Tryz.ptrVal : Tryz.prog.underlying 128 = some (.pointer 29) := by kernel_rfl

theorem run_sameAddr_any (w : World) (a b : Addr) (ha : Plain w a.block) (hb : Plain w b.block) : (sameAddr a b).run Tryz.prog w = .ok (decide (a = b)) w := by
  obtain ⟨ca, ta, ha⟩ := ha
  obtain ⟨cb, tb, hb⟩ := hb
  by_cases e : a = b
  · subst e
    rw [run_sameAddr_same, decide_eq_true rfl]
  · rw [run_sameAddr_other w e ha hb, decide_eq_false e]

theorem run_equalPtr (w : World) (d : Nat) (a b : Addr) (ha : Plain w a.block) (hb : Plain w b.block) :
    (Op.equalIn (d + 1) 128 (.pointer (some a)) (.pointer (some b))).run Tryz.prog w = .ok (decide (a = b)) w := by
  obtain ⟨i, hi, hzz⟩ := Option.map_eq_some_iff.1 Tryz.infoVal
  simp only [Prod.mk.injEq] at hzz
  obtain ⟨_, hs, _⟩ := hzz
  simp [Op.equalIn, run_underlying Tryz.ptrVal, typeInfo, sizeOf, hi, hs, run_sameAddr_any w a b ha hb]

theorem run_pairEq (w : World) (a b a' b' : Addr) (m n m' n' : Nat) (h1 : Plain w a.block) (h2 : Plain w b.block) (h3 : Plain w a'.block) (h4 : Plain w b'.block) :
    (Op.equal 130 (pairKey a b m n) (pairKey a' b' m' n')).run Tryz.prog w = .ok (decide (a = a' ∧ b = b' ∧ m = m' ∧ n = n')) w := by
  have hp1 : (Op.equalIn 9999 128 (.pointer (some a)) (.pointer (some a'))).run Tryz.prog w = .ok (decide (a = a')) w := run_equalPtr w 9998 a a' h1 h3
  have hp2 : (Op.equalIn 9999 128 (.pointer (some b)) (.pointer (some b'))).run Tryz.prog w = .ok (decide (b = b')) w := run_equalPtr w 9998 b b' h2 h4
  have hi1 : (Op.equalIn 9999 3 (.int .i64 m) (.int .i64 m')).run Tryz.prog w = .ok ((m : Int) == (m' : Int)) w := run_equalIn_int (P := Tryz.prog) w 9998 3 .i64 .i64 m m' Tryz.underlying3
  have hi2 : (Op.equalIn 9999 3 (.int .i64 n) (.int .i64 n')).run Tryz.prog w = .ok ((n : Int) == (n' : Int)) w := run_equalIn_int (P := Tryz.prog) w 9998 3 .i64 .i64 n n' Tryz.underlying3
  have hf := Tryz.fieldsPair
  rw [Op.equal, Op.maxDepth, pairKey, pairKey, run_equalIn_struct w 9999 130 _ _ Tryz.structPair Tryz.pairHeld]
  generalize (Tryz.prog.fieldsOf 130).toList = fs at hf ⊢
  obtain ⟨f0, r0, rfl, e0, hf⟩ := List.map_eq_cons_iff.1 hf
  obtain ⟨f1, r1, rfl, e1, hf⟩ := List.map_eq_cons_iff.1 hf
  obtain ⟨f2, r2, rfl, e2, hf⟩ := List.map_eq_cons_iff.1 hf
  obtain ⟨f3, r3, rfl, e3, hf⟩ := List.map_eq_cons_iff.1 hf
  obtain rfl := List.map_eq_nil_iff.1 hf
  simp only [Prod.mk.injEq] at e0 e1 e2 e3
  obtain ⟨n0, t0, o0⟩ := e0
  obtain ⟨n1, t1, o1⟩ := e1
  obtain ⟨n2, t2, o2⟩ := e2
  obtain ⟨n3, t3, o3⟩ := e3
  simp only [Op.eqFields, n0, n1, n2, n3, t0, t1, t2, t3, o0, o1, o2, o3]
  clear hf n0 n1 n2 n3 t0 t1 t2 t3 o0 o1 o2 o3
  by_cases c1 : a = a'
  · rw [decide_eq_true c1] at hp1
    by_cases c2 : b = b'
    · rw [decide_eq_true c2] at hp2
      by_cases c3 : m = m'
      · have q3 : ((m : Int) == (m' : Int)) = true := by simp; omega
        rw [q3] at hi1
        by_cases c4 : n = n'
        · have q4 : ((n : Int) == (n' : Int)) = true := by simp; omega
          rw [q4] at hi2
          rw [decide_eq_true (⟨c1, c2, c3, c4⟩ : a = a' ∧ b = b' ∧ m = m' ∧ n = n')]
          simp [part, isAgg, run_underlying Tryz.ptrVal, run_underlying Tryz.underlying3, hp1, hp2, hi1, hi2]
        · have q4 : ((n : Int) == (n' : Int)) = false := by simp; omega
          rw [q4] at hi2
          rw [decide_eq_false (fun h : a = a' ∧ b = b' ∧ m = m' ∧ n = n' => c4 h.2.2.2)]
          simp [part, isAgg, run_underlying Tryz.ptrVal, run_underlying Tryz.underlying3, hp1, hp2, hi1, hi2]
      · have q3 : ((m : Int) == (m' : Int)) = false := by simp; omega
        rw [q3] at hi1
        rw [decide_eq_false (fun h : a = a' ∧ b = b' ∧ m = m' ∧ n = n' => c3 h.2.2.1)]
        simp [part, isAgg, run_underlying Tryz.ptrVal, run_underlying Tryz.underlying3, hp1, hp2, hi1]
    · rw [decide_eq_false c2] at hp2
      rw [decide_eq_false (fun h : a = a' ∧ b = b' ∧ m = m' ∧ n = n' => c2 h.2.1)]
      simp [part, isAgg, run_underlying Tryz.ptrVal, run_underlying Tryz.underlying3, hp1, hp2]
  · rw [decide_eq_false c1] at hp1
    rw [decide_eq_false (fun h : a = a' ∧ b = b' ∧ m = m' ∧ n = n' => c1 h.1)]
    simp [part, isAgg, run_underlying Tryz.ptrVal, run_underlying Tryz.underlying3, hp1]

/-- A map of pairs of lists that lie in plain blocks. -/
def PairMap (w : World) (es : List MapEntry) : Prop := ∀ e ∈ es, ∃ a b m n, e.key = pairKey a b m n ∧ e.val = .agg #[] ∧ Plain w a.block ∧ Plain w b.block

theorem run_findPair (w : World) (a b : Addr) (m n : Nat) (h1 : Plain w a.block) (h2 : Plain w b.block) : ∀ (es : List MapEntry) (i : Nat), PairMap w es →
    ((Instr.findAsking 130 (pairKey a b m n) es i).run Tryz.prog w = .ok none w ∧ ∀ e ∈ es, e.key ≠ pairKey a b m n) ∨
    ((∃ j, (Instr.findAsking 130 (pairKey a b m n) es i).run Tryz.prog w = .ok (some (j, .agg #[])) w) ∧ ∃ e ∈ es, e.key = pairKey a b m n)
  | [], i, _ => Or.inl ⟨by simp [Instr.findAsking], by simp⟩
  | e :: r, i, h => by
    obtain ⟨a', b', m', n', hk, hv, h3, h4⟩ := h e (by simp)
    have heq := run_pairEq w a b a' b' m n m' n' h1 h2 h3 h4
    by_cases c : a = a' ∧ b = b' ∧ m = m' ∧ n = n'
    · rw [decide_eq_true c] at heq
      refine Or.inr ⟨⟨i, by simp [Instr.findAsking, hk, hv, heq]⟩, e, by simp, ?_⟩
      obtain ⟨rfl, rfl, rfl, rfl⟩ := c
      exact hk
    · rw [decide_eq_false c] at heq
      rcases run_findPair w a b m n h1 h2 r (i + 1) (fun y hy => h y (by simp [hy])) with ⟨k1, k2⟩ | ⟨⟨j, k1⟩, y, hy, k2⟩
      · refine Or.inl ⟨by simp [Instr.findAsking, hk, heq, k1], fun y hy => ?_⟩
        rcases List.mem_cons.1 hy with rfl | hy
        · rw [hk]
          intro e2
          simp only [pairKey, Value.agg.injEq] at e2
          simp at e2
          exact c ⟨e2.1.symm, e2.2.1.symm, by omega, by omega⟩
        · exact k2 y hy
      · exact Or.inr ⟨⟨j, by simp [Instr.findAsking, hk, heq, k1]⟩, y, by simp [hy], k2⟩

theorem run_checkPtr (w : World) (em : Bool) (n : Nat) (a : Option Addr) : (Instr.checkKey em (n + 1) 128 (.pointer a)).run Tryz.prog w = .ok () w := by
  simp [Instr.checkKey, run_underlying Tryz.ptrVal]
theorem run_checkInt (w : World) (em : Bool) (n : Nat) (k : Int) : (Instr.checkKey em (n + 1) 3 (.int .i64 k)).run Tryz.prog w = .ok () w := by
  simp [Instr.checkKey, run_underlying Tryz.underlying3]
theorem run_checkPairAt (w : World) (em : Bool) (d : Nat) (a b : Addr) (m n : Nat) : (Instr.checkKey em (d + 2) 130 (pairKey a b m n)).run Tryz.prog w = .ok () w := by
  have hf := Tryz.fieldsPair
  have hp := fun a => run_checkPtr w em d a
  have hi := fun k => run_checkInt w em d k
  rw [Instr.checkKey, pairKey]
  simp only [Sem.run_bind, run_underlying Tryz.structPair, Result.andThen_ok]
  rw [← Array.forIn_toList]
  generalize (Tryz.prog.fieldsOf 130).toList = fs at hf ⊢
  obtain ⟨f0, r0, rfl, e0, hf⟩ := List.map_eq_cons_iff.1 hf
  obtain ⟨f1, r1, rfl, e1, hf⟩ := List.map_eq_cons_iff.1 hf
  obtain ⟨f2, r2, rfl, e2, hf⟩ := List.map_eq_cons_iff.1 hf
  obtain ⟨f3, r3, rfl, e3, hf⟩ := List.map_eq_cons_iff.1 hf
  obtain rfl := List.map_eq_nil_iff.1 hf
  simp only [Prod.mk.injEq] at e0 e1 e2 e3
  obtain ⟨n0, t0, o0⟩ := e0
  obtain ⟨n1, t1, o1⟩ := e1
  obtain ⟨n2, t2, o2⟩ := e2
  obtain ⟨n3, t3, o3⟩ := e3
  clear hf
  simp [List.forIn_cons, n0, n1, n2, n3, t0, t1, t2, t3, o0, o1, o2, o3, part, isAgg, run_underlying Tryz.ptrVal, run_underlying Tryz.underlying3, hp, hi]

theorem run_checkPair (w : World) (em : Bool) (a b : Addr) (m n : Nat) : (Instr.checkKey em 10000 130 (pairKey a b m n)).run Tryz.prog w = .ok () w := run_checkPairAt w em 9998 a b m n

theorem Tryz.mapPair : Tryz.prog.underlying 58 = some (.map 130 131) := by kernel_rfl
theorem Tryz.infoUnit : (Tryz.prog.info? 131).map (fun i => (i.zero, i.size, i.bytes)) = some (some (.agg #[]), 0, 0) := by kernel_rfl

theorem run_findKeyPair (w : World) (a b : Addr) (m n : Nat) (h1 : Plain w a.block) (h2 : Plain w b.block) (es : List MapEntry) (hp : PairMap w es) :
    ((Instr.findKey 130 (pairKey a b m n) es).run Tryz.prog w = .ok none w ∧ ∀ e ∈ es, e.key ≠ pairKey a b m n) ∨
    ((∃ j, (Instr.findKey 130 (pairKey a b m n) es).run Tryz.prog w = .ok (some (j, .agg #[])) w) ∧ ∃ e ∈ es, e.key = pairKey a b m n) := by
  cases es with
  | nil => exact Or.inl ⟨by simp [Instr.findKey, run_underlying Tryz.structPair, Instr.findNow], by simp⟩
  | cons e r =>
    obtain ⟨a', b', m', n', hk, hv, h3, h4⟩ := hp e (by simp)
    have hn : Instr.findNow (.struct (Tryz.prog.fieldsOf 130)) (pairKey a b m n) (e :: r) 0 = none := by
      simp [Instr.findNow, Instr.sameNow]
    have hrun : (Instr.findKey 130 (pairKey a b m n) (e :: r)).run Tryz.prog w = (Instr.findAsking 130 (pairKey a b m n) (e :: r) 0).run Tryz.prog w := by
      simp only [Instr.findKey, Sem.run_bind, run_underlying Tryz.structPair, Result.andThen_ok, hn]
    rw [hrun]
    exact run_findPair w a b m n h1 h2 (e :: r) 0 hp

theorem run_pairs (w : World) (r clock : Nat) (es : Array MapEntry) (a b : Addr) (m n : Nat) (h1 : Plain w a.block) (h2 : Plain w b.block) (hb : w.heap[r]? = some (.map es clock)) (hp : PairMap w es.toList) :
    ((∀ e ∈ es.toList, e.key ≠ pairKey a b m n) ∧ (Instr.lookup 58 (.map (some r)) (pairKey a b m n) true).run Tryz.prog w = .ok (.tuple #[.agg #[], .bool false]) w ∧
      (Instr.mapUpdate 58 (.map (some r)) (pairKey a b m n) (.agg #[])).run Tryz.prog w = .ok () (withObj w r (.map (es.push ⟨pairKey a b m n, .agg #[], clock⟩) (clock + 1)))) ∨
    ((∃ e ∈ es.toList, e.key = pairKey a b m n) ∧ (Instr.lookup 58 (.map (some r)) (pairKey a b m n) true).run Tryz.prog w = .ok (.tuple #[.agg #[], .bool true]) w) := by
  obtain ⟨i, hi, hz0, hz1, hz2⟩ := info_parts Tryz.infoUnit
  have hz : (zeroValue 131).run Tryz.prog w = .ok (.agg #[]) w := by simp [zeroValue, typeInfo, hi, hz0]
  have hk1 := fun em => run_checkPair w em a b m n
  rcases run_findKeyPair w a b m n h1 h2 es.toList hp with ⟨k1, k2⟩ | ⟨⟨j, k1⟩, k2⟩
  · refine Or.inl ⟨k2, ?_, ?_⟩
    · simp [Instr.lookup, run_underlying Tryz.mapPair, getObj, Sem.run, hb, hk1, k1, hz]
    · simp [Instr.mapUpdate, run_underlying Tryz.mapPair, getObj, setObj, Sem.run, hb, hk1, k1, withObj]
  · refine Or.inr ⟨k2, ?_⟩
    simp [Instr.lookup, run_underlying Tryz.mapPair, getObj, Sem.run, hb, hk1, k1]
end Go.Proofs.YtilgbnnjecpneaaGreatDoor

/- (*orderWalk).enter: two lists are laid upon the stack, but where they were met. -/
namespace Go.Proofs.YtilgbnnjecpneaaGreatDoor
open Go.RowKit Go.Deep

/-- Nothing that lay in w is another in w', but blocks rb and mr, and the row ob. -/
structure But3 (rb mr : Nat) (ob : Option Nat) (w w' : World) : Prop where
  os : w'.os = w.os
  tape : w'.tape = w.tape
  output : w'.output = w.output
  size : w.heap.size ≤ w'.heap.size
  block : ∀ i, i < w.heap.size → i ≠ rb → i ≠ mr → some i ≠ ob → w'.heap[i]? = w.heap[i]?
theorem But3.refl (rb mr : Nat) (ob : Option Nat) (w : World) : But3 rb mr ob w w := ⟨rfl, rfl, rfl, Nat.le_refl _, fun _ _ _ _ _ => rfl⟩
theorem But3.of_below {rb mr : Nat} {ob : Option Nat} {w w' : World} (h : Below w.heap.size w w') : But3 rb mr ob w w' := ⟨h.os, h.tape, h.output, h.size, fun i hi _ _ _ => h.block i hi⟩
theorem But3.trans {rb mr : Nat} {ob : Option Nat} {a b c : World} (h : But3 rb mr ob a b) (k : But3 rb mr ob b c) : But3 rb mr ob a c :=
  ⟨k.os.trans h.os, k.tape.trans h.tape, k.output.trans h.output, Nat.le_trans h.size k.size, fun i hi h1 h2 h3 => (k.block i (Nat.lt_of_lt_of_le hi h.size) h1 h2 h3).trans (h.block i hi h1 h2 h3)⟩
theorem But3.set {rb mr : Nat} {ob : Option Nat} (w : World) (o : Nat) (u : Value) : But3 rb mr ob w (w.setCell ⟨rb, o, none⟩ u) :=
  ⟨rfl, rfl, rfl, by rw [size_setCell1]; exact Nat.le_refl _, fun i _ h1 _ _ => Below.heap_setCell _ _ _ _ h1⟩
theorem But3.map {rb mr : Nat} {ob : Option Nat} (w : World) (o : Obj) : But3 rb mr ob w (withObj w mr o) :=
  ⟨rfl, rfl, rfl, by rw [withObj_size]; exact Nat.le_refl _, fun i _ _ h2 _ => withObj_block _ _ _ _ h2⟩
theorem But3.grown {rb mr : Nat} {ob : Option Nat} {w w' : World} (h : w.grownBy w' ob) : But3 rb mr ob w w' := ⟨h.os, h.tape, h.output, h.size, fun i hi _ _ h3 => h.block i hi h3⟩

/-- Where the walk stands: its own cells, the map of pairs that were met, the stack. -/
structure Walk (w : World) (rb mr base : Nat) (sv : Value) (met : Int) (es : Array MapEntry) (n : Nat) (fl : List Value) : Prop where
  rlt : rb < base
  mlt : mr < base
  ne : rb ≠ mr
  big : base ≤ w.heap.size
  cells : w.heap[rb]? = some (.cells #[sv, .int .i64 met, .map (some mr)] 61 (0, 0))
  map : w.heap[mr]? = some (.map es es.size)
  row : w.ownsRow base 99 3 sv n fl
theorem Walk.cell {w : World} {rb mr base : Nat} {sv : Value} {met : Int} {es : Array MapEntry} {n : Nat} {fl : List Value} (h : Walk w rb mr base sv met es n fl) :
    w.cell? ⟨rb, 0, none⟩ = some sv ∧ w.cell? ⟨rb, 1, none⟩ = some (.int .i64 met) ∧ w.cell? ⟨rb, 2, none⟩ = some (.map (some mr)) := by
  have := h.cells
  simp [World.cell?, this]
theorem Walk.frozen {w : World} {rb mr base : Nat} {sv : Value} {met : Int} {es : Array MapEntry} {n : Nat} {fl : List Value} (h : Walk w rb mr base sv met es n fl) (o : Nat) : w.frozen? ⟨rb, o, none⟩ = false := by
  have := h.cells
  simp [World.frozen?, this]
theorem Walk.own {w : World} {rb mr base : Nat} {sv : Value} {met : Int} {es : Array MapEntry} {n : Nat} {fl : List Value} (h : Walk w rb mr base sv met es n fl) {g : Nat} (e : sv.ownBlock = some g) : base ≤ g := (h.row.lt g e).1
theorem Walk.below {w w' : World} {rb mr base : Nat} {sv : Value} {met : Int} {es : Array MapEntry} {n : Nat} {fl : List Value} (h : Walk w rb mr base sv met es n fl) (hb : Below w.heap.size w w') : Walk w' rb mr base sv met es n fl := by
  have h1 := h.rlt
  have h2 := h.mlt
  have h3 := h.big
  exact ⟨h.rlt, h.mlt, h.ne, Nat.le_trans h.big hb.size, (hb.block rb (by omega)).trans h.cells, (hb.block mr (by omega)).trans h.map, ownsRow_but h.row (But.of_below (rb := rb) hb) h.rlt⟩

/-- A list is laid upon the stack, and the stack's slice is put back. -/
theorem Walk.pushed {w w2 : World} {rb mr base : Nat} {sv sv' : Value} {met : Int} {es : Array MapEntry} {n : Nat} {fl news : List Value} {o : Obj} (h : Walk w rb mr base sv met es n fl)
    (o1 : w2.ownsRow base 99 3 sv' (n + 1) (fl ++ news)) (o2 : (w.alloc o).grownBy w2 sv.ownBlock) :
    (w2.cell? ⟨rb, 0, none⟩ = some sv ∧ w2.frozen? ⟨rb, 0, none⟩ = false) ∧ Walk (w2.setCell ⟨rb, 0, none⟩ sv') rb mr base sv' met es (n + 1) (fl ++ news) ∧ But3 rb mr sv.ownBlock w (w2.setCell ⟨rb, 0, none⟩ sv') := by
  have h1 := h.rlt
  have h2 := h.mlt
  have h3 := h.big
  have hs := o2.size
  rw [World.size_alloc] at hs
  have hnr : ∀ i, i < base → some i ≠ sv.ownBlock := fun i hi e => by have := h.own e.symm; omega
  have hb : ∀ i, i < base → w2.heap[i]? = w.heap[i]? := fun i hi => (o2.block i (by rw [World.size_alloc]; omega) (hnr i hi)).trans (Below.heap_alloc _ _ _ (by omega))
  have hc := (hb rb h1).trans h.cells
  refine ⟨⟨by simp [World.cell?, hc], by simp [World.frozen?, hc]⟩, ⟨h1, h2, h.ne, by rw [size_setCell1]; omega, ?_, ?_, ?_⟩, ?_⟩
  · simp [World.setCell, Array.getElem?_modify, hc]
  · rw [Below.heap_setCell _ _ _ _ (fun e => h.ne e.symm)]
    exact (hb mr h2).trans h.map
  · exact ownsRow_but o1 (But.set rb w2 0 sv') h1
  · exact ((But3.of_below (below_alloc1 w o)).trans (But3.grown o2)).trans (But3.set _ _ _)

theorem cell_three_new (w : World) (a b c : Value) (t : TypeId) : ∀ j u, [a, b, c][j]? = some u → (w.alloc (.cells #[a, b, c] t)).cell? ((⟨w.heap.size, 0, none⟩ : Addr).add j) = some u := by
  intro j u hj
  match j, hj with
  | 0, hj => simp at hj; subst hj; simp [Addr.add]
  | 1, hj => simp at hj; subst hj; simp [Addr.add]
  | 2, hj => simp at hj; subst hj; simp [Addr.add]
  | j + 3, hj => simp at hj

theorem row_succ {w : World} {base : Nat} {e : TypeId} {size n : Nat} {v : Value} {xs : List Value} (h : w.ownsRow base e size v (n + 1) xs) : ∃ g cap, v = .slice (some ⟨g, 0, none⟩) (n + 1) cap := by
  rcases h.2 with ⟨_, h0⟩ | ⟨g, cap, cur, rfl, _⟩
  · omega
  · exact ⟨g, cap, rfl⟩

theorem Tryz.infoWalk : (Tryz.prog.info? 99).map (fun i => (i.zero, i.size, i.bytes)) = some (some (.agg #[.slice none 0 0, .slice none 0 0, .int .i64 0]), 3, 56) := by kernel_rfl

set_option maxRecDepth 100000 in
set_option maxHeartbeats 2000000 in
theorem enter_few (rb mr base : Nat) (sv : Value) (met : Int) (es : Array MapEntry) (n : Nat) (fl : List Value) (aa ab : Option Addr) (la lb ca cb : Nat) (w : World) (hw : Walk w rb mr base sv met es n fl)
    (hn : n ≤ 8388608) (hc : ¬ (60 < met ∧ 0 < la ∧ 0 < lb)) :
    Calls Tryz.prog 72 #[.pointer (some ⟨rb, 0, none⟩), .slice aa la ca, .slice ab lb cb] w fun e w' =>
      e = .returned (.tuple #[]) ∧ ∃ sv', Walk w' rb mr base sv' met es (n + 1) (fl ++ [.slice aa la ca, .slice ab lb cb, .int .i64 0]) ∧ But3 rb mr sv.ownBlock w w' ∧ (sv'.ownBlock = sv.ownBlock ∨ ∀ g, sv'.ownBlock = some g → w.heap.size ≤ g) := by
  obtain ⟨x0, x1, x2⟩ := hw.cell
  have hbig := hw.big
  have HW : Hid (Walk w rb mr base sv met es n fl) := hw
  clear hw
  obtain ⟨i0, hi, hz0, hz1, hz2⟩ := info_parts Tryz.infoWalk
  have HO : Hid ((w.alloc (.cells #[.slice aa la ca, .slice ab lb cb, .int .i64 0] 99)).ownsRow base 99 3 sv n fl) := HW.out.row.alloc _
  by_cases c1 : 60 < met
  · by_cases c2 : 0 < la
    · have c3 : ¬ 0 < lb := fun h => hc ⟨c1, c2, h⟩
      clear hc
      go_enter Tryz.func72, Tryz.ntmps72
      go_wp2_with (at_builtin; refine wpList_append_own_at _ rfl _ _ 59 rfl base 99 i0 (.agg #[.slice none 0 0, .slice none 0 0, .int .i64 0]) 3 56 Tryz.underlying59 hi hz0 hz1 hz2 rfl (by decide) _ _ _ rfl HO.out ⟨w.heap.size, 0, none⟩ 1 1 [.slice aa la ca, .slice ab lb cb, .int .i64 0] rfl rfl (cell_three_new _ _ _ _ _) ?c2 ?c3 ?c4 ?c5 ?_)
      case c2 => first | (intro y hy; simp at hy; rcases hy with rfl | rfl | rfl <;> rfl) | exact ⟨rfl, rfl, rfl⟩
      case c3 => unfold maxLen; omega
      case c4 => omega
      case c5 => first | (simp; omega) | omega
      intro sv' w2 o1 o2 _ o3
      obtain ⟨sg, sc, rfl⟩ := row_succ o1
      obtain ⟨⟨y0, y1⟩, HH, HB⟩ := HW.out.pushed o1 o2
      have HF : Hid _ := And.intro HH HB
      have H3 : Hid _ := o3
      clear o1 o2 o3 HH HB
      go_wp2_with fail
      go_end0
      refine ⟨rfl, _, HF.out.1, HF.out.2, H3.out.imp id (fun e g hg => ?_)⟩
      rw [e] at hg
      cases hg
      simp
    · clear hc
      go_enter Tryz.func72, Tryz.ntmps72
      go_wp2_with (at_builtin; refine wpList_append_own_at _ rfl _ _ 59 rfl base 99 i0 (.agg #[.slice none 0 0, .slice none 0 0, .int .i64 0]) 3 56 Tryz.underlying59 hi hz0 hz1 hz2 rfl (by decide) _ _ _ rfl HO.out ⟨w.heap.size, 0, none⟩ 1 1 [.slice aa la ca, .slice ab lb cb, .int .i64 0] rfl rfl (cell_three_new _ _ _ _ _) ?c2 ?c3 ?c4 ?c5 ?_)
      case c2 => first | (intro y hy; simp at hy; rcases hy with rfl | rfl | rfl <;> rfl) | exact ⟨rfl, rfl, rfl⟩
      case c3 => unfold maxLen; omega
      case c4 => omega
      case c5 => first | (simp; omega) | omega
      intro sv' w2 o1 o2 _ o3
      obtain ⟨sg, sc, rfl⟩ := row_succ o1
      obtain ⟨⟨y0, y1⟩, HH, HB⟩ := HW.out.pushed o1 o2
      have HF : Hid _ := And.intro HH HB
      have H3 : Hid _ := o3
      clear o1 o2 o3 HH HB
      go_wp2_with fail
      go_end0
      refine ⟨rfl, _, HF.out.1, HF.out.2, H3.out.imp id (fun e g hg => ?_)⟩
      rw [e] at hg
      cases hg
      simp
  · clear hc
    go_enter Tryz.func72, Tryz.ntmps72
    go_wp2_with (at_builtin; refine wpList_append_own_at _ rfl _ _ 59 rfl base 99 i0 (.agg #[.slice none 0 0, .slice none 0 0, .int .i64 0]) 3 56 Tryz.underlying59 hi hz0 hz1 hz2 rfl (by decide) _ _ _ rfl HO.out ⟨w.heap.size, 0, none⟩ 1 1 [.slice aa la ca, .slice ab lb cb, .int .i64 0] rfl rfl (cell_three_new _ _ _ _ _) ?c2 ?c3 ?c4 ?c5 ?_)
    case c2 => first | (intro y hy; simp at hy; rcases hy with rfl | rfl | rfl <;> rfl) | exact ⟨rfl, rfl, rfl⟩
    case c3 => unfold maxLen; omega
    case c4 => omega
    case c5 => first | (simp; omega) | omega
    intro sv' w2 o1 o2 _ o3
    obtain ⟨sg, sc, rfl⟩ := row_succ o1
    obtain ⟨⟨y0, y1⟩, HH, HB⟩ := HW.out.pushed o1 o2
    have HF : Hid _ := And.intro HH HB
    have H3 : Hid _ := o3
    clear o1 o2 o3 HH HB
    go_wp2_with fail
    go_end0
    refine ⟨rfl, _, HF.out.1, HF.out.2, H3.out.imp id (fun e g hg => ?_)⟩
    rw [e] at hg
    cases hg
    simp
end Go.Proofs.YtilgbnnjecpneaaGreatDoor
