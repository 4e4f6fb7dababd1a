/- Texts of the proof, put together by program: WCmp, WToPB, WKey, WImplC. -/
import Derived.Test.YtilgbnnjecpneaaGreatDoorR4
import Derived.Test.YtilgbnnjecpneaaGreatDoorR5
import Derived.Test.YtilgbnnjecpneaaGreatDoorR6
import Derived.LaidEql
import Derived.Laws.StructEq
/- cmp.Compare, cmp.Or, slices.Compare. -/
namespace Go.Proofs.YtilgbnnjecpneaaGreatDoor
open Go.RowKit Go.Deep

set_option maxHeartbeats 400000 in
theorem isNaNInt_any (a : Int) (w : World) : Calls Tryz.prog 92 #[.int .i64 a] w fun e w' => e = .returned (.bool false) ∧ w' = w := by
  have hq : (a != a) = false := by simp
  go_enter Tryz.func92, Tryz.ntmps92
  go_wp2_with fail
  go_ret
  exact ⟨by simp, rfl⟩
set_option maxHeartbeats 400000 in
theorem isNaNStr_any (a : ByteArray) (w : World) : Calls Tryz.prog 93 #[.string a] w fun e w' => e = .returned (.bool false) ∧ w' = w := by
  have hq : (a.toList == a.toList) = true := by simp
  go_enter Tryz.func93, Tryz.ntmps93
  go_wp2_with fail
  go_ret
  exact ⟨by simp, rfl⟩

set_option maxHeartbeats 1000000 in
theorem compareInt_any (a b : Int) (w : World) : Calls Tryz.prog 74 #[.int .i64 a, .int .i64 b] w fun e w' => e = .returned (.int .i64 (cmpI a b)) ∧ w' = w := by
  go_enter Tryz.func74, Tryz.ntmps74
  go_wp2_with fail
  refine (isNaNInt_any _ _).mono ?_
  rintro e w1 ⟨rfl, rfl⟩
  go_wp2_with fail
  refine (isNaNInt_any _ _).mono ?_
  rintro e w1 ⟨rfl, rfl⟩
  by_cases h : a < b
  · have hf : Hid _ := cmpI_lt h
    go_wp2_with fail
    go_ret
    rw [hf.out]
    exact ⟨rfl, rfl⟩
  · by_cases h' : b < a
    · have hf : Hid _ := cmpI_gt h'
      go_wp2_with fail
      go_ret
      rw [hf.out]
      exact ⟨rfl, rfl⟩
    · have hf : Hid _ := cmpI_eq h h'
      go_wp2_with fail
      go_ret
      rw [hf.out]
      exact ⟨rfl, rfl⟩
set_option maxHeartbeats 1000000 in
theorem compareStr_any (a b : ByteArray) (w : World) : Calls Tryz.prog 75 #[.string a, .string b] w fun e w' => e = .returned (.int .i64 (cmpS a b)) ∧ w' = w := by
  go_enter Tryz.func75, Tryz.ntmps75
  go_wp2_with fail
  refine (isNaNStr_any _ _).mono ?_
  rintro e w1 ⟨rfl, rfl⟩
  go_wp2_with fail
  refine (isNaNStr_any _ _).mono ?_
  rintro e w1 ⟨rfl, rfl⟩
  cases h1 : Op.bytesLess a.toList b.toList with
  | true =>
    have hf : Hid _ := cmpS_lt h1
    go_wp2_with fail
    go_ret
    rw [hf.out]
    exact ⟨rfl, rfl⟩
  | false =>
    cases h2 : (a.toList == b.toList) with
    | true =>
      have hf : Hid _ := cmpS_eq h2
      go_wp2_with fail
      go_ret
      rw [hf.out]
      exact ⟨rfl, rfl⟩
    | false =>
      have hf : Hid _ := cmpS_gt h1 h2
      go_wp2_with fail
      go_ret
      rw [hf.out]
      exact ⟨rfl, rfl⟩

set_option maxHeartbeats 1000000 in
theorem compareStrs_any (S S' : Nat → Prop) (ss ss' : List ByteArray) (v v' : Value) (w : World) (hv : StrsAt S w v ss) (hv' : StrsAt S' w v' ss') :
    Calls Tryz.prog 76 #[v, v'] w fun e w' => e = .returned (.int .i64 (ordL cmpS ss ss')) ∧ w' = w := by
  obtain ⟨a, cap, rfl, hlen⟩ := hv.open'
  obtain ⟨a', cap', rfl, hlen'⟩ := hv'.open'
  go_enter Tryz.func76, Tryz.ntmps76
  go_wp2_with fail
  go_loop [11] (fun i => ∃ (k : Nat), k ≤ ss.length ∧ k ≤ ss'.length ∧ i = .int .i64 k ∧ Hid (ordL cmpS ss ss' = ordL cmpS (ss.drop k) (ss'.drop k))) (fun i => ss.length - (intOf i).toNat)
  case atStart => exact ⟨0, Nat.zero_le _, Nat.zero_le _, rfl, rfl⟩
  case round =>
    obtain ⟨k, hk, hk', rfl, hfin⟩ := hrel
    by_cases hkl : k < ss.length
    case neg =>
      have hf2 : Hid (ordL cmpS ss ss' = cmpI ss.length ss'.length) := by
        show _ = _
        rw [hfin.out, ordL_end cmpS hk hk' (by omega)]
      by_cases hl : ss.length < ss'.length
      · have hf3 : Hid (ordL cmpS ss ss' = -1) := by show _ = _; rw [hf2.out, cmpI_lt (by omega)]
        go_wp2_with fail
        go_ret
        rw [hf3.out]
        exact ⟨rfl, rfl⟩
      · have hf3 : Hid (ordL cmpS ss ss' = 0) := by show _ = _; rw [hf2.out, cmpI_eq (by omega) (by omega)]
        go_wp2_with fail
        go_ret
        rw [hf3.out]
        exact ⟨rfl, rfl⟩
    case pos =>
    obtain ⟨b, o, s, rfl, _, hs, _, hck⟩ := hv.cell hkl
    by_cases hkl' : k < ss'.length
    case neg =>
      have hf3 : Hid (ordL cmpS ss ss' = 1) := by
        show _ = _
        rw [hfin.out, ordL_end cmpS hk hk' (by omega), cmpI_gt (by omega)]
      have hge : (ss'.length : Int) ≤ (k : Int) := by omega
      go_wp2_with fail
      go_ret
      rw [hf3.out]
      exact ⟨rfl, rfl⟩
    case pos =>
    obtain ⟨b', o', s', rfl, _, hs', _, hck'⟩ := hv'.cell hkl'
    have hst : Hid (_ = _) := ordL_drop cmpS hs hs'
    clear hv hv' hs hs'
    have hge : ¬ (ss'.length : Int) ≤ (k : Int) := by omega
    go_wp2_with fail
    refine (compareStr_any _ _ _).mono ?_
    rintro e w1 ⟨rfl, rfl⟩
    by_cases heq : cmpS s s' = 0
    · have hst2 : Hid (ordL cmpS ss ss' = ordL cmpS (ss.drop (k + 1)) (ss'.drop (k + 1))) := by
        show ordL cmpS ss ss' = _
        rw [hfin.out, hst.out, heq]
        rfl
      clear hst hfin
      go_wp2_with fail
      go_round
      case rel => exact ⟨k + 1, by omega, by omega, by go_num, hst2⟩
      case measure => simp [intOf]; omega
    · have hfin2 : Hid (ordL cmpS ss ss' = cmpS s s') := by
        show ordL cmpS ss ss' = _
        rw [hfin.out, hst.out, orI_ne heq]
      clear hst hfin
      go_wp2_with fail
      go_ret
      rw [hfin2.out]
      exact ⟨rfl, rfl⟩

end Go.Proofs.YtilgbnnjecpneaaGreatDoor

/- Blocks of plain cells. -/
namespace Go.Proofs.YtilgbnnjecpneaaGreatDoor
open Go.RowKit Go.Deep
/-- A block of plain cells. -/
def Plain (w : World) (b : Nat) : Prop := ∃ c t, w.heap[b]? = some (.cells c t (0, 0))

theorem Plain.of_block {w w' : World} {b : Nat} (h : Plain w b) (e : w'.heap[b]? = w.heap[b]?) : Plain w' b := by
  obtain ⟨c, t, hc⟩ := h
  exact ⟨c, t, e.trans hc⟩

theorem plain_row {w : World} {b n : Nat} {t : TypeId} {f : Nat → Value} (h : w.rowIs b t n f) : Plain w b := by
  obtain ⟨c, hc, _⟩ := h
  exact ⟨c, t, hc⟩

def FreshP (w w' : World) (b : Nat) : Prop := Fresh w w' b ∧ Plain w' b

def AfterP (N : Nat) (w : World) (b : Nat) : Prop := After N w b ∧ Plain w b

/-- The first k things of a row that is being filled. -/
def FilledP {d : Nat} (N T n : Nat) (xs : List (Tr d)) (w : World) (k : Nat) (f : Nat → Value) : Prop :=
  w.rowIs N T n f ∧ ∀ j x, j < k → xs[j]? = some x → ValAt (AfterP N w) w d x (.agg #[f (j * 5), f (j * 5 + 1), f (j * 5 + 2), f (j * 5 + 3), f (j * 5 + 4)])

theorem FilledP.step {d N T n : Nat} {xs : List (Tr d)} {wr w1 : World} {k : Nat} {f : Nat → Value} {x : Tr d} {v0 v1 v2 v3 v4 : Value} (h : FilledP N T n xs wr k f) (hb : Below wr.heap.size wr w1)
    (hx : xs[k]? = some x) (hu : ValAt (FreshP wr w1) w1 d x (.agg #[v0, v1, v2, v3, v4])) :
    FilledP N T n xs (set5 w1 N (k * 5) v0 v1 v2 v3 v4) (k + 1) (put5 f (k * 5) v0 v1 v2 v3 v4) := by
  obtain ⟨hrow, hv⟩ := h
  have hN := hrow.lt
  have hs2 : Same (AfterP N w1) w1 (set5 w1 N (k * 5) v0 v1 v2 v3 v4) := fun b hb => set5_block _ _ _ _ _ _ _ _ _ (by have := hb.1.1; omega)
  have hA : ∀ b, AfterP N w1 b → AfterP N (set5 w1 N (k * 5) v0 v1 v2 v3 v4) b := fun b hb => ⟨⟨hb.1.1, by rw [set5_size]; exact hb.1.2⟩, hb.2.of_block (hs2 b hb)⟩
  refine ⟨rowIs_set5 (hrow.of_block (hb.block N hN)) _ _ _ _ _ _, fun j y hj hy => ?_⟩
  by_cases e : j = k
  · subst e
    rw [hx] at hy
    cases hy
    obtain ⟨p0, p1, p2, p3, p4⟩ := put5_at f (j * 5) v0 v1 v2 v3 v4
    rw [p0, p1, p2, p3, p4]
    refine ValAt.moved hs2 hA d x _ (hu.mono (fun b hb => ⟨⟨?_, hb.1.2⟩, hb.2⟩))
    have := hb.1.1
    omega
  · rw [put5_off _ _ _ _ _ _ _ _ (by omega), put5_off _ _ _ _ _ _ _ _ (by omega), put5_off _ _ _ _ _ _ _ _ (by omega), put5_off _ _ _ _ _ _ _ _ (by omega), put5_off _ _ _ _ _ _ _ _ (by omega)]
    have h1 := hv j y (by omega) hy
    have h2 : ValAt (AfterP N w1) w1 d y (.agg #[f (j * 5), f (j * 5 + 1), f (j * 5 + 2), f (j * 5 + 3), f (j * 5 + 4)]) :=
      ValAt.moved (fun b hS => hb.block b hS.1.2) (fun b hS => ⟨⟨hS.1.1, Nat.lt_of_lt_of_le hS.1.2 hb.size⟩, hS.2.of_block (hb.block b hS.1.2)⟩) d y _ h1
    exact ValAt.moved hs2 hA d y _ h2
end Go.Proofs.YtilgbnnjecpneaaGreatDoor

/- The map of pairs of lists: two keys are one, a key is sought, a key is laid. -/
namespace Go.Proofs.YtilgbnnjecpneaaGreatDoor
open Go.RowKit Go.Deep

/-- Two lists, by where they lie. -/
def pairKey (a b : Addr) (m n : Nat) : Value := .agg #[.pointer (some a), .pointer (some b), .int .i64 m, .int .i64 n]

theorem Tryz.fieldsPair : (Tryz.prog.fieldsOf 130).toList.map (fun f => (f.name, f.type, f.offset)) = [("a", 128, 0), ("b", 128, 1), ("manyA", 3, 2), ("manyB", 3, 3)] := by kernel_rfl
theorem Tryz.structPair : Tryz.prog.underlying 130 = some (.struct (Tryz.prog.fieldsOf 130)) := by kernel_rfl
theorem Tryz.pairHeld : Tryz.prog.stoodInHeld 130 = false := by kernel_rfl
theorem Tryz.ptrVal : Tryz.prog.underlying 128 = some (.pointer 29) := by kernel_rfl

theorem run_sameAddr_any (w : World) (a b : Addr) (ha : Plain w a.block) (hb : Plain w b.block) : (sameAddr a b).run Tryz.prog w = .ok (decide (a = b)) w := by
  obtain ⟨ca, ta, ha⟩ := ha
  obtain ⟨cb, tb, hb⟩ := hb
  by_cases e : a = b
  · subst e
    rw [run_sameAddr_same, decide_eq_true rfl]
  · rw [run_sameAddr_other w e ha hb, decide_eq_false e]

theorem run_equalPtr (w : World) (d : Nat) (a b : Addr) (ha : Plain w a.block) (hb : Plain w b.block) :
    (Op.equalIn (d + 1) 128 (.pointer (some a)) (.pointer (some b))).run Tryz.prog w = .ok (decide (a = b)) w := by
  obtain ⟨i, hi, hzz⟩ := Option.map_eq_some_iff.1 Tryz.infoVal
  simp only [Prod.mk.injEq] at hzz
  obtain ⟨_, hs, _⟩ := hzz
  simp [Op.equalIn, run_underlying Tryz.ptrVal, typeInfo, sizeOf, hi, hs, run_sameAddr_any w a b ha hb]

theorem run_pairEq (w : World) (a b a' b' : Addr) (m n m' n' : Nat) (h1 : Plain w a.block) (h2 : Plain w b.block) (h3 : Plain w a'.block) (h4 : Plain w b'.block) :
    (Op.equal 130 (pairKey a b m n) (pairKey a' b' m' n')).run Tryz.prog w = .ok (decide (a = a' ∧ b = b' ∧ m = m' ∧ n = n')) w := by
  have hp1 : (Op.equalIn 9999 128 (.pointer (some a)) (.pointer (some a'))).run Tryz.prog w = .ok (decide (a = a')) w := run_equalPtr w 9998 a a' h1 h3
  have hp2 : (Op.equalIn 9999 128 (.pointer (some b)) (.pointer (some b'))).run Tryz.prog w = .ok (decide (b = b')) w := run_equalPtr w 9998 b b' h2 h4
  have hi1 : (Op.equalIn 9999 3 (.int .i64 m) (.int .i64 m')).run Tryz.prog w = .ok ((m : Int) == (m' : Int)) w := run_equalIn_int (P := Tryz.prog) w 9998 3 .i64 .i64 m m' Tryz.underlying3
  have hi2 : (Op.equalIn 9999 3 (.int .i64 n) (.int .i64 n')).run Tryz.prog w = .ok ((n : Int) == (n' : Int)) w := run_equalIn_int (P := Tryz.prog) w 9998 3 .i64 .i64 n n' Tryz.underlying3
  have hf := Tryz.fieldsPair
  rw [Op.equal, Op.maxDepth, pairKey, pairKey, run_equalIn_struct w 9999 130 _ _ Tryz.structPair Tryz.pairHeld]
  generalize (Tryz.prog.fieldsOf 130).toList = fs at hf ⊢
  obtain ⟨f0, r0, rfl, e0, hf⟩ := List.map_eq_cons_iff.1 hf
  obtain ⟨f1, r1, rfl, e1, hf⟩ := List.map_eq_cons_iff.1 hf
  obtain ⟨f2, r2, rfl, e2, hf⟩ := List.map_eq_cons_iff.1 hf
  obtain ⟨f3, r3, rfl, e3, hf⟩ := List.map_eq_cons_iff.1 hf
  obtain rfl := List.map_eq_nil_iff.1 hf
  simp only [Prod.mk.injEq] at e0 e1 e2 e3
  obtain ⟨n0, t0, o0⟩ := e0
  obtain ⟨n1, t1, o1⟩ := e1
  obtain ⟨n2, t2, o2⟩ := e2
  obtain ⟨n3, t3, o3⟩ := e3
  simp only [Op.eqFields, n0, n1, n2, n3, t0, t1, t2, t3, o0, o1, o2, o3]
  clear hf n0 n1 n2 n3 t0 t1 t2 t3 o0 o1 o2 o3
  by_cases c1 : a = a'
  · rw [decide_eq_true c1] at hp1
    by_cases c2 : b = b'
    · rw [decide_eq_true c2] at hp2
      by_cases c3 : m = m'
      · have q3 : ((m : Int) == (m' : Int)) = true := by simp; omega
        rw [q3] at hi1
        by_cases c4 : n = n'
        · have q4 : ((n : Int) == (n' : Int)) = true := by simp; omega
          rw [q4] at hi2
          rw [decide_eq_true (⟨c1, c2, c3, c4⟩ : a = a' ∧ b = b' ∧ m = m' ∧ n = n')]
          simp [part, isAgg, run_underlying Tryz.ptrVal, run_underlying Tryz.underlying3, hp1, hp2, hi1, hi2]
        · have q4 : ((n : Int) == (n' : Int)) = false := by simp; omega
          rw [q4] at hi2
          rw [decide_eq_false (fun h : a = a' ∧ b = b' ∧ m = m' ∧ n = n' => c4 h.2.2.2)]
          simp [part, isAgg, run_underlying Tryz.ptrVal, run_underlying Tryz.underlying3, hp1, hp2, hi1, hi2]
      · have q3 : ((m : Int) == (m' : Int)) = false := by simp; omega
        rw [q3] at hi1
        rw [decide_eq_false (fun h : a = a' ∧ b = b' ∧ m = m' ∧ n = n' => c3 h.2.2.1)]
        simp [part, isAgg, run_underlying Tryz.ptrVal, run_underlying Tryz.underlying3, hp1, hp2, hi1]
    · rw [decide_eq_false c2] at hp2
      rw [decide_eq_false (fun h : a = a' ∧ b = b' ∧ m = m' ∧ n = n' => c2 h.2.1)]
      simp [part, isAgg, run_underlying Tryz.ptrVal, run_underlying Tryz.underlying3, hp1, hp2]
  · rw [decide_eq_false c1] at hp1
    rw [decide_eq_false (fun h : a = a' ∧ b = b' ∧ m = m' ∧ n = n' => c1 h.1)]
    simp [part, isAgg, run_underlying Tryz.ptrVal, run_underlying Tryz.underlying3, hp1]

/-- A map of pairs of lists that lie in plain blocks. -/
def PairMap (w : World) (es : List MapEntry) : Prop := ∀ e ∈ es, ∃ a b m n, e.key = pairKey a b m n ∧ e.val = .agg #[] ∧ Plain w a.block ∧ Plain w b.block

theorem run_findPair (w : World) (a b : Addr) (m n : Nat) (h1 : Plain w a.block) (h2 : Plain w b.block) : ∀ (es : List MapEntry) (i : Nat), PairMap w es →
    ((Instr.findAsking 130 (pairKey a b m n) es i).run Tryz.prog w = .ok none w ∧ ∀ e ∈ es, e.key ≠ pairKey a b m n) ∨
    ((∃ j, (Instr.findAsking 130 (pairKey a b m n) es i).run Tryz.prog w = .ok (some (j, .agg #[])) w) ∧ ∃ e ∈ es, e.key = pairKey a b m n)
  | [], i, _ => Or.inl ⟨by simp [Instr.findAsking], by simp⟩
  | e :: r, i, h => by
    obtain ⟨a', b', m', n', hk, hv, h3, h4⟩ := h e (by simp)
    have heq := run_pairEq w a b a' b' m n m' n' h1 h2 h3 h4
    by_cases c : a = a' ∧ b = b' ∧ m = m' ∧ n = n'
    · rw [decide_eq_true c] at heq
      refine Or.inr ⟨⟨i, by simp [Instr.findAsking, hk, hv, heq]⟩, e, by simp, ?_⟩
      obtain ⟨rfl, rfl, rfl, rfl⟩ := c
      exact hk
    · rw [decide_eq_false c] at heq
      rcases run_findPair w a b m n h1 h2 r (i + 1) (fun y hy => h y (by simp [hy])) with ⟨k1, k2⟩ | ⟨⟨j, k1⟩, y, hy, k2⟩
      · refine Or.inl ⟨by simp [Instr.findAsking, hk, heq, k1], fun y hy => ?_⟩
        rcases List.mem_cons.1 hy with rfl | hy
        · rw [hk]
          intro e2
          simp only [pairKey, Value.agg.injEq] at e2
          simp at e2
          exact c ⟨e2.1.symm, e2.2.1.symm, by omega, by omega⟩
        · exact k2 y hy
      · exact Or.inr ⟨⟨j, by simp [Instr.findAsking, hk, heq, k1]⟩, y, by simp [hy], k2⟩

theorem run_checkPtr (w : World) (em : Bool) (n : Nat) (a : Option Addr) : (Instr.checkKey em (n + 1) 128 (.pointer a)).run Tryz.prog w = .ok () w := by
  simp [Instr.checkKey, run_underlying Tryz.ptrVal]
theorem run_checkInt (w : World) (em : Bool) (n : Nat) (k : Int) : (Instr.checkKey em (n + 1) 3 (.int .i64 k)).run Tryz.prog w = .ok () w := by
  simp [Instr.checkKey, run_underlying Tryz.underlying3]
theorem run_checkPairAt (w : World) (em : Bool) (d : Nat) (a b : Addr) (m n : Nat) : (Instr.checkKey em (d + 2) 130 (pairKey a b m n)).run Tryz.prog w = .ok () w := by
  have hf := Tryz.fieldsPair
  have hp := fun a => run_checkPtr w em d a
  have hi := fun k => run_checkInt w em d k
  rw [Instr.checkKey, pairKey]
  simp only [Sem.run_bind, run_underlying Tryz.structPair, Result.andThen_ok]
  rw [← Array.forIn_toList]
  generalize (Tryz.prog.fieldsOf 130).toList = fs at hf ⊢
  obtain ⟨f0, r0, rfl, e0, hf⟩ := List.map_eq_cons_iff.1 hf
  obtain ⟨f1, r1, rfl, e1, hf⟩ := List.map_eq_cons_iff.1 hf
  obtain ⟨f2, r2, rfl, e2, hf⟩ := List.map_eq_cons_iff.1 hf
  obtain ⟨f3, r3, rfl, e3, hf⟩ := List.map_eq_cons_iff.1 hf
  obtain rfl := List.map_eq_nil_iff.1 hf
  simp only [Prod.mk.injEq] at e0 e1 e2 e3
  obtain ⟨n0, t0, o0⟩ := e0
  obtain ⟨n1, t1, o1⟩ := e1
  obtain ⟨n2, t2, o2⟩ := e2
  obtain ⟨n3, t3, o3⟩ := e3
  clear hf
  simp [List.forIn_cons, n0, n1, n2, n3, t0, t1, t2, t3, o0, o1, o2, o3, part, isAgg, run_underlying Tryz.ptrVal, run_underlying Tryz.underlying3, hp, hi]

theorem run_checkPair (w : World) (em : Bool) (a b : Addr) (m n : Nat) : (Instr.checkKey em 10000 130 (pairKey a b m n)).run Tryz.prog w = .ok () w := run_checkPairAt w em 9998 a b m n

theorem Tryz.mapPair : Tryz.prog.underlying 58 = some (.map 130 131) := by kernel_rfl
theorem Tryz.infoUnit : (Tryz.prog.info? 131).map (fun i => (i.zero, i.size, i.bytes)) = some (some (.agg #[]), 0, 0) := by kernel_rfl

theorem run_findKeyPair (w : World) (a b : Addr) (m n : Nat) (h1 : Plain w a.block) (h2 : Plain w b.block) (es : List MapEntry) (hp : PairMap w es) :
    ((Instr.findKey 130 (pairKey a b m n) es).run Tryz.prog w = .ok none w ∧ ∀ e ∈ es, e.key ≠ pairKey a b m n) ∨
    ((∃ j, (Instr.findKey 130 (pairKey a b m n) es).run Tryz.prog w = .ok (some (j, .agg #[])) w) ∧ ∃ e ∈ es, e.key = pairKey a b m n) := by
  cases es with
  | nil => exact Or.inl ⟨by simp [Instr.findKey, run_underlying Tryz.structPair, Instr.findNow], by simp⟩
  | cons e r =>
    obtain ⟨a', b', m', n', hk, hv, h3, h4⟩ := hp e (by simp)
    have hn : Instr.findNow (.struct (Tryz.prog.fieldsOf 130)) (pairKey a b m n) (e :: r) 0 = none := by
      simp [Instr.findNow, Instr.sameNow]
    have hrun : (Instr.findKey 130 (pairKey a b m n) (e :: r)).run Tryz.prog w = (Instr.findAsking 130 (pairKey a b m n) (e :: r) 0).run Tryz.prog w := by
      simp only [Instr.findKey, Sem.run_bind, run_underlying Tryz.structPair, Result.andThen_ok, hn]
    rw [hrun]
    exact run_findPair w a b m n h1 h2 (e :: r) 0 hp

theorem run_pairs (w : World) (r clock : Nat) (es : Array MapEntry) (a b : Addr) (m n : Nat) (h1 : Plain w a.block) (h2 : Plain w b.block) (hb : w.heap[r]? = some (.map es clock)) (hp : PairMap w es.toList) :
    ((∀ e ∈ es.toList, e.key ≠ pairKey a b m n) ∧ (Instr.lookup 58 (.map (some r)) (pairKey a b m n) true).run Tryz.prog w = .ok (.tuple #[.agg #[], .bool false]) w ∧
      (Instr.mapUpdate 58 (.map (some r)) (pairKey a b m n) (.agg #[])).run Tryz.prog w = .ok () (withObj w r (.map (es.push ⟨pairKey a b m n, .agg #[], clock⟩) (clock + 1)))) ∨
    ((∃ e ∈ es.toList, e.key = pairKey a b m n) ∧ (Instr.lookup 58 (.map (some r)) (pairKey a b m n) true).run Tryz.prog w = .ok (.tuple #[.agg #[], .bool true]) w) := by
  obtain ⟨i, hi, hz0, hz1, hz2⟩ := info_parts Tryz.infoUnit
  have hz : (zeroValue 131).run Tryz.prog w = .ok (.agg #[]) w := by simp [zeroValue, typeInfo, hi, hz0]
  have hk1 := fun em => run_checkPair w em a b m n
  rcases run_findKeyPair w a b m n h1 h2 es.toList hp with ⟨k1, k2⟩ | ⟨⟨j, k1⟩, k2⟩
  · refine Or.inl ⟨k2, ?_, ?_⟩
    · simp [Instr.lookup, run_underlying Tryz.mapPair, getObj, Sem.run, hb, hk1, k1, hz]
    · simp [Instr.mapUpdate, run_underlying Tryz.mapPair, getObj, setObj, Sem.run, hb, hk1, k1, withObj]
  · refine Or.inr ⟨k2, ?_⟩
    simp [Instr.lookup, run_underlying Tryz.mapPair, getObj, Sem.run, hb, hk1, k1]
end Go.Proofs.YtilgbnnjecpneaaGreatDoor

/- (*room).trees: a row of the program's own trees. -/
namespace Go.Proofs.YtilgbnnjecpneaaGreatDoor
open Go.RowKit Go.Deep

/-- A row of parts, as long as there is room: whether all are right, and the room that is left. -/
def treesP {α : Type} (f : α → Int → Bool × Int) : List α → Int → Bool × Int
  | [], l => (true, l)
  | x :: r, l => if (f x l).1 = true then treesP f r (f x l).2 else (false, (f x l).2)
/-- One part, with all in it. -/
def treeP : (d : Nat) → Tr d → Int → Int → Bool × Int
  | 0, _, l, _ => (false, l)
  | d + 1, t, l, deep =>
    if takeB l deep = false then (false, l)
    else if Nd.kind t = 0 ∨ Nd.kind t = 1 ∨ Nd.kind t = 2 then (bareB (Nd.num t) (Nd.str t) (Nd.keys t).length (Nd.list t).length, l - 1)
    else if Nd.kind t = 3 then (decide (-1000000 ≤ Nd.num t ∧ Nd.num t ≤ 1000000) && bareB 0 (Nd.str t) (Nd.keys t).length (Nd.list t).length, l - 1)
    else if Nd.kind t = 4 then (strOk (Nd.str t) && bareB (Nd.num t) ByteArray.empty (Nd.keys t).length (Nd.list t).length, l - 1)
    else if Nd.kind t = 5 then ((treesP (fun x l => treeP d x l (deep + 1)) (Nd.list t) (l - 1)).1 && bareB (Nd.num t) (Nd.str t) (Nd.keys t).length 0, (treesP (fun x l => treeP d x l (deep + 1)) (Nd.list t) (l - 1)).2)
    else if Nd.kind t = 6 then
      ((treesP (fun x l => treeP d x l (deep + 1)) (Nd.list t) (l - 1)).1 && ((Nd.keys t).length == (Nd.list t).length) && keysB (Nd.keys t) && bareB (Nd.num t) (Nd.str t) 0 0,
        (treesP (fun x l => treeP d x l (deep + 1)) (Nd.list t) (l - 1)).2)
    else (false, l - 1)

theorem treesP_step {α : Type} (f : α → Int → Bool × Int) {xs : List α} {k : Nat} {x : α} (h : xs[k]? = some x) (l : Int) :
    treesP f (xs.drop k) l = if (f x l).1 = true then treesP f (xs.drop (k + 1)) (f x l).2 else (false, (f x l).2) := by
  obtain ⟨hk, e⟩ := List.getElem?_eq_some_iff.1 h
  rw [List.drop_eq_getElem_cons hk, e, treesP]
theorem takeB_pos {l deep : Int} (h : takeB l deep = true) (h0 : 0 ≤ l) : 1 ≤ l := by
  simp [takeB] at h
  omega
theorem treesP_bd {α : Type} {f : α → Int → Bool × Int} (hf : ∀ x l, 0 ≤ l → 0 ≤ (f x l).2 ∧ (f x l).2 ≤ l) : ∀ (xs : List α) (l : Int), 0 ≤ l → 0 ≤ (treesP f xs l).2 ∧ (treesP f xs l).2 ≤ l
  | [], l, h => ⟨h, Int.le_refl _⟩
  | x :: r, l, h => by
    have h1 := hf x l h
    rw [treesP]
    split
    · have h2 := treesP_bd hf r (f x l).2 h1.1
      omega
    · exact h1
theorem treeP_bd : ∀ (d : Nat) (t : Tr d) (l deep : Int), 0 ≤ l → 0 ≤ (treeP d t l deep).2 ∧ (treeP d t l deep).2 ≤ l
  | 0, _, l, _, h => ⟨h, Int.le_refl _⟩
  | d + 1, t, l, deep, h => by
    rw [treeP]
    cases hb : takeB l deep with
    | false => exact ⟨h, Int.le_refl _⟩
    | true =>
      have h1 := takeB_pos hb h
      have h2 := treesP_bd (f := fun x l => treeP d x l (deep + 1)) (fun x l hl => treeP_bd d x l (deep + 1) hl) (Nd.list t) (l - 1) (by omega)
      rw [if_neg (by simp)]
      split
      · exact ⟨by show 0 ≤ l - 1; omega, by show l - 1 ≤ l; omega⟩
      split
      · exact ⟨by show 0 ≤ l - 1; omega, by show l - 1 ≤ l; omega⟩
      split
      · exact ⟨by show 0 ≤ l - 1; omega, by show l - 1 ≤ l; omega⟩
      split
      · exact ⟨h2.1, by have := h2.2; show (treesP _ _ _).2 ≤ l; omega⟩
      split
      · exact ⟨h2.1, by have := h2.2; show (treesP _ _ _).2 ≤ l; omega⟩
      · exact ⟨by show 0 ≤ l - 1; omega, by show l - 1 ≤ l; omega⟩
/-- A row that is right takes as much room as it has parts, at least. -/
theorem treesP_len {α : Type} {f : α → Int → Bool × Int} (hf : ∀ x l, 0 ≤ l → (f x l).1 = true → 0 ≤ (f x l).2 ∧ (f x l).2 ≤ l - 1) : ∀ (xs : List α) (l : Int), 0 ≤ l → (treesP f xs l).1 = true → (xs.length : Int) ≤ l
  | [], l, h, _ => by simpa using h
  | x :: r, l, h, hb => by
    rw [treesP] at hb
    split at hb
    · rename_i h1
      have h2 := hf x l h h1
      have h3 := treesP_len hf r (f x l).2 h2.1 hb
      simp only [List.length_cons]
      omega
    · cases hb

/-- What (*room).tree does with trees of this depth. -/
def TreeC (d : Nat) : Prop := ∀ (S : Nat → Prop) (t : Tr d) (v : Value) (left deep : Int) (rb : Nat) (w : World), ValAt S w d t v → Within S w → ¬ S rb → Room w rb left → 0 ≤ left → left ≤ 1000 → 0 ≤ deep → deep ≤ 1000 →
    Calls Tryz.prog 94 #[.pointer (some ⟨rb, 0, none⟩), v, .int .i64 deep] w fun e w' =>
      ∃ u, e = .returned (.tuple #[u, .bool (treeP d t left deep).1]) ∧ ((treeP d t left deep).1 = true → TreeAt (Fresh w w') w' d t u) ∧ Room w' rb (treeP d t left deep).2 ∧ But rb w w'

/-- The blocks from N on that are in w, but the row of the slice sv. -/
def Aside (N : Nat) (w : World) (sv : Value) (b : Nat) : Prop := N ≤ b ∧ b < w.heap.size ∧ some b ≠ sv.ownBlock

/-- The first k trees of a row that is being made. -/
def TreesTo {d : Nat} (N : Nat) (w : World) (sv : Value) (xs : List (Tr d)) (k : Nat) (vs : List Value) : Prop :=
  w.ownsRow N 64 1 sv k vs ∧ ∀ j x u, j < k → xs[j]? = some x → vs[j]? = some u → TreeAt (Aside N w sv) w d x u

theorem Tryz.infoTree : (Tryz.prog.info? 64).map (fun i => (i.zero, i.size, i.bytes)) = some (some .nilIface, 1, 16) := by kernel_rfl

theorem But.alloc {rb : Nat} {w w' : World} (h : But rb w w') (o : Obj) : But rb w (w'.alloc o) := h.trans (But.of_below (below_alloc1 _ _))
theorem ownsRow_but {N e size n rb : Nat} {w w' : World} {sv : Value} {vs : List Value} (h : w.ownsRow N e size sv n vs) (hb : But rb w w') (hr : rb < N) : w'.ownsRow N e size sv n vs := by
  refine h.kept hb ?_
  cases hv : sv.ownBlock with
  | none => exact Or.inl rfl
  | some g =>
    refine Or.inr (fun e => ?_)
    cases e
    have := (h.lt rb hv).1
    omega

theorem TreesTo.step {d N rb k : Nat} {wr wA w1 w2 : World} {sv sv' u : Value} {xs : List (Tr d)} {vs : List Value} {x : Tr d} {o : Obj} (h : TreesTo N wr sv xs k vs) (hr : rb < N) (hA : Below wr.heap.size wr wA) (hb : But rb wA w1)
    (hx : xs[k]? = some x) (hu : TreeAt (Fresh wA w1) w1 d x u) (hown : w2.ownsRow N 64 1 sv' (k + 1) (vs ++ [u])) (hg : (w1.alloc o).grownBy w2 sv.ownBlock)
    (hw : sv'.ownBlock = sv.ownBlock ∨ sv'.ownBlock = some (w1.alloc o).heap.size) (hN : N ≤ wr.heap.size) : TreesTo N w2 sv' xs (k + 1) (vs ++ [u]) := by
  obtain ⟨h1, h2⟩ := h
  have hlen : vs.length = k := by have := h1.1; omega
  have hs1 := hA.size
  have hs2 := hb.size
  have hs3 := hg.size
  have hz : (w1.alloc o).heap.size = w1.heap.size + 1 := by simp
  rw [hz] at hs3 hw
  -- a block that lay in w1 and is not the row's lies in w2 as it did
  have hlast : ∀ b, b < w1.heap.size → some b ≠ sv.ownBlock → w2.heap[b]? = w1.heap[b]? := fun b hb1 hb2 =>
    (hg.block b (by omega) hb2).trans (Below.heap_alloc _ _ _ hb1)
  have hne : ∀ b, b < w1.heap.size → some b ≠ sv.ownBlock → some b ≠ sv'.ownBlock := fun b hb1 hb2 => by
    rcases hw with e | e
    · rw [e]; exact hb2
    · rw [e]; intro e2; cases e2; omega
  refine ⟨hown, fun j y v hj hy hv => ?_⟩
  by_cases e : j = k
  · subst e
    rw [hx] at hy
    cases hy
    rw [List.getElem?_append_right (by omega), hlen, Nat.sub_self] at hv
    cases hv
    have hoff : ∀ b, Fresh wA w1 b → some b ≠ sv.ownBlock := fun b hb e => by
      have := (h1.lt b e.symm).2
      have := hb.1
      omega
    exact TreeAt.moved (fun b hb => hlast b hb.2 (hoff b hb)) (fun b hb => ⟨by have := hb.1; omega, by have := hb.2; omega, hne b hb.2 (hoff b hb)⟩) d x u hu
  · rw [List.getElem?_append_left (by omega)] at hv
    have h3 := h2 j y v (by omega) hy hv
    refine TreeAt.moved (fun b hB => ?_) (fun b hB => ⟨hB.1, by have := hB.2.1; omega, hne b (by have := hB.2.1; omega) hB.2.2⟩) d y v h3
    have hb2 := hB.2.1
    rw [hlast b (by omega) hB.2.2, hb.block b (by omega) (fun e => by cases e; have := hB.1; omega), hA.block b hb2]

theorem TreesTo.done {d N : Nat} {w w' : World} {sv : Value} {xs : List (Tr d)} {vs : List Value} (h : TreesTo N w' sv xs xs.length vs) (hN : N = w.heap.size) (hl : xs.length < 17592186044416) :
    Row1At (Fresh w w') w' (TreeAt (Fresh w w') w' d) sv xs := by
  obtain ⟨h1, h2⟩ := h
  refine ⟨hl, ?_⟩
  have hlen := h1.1
  rw [Nat.mul_one] at hlen
  rcases h1.2 with ⟨rfl, h0⟩ | ⟨g, cap, cur, rfl, hg, hh, _, _, _, _⟩
  · exact ⟨none, 0, by rw [h0], Or.inl (List.eq_nil_of_length_eq_zero h0)⟩
  · refine ⟨some ⟨g, 0, none⟩, cap, rfl, Or.inr ⟨g, 0, ⟨by omega, (Array.getElem?_eq_some_iff.1 hh).1⟩, rfl, fun i x hx => ?_⟩⟩
    have hi := (List.getElem?_eq_some_iff.1 hx).1
    have hvi : vs[i]? = some vs[i] := List.getElem?_eq_getElem (by omega)
    have hc := h1.cells (g := g) rfl i _ hvi
    have hadd : (⟨g, 0, none⟩ : Addr).add i = ⟨g, 0 + i, none⟩ := by unfold Addr.add; split <;> simp_all
    rw [hadd] at hc
    exact ⟨vs[i], hc, TreeAt.moved (fun _ _ => rfl) (fun b hb => ⟨by have := hb.1; omega, hb.2.1⟩) d x _ (h2 i x _ hi hx hvi)⟩

set_option maxHeartbeats 2000000 in
theorem trees_own (d : Nat) (H : TreeC d) (S : Nat → Prop) (xs : List (Tr d)) (v : Value) (left deep : Int) (rb : Nat) (w : World) (hv : RowAt S w (ValAt S w d) v xs) (hS : Within S w) (hrb : ¬ S rb) (hr : Room w rb left)
    (h0 : 0 ≤ left) (h1 : left ≤ 1000) (g0 : 0 ≤ deep) (g1 : deep ≤ 1000) :
    Calls Tryz.prog 110 #[.pointer (some ⟨rb, 0, none⟩), v, .int .i64 deep] w fun e w' =>
      ∃ a n c, e = .returned (.tuple #[.slice a n c, .bool (treesP (fun x l => treeP d x l deep) xs left).1]) ∧
        ((treesP (fun x l => treeP d x l deep) xs left).1 = true → ∃ vs, TreesTo w.heap.size w' (.slice a n c) xs xs.length vs) ∧ Room w' rb (treesP (fun x l => treeP d x l deep) xs left).2 ∧ But rb w w' := by
  obtain ⟨a, cap, rfl, hlen⟩ := hv.open'
  have hrbN := hr.lt
  go_enter Tryz.func110, Tryz.ntmps110
  go_wp2_with fail
  go_loopw [8, 15] (fun sv i wr => ∃ (k : Nat) (l : Int) (vs : List Value), k ≤ xs.length ∧ i = .int .i64 k ∧ Hid (TreesTo w.heap.size wr sv xs k vs) ∧ 0 ≤ l ∧ l ≤ 1000 ∧ Hid (Room wr rb l) ∧ Hid (But rb w wr) ∧
      Hid (treesP (fun x l => treeP d x l deep) xs left = treesP (fun x l => treeP d x l deep) (xs.drop k) l)) (fun _ i _ => xs.length - (intOf i).toNat)
  case atStart => exact ⟨0, left, [], Nat.zero_le _, rfl, ⟨World.ownsRow_nil _ _ _ _, fun j x u hj => by omega⟩, h0, h1, hr, But.refl _ _, rfl⟩
  case round =>
    clear hr
    obtain ⟨k, l, vs, hk, rfl, htr, hl0, hl1, hroom, hbut, hfin⟩ := hrel
    by_cases hkl : k < xs.length
    · obtain ⟨b, o, x, c0, c1, c2, c3, c4, rfl, hb, hx, e0, e1, e2, e3, e4, hval⟩ := (hv.same (hbut.out.same hS hrb)).cell hkl
      obtain ⟨q0, q1, q2, q3, q4, q5, q6, q7, q8, hq⟩ := hval.shape
      cases hq
      have hst : Hid (_ = _) := treesP_step (fun x l => treeP d x l deep) hx l
      have hbd := treeP_bd d x l deep hl0
      go_wp2_with fail
      have hA := below_alloc1 wr (.cells #[.int .i64 q0, .int .i64 q1, .string q2, .slice q3 q4 q5, .slice q6 q7 q8] 29)
      have hSw := hS.later hbut.out.size
      refine (H S x _ l deep rb _ (hval.same (hSw.same hA)) (hSw.later hA.size) hrb (hroom.out.below hA) hl0 hl1 g0 g1).mono ?_
      rintro e w1 ⟨u, rfl, hu, hroom1, hbut1⟩
      have hroom1' : Hid (Room w1 rb (treeP d x l deep).2) := hroom1
      have hbut2 : Hid (But rb w w1) := (hbut.out.trans (But.of_below hA)).trans hbut1
      cases hf : (treeP d x l deep).1 with
      | false =>
        have hfin2 : Hid (treesP (fun x l => treeP d x l deep) xs left = (false, (treeP d x l deep).2)) := by
          show treesP (fun x l => treeP d x l deep) xs left = _
          rw [hfin.out, hst.out, hf]
          rfl
        clear hfin hst hroom1 hbut1 hu htr hroom hbut hval hv e0 e1 e2 e3 e4 hx hSw hA
        go_wp2_with fail
        go_ret2
        rw [hfin2.out]
        exact ⟨none, 0, 0, rfl, fun h => absurd h (by simp), hroom1'.out, hbut2.out⟩
      | true =>
        have hu1 := hu hf
        obtain ⟨T, u', rfl⟩ := hu1.iface
        have hfin2 : Hid (treesP (fun x l => treeP d x l deep) xs left = treesP (fun x l => treeP d x l deep) (xs.drop (k + 1)) (treeP d x l deep).2) := by
          show treesP (fun x l => treeP d x l deep) xs left = _
          rw [hfin.out, hst.out, hf]
          rfl
        have hown1 := ownsRow_but htr.out.1 ((But.of_below hA).trans hbut1) hrbN
        have hNs : w.heap.size ≤ wr.heap.size := hbut.out.size
        have hN1 : w.heap.size ≤ w1.heap.size := hbut2.out.size
        have hstep : Hid (∀ sv' w2, w2.ownsRow w.heap.size 64 1 sv' (k + 1) (vs ++ [.iface T u']) → (w1.alloc (.cells #[.iface T u'] 64)).grownBy w2 (u8.ownBlock) →
            (sv'.ownBlock = u8.ownBlock ∨ sv'.ownBlock = some (w1.alloc (.cells #[.iface T u'] 64)).heap.size) →
            TreesTo w.heap.size w2 sv' xs (k + 1) (vs ++ [.iface T u']) ∧ Room w2 rb (treeP d x l deep).2 ∧ But rb w w2) := by
          intro sv' w2 o1 o2 o3
          have hrow : ∀ g, u8.ownBlock = some g → w.heap.size ≤ g := fun g hg => (htr.out.1.lt g hg).1
          have hrb2 : w2.heap[rb]? = w1.heap[rb]? := (o2.block rb (by simp; omega) (fun e => by have := hrow rb e.symm; omega)).trans (Below.heap_alloc _ _ _ (by omega))
          refine ⟨htr.out.step hrbN hA hbut1 hx hu1 o1 o2 o3 hNs, hrb2.trans hroom1, ?_⟩
          have hb3 := hbut2.out
          refine ⟨o2.os.trans hb3.os, o2.tape.trans hb3.tape, o2.output.trans hb3.output, Nat.le_trans hb3.size (Nat.le_trans (by simp) o2.size), fun i hi hn => ?_⟩
          exact ((o2.block i (by simp; omega) (fun e => by have := hrow i e.symm; omega)).trans (Below.heap_alloc _ _ _ (by omega))).trans (hb3.block i hi hn)
        obtain ⟨i0, hi, hz0, hz1, hz2⟩ := info_parts Tryz.infoTree
        have hown2 := hown1.alloc (.cells #[.iface T u'] 64)
        have HO : Hid _ := hown2
        clear hown2 hown1 hfin hst hroom1 hbut1 hu hu1 htr hroom hbut hval hv e0 e1 e2 e3 e4 hx hSw hA
        go_wp2_with (at_builtin; refine wpList_append_own_at _ rfl _ _ 74 rfl w.heap.size 64 i0 .nilIface 1 16 Tryz.underlying74 hi hz0 hz1 hz2 rfl (by decide) _ _ _ rfl HO.out ⟨w1.heap.size, 0, none⟩ 1 1 [.iface T u'] rfl rfl (cell_one_new _ _ _) ?c2 ?c3 ?c4 ?c5 ?_)
        case c2 => intro y hy; simp at hy; subst hy; rfl
        case c3 => unfold maxLen; omega
        case c4 => omega
        case c5 => simp; omega
        · intro sv' w2 o1 o2 _ o3
          have HH : Hid _ := hstep.out sv' w2 o1 o2 (by rw [World.size_alloc]; exact o3)
          clear o1 o2 o3 hstep HO
          go_wp2_with fail
          go_roundw
          case rel => exact ⟨k + 1, (treeP d x l deep).2, _, by omega, by go_num, HH.out.1, hbd.1, by omega, HH.out.2.1, HH.out.2.2, hfin2⟩
          case measure => simp [intOf]; omega
    · obtain rfl : k = xs.length := by omega
      have hfin2 : Hid (treesP (fun x l => treeP d x l deep) xs left = (true, l)) := by
        show treesP (fun x l => treeP d x l deep) xs left = _
        rw [hfin.out, List.drop_eq_nil_of_le (Nat.le_refl _)]
        rfl
      have hdone := htr.out.done (w := w) rfl (by omega)
      obtain ⟨sa, sc, hsv, _⟩ := hdone.open'
      subst hsv
      have HD : Hid (∃ vs, TreesTo w.heap.size wr (.slice sa xs.length sc) xs xs.length vs) := ⟨vs, htr.out⟩
      clear hdone htr hfin
      go_wp2_with fail
      go_ret2
      rw [hfin2.out]
      exact ⟨_, _, _, rfl, fun _ => HD.out, hroom.out, hbut.out⟩

theorem trees_any (d : Nat) (H : TreeC d) (S : Nat → Prop) (xs : List (Tr d)) (v : Value) (left deep : Int) (rb : Nat) (w : World) (hv : RowAt S w (ValAt S w d) v xs) (hS : Within S w) (hrb : ¬ S rb) (hr : Room w rb left)
    (h0 : 0 ≤ left) (h1 : left ≤ 1000) (g0 : 0 ≤ deep) (g1 : deep ≤ 1000) :
    Calls Tryz.prog 110 #[.pointer (some ⟨rb, 0, none⟩), v, .int .i64 deep] w fun e w' =>
      ∃ a n c, e = .returned (.tuple #[.slice a n c, .bool (treesP (fun x l => treeP d x l deep) xs left).1]) ∧
        ((treesP (fun x l => treeP d x l deep) xs left).1 = true → Row1At (Fresh w w') w' (TreeAt (Fresh w w') w' d) (.slice a n c) xs) ∧ Room w' rb (treesP (fun x l => treeP d x l deep) xs left).2 ∧ But rb w w' := by
  obtain ⟨_, _, _, hlen⟩ := hv.open'
  refine (trees_own d H S xs v left deep rb w hv hS hrb hr h0 h1 g0 g1).mono ?_
  rintro e w' ⟨a, n, c, he, htr, h1, h2⟩
  exact ⟨a, n, c, he, fun h => by obtain ⟨vs, hvs⟩ := htr h; exact hvs.done rfl (by omega), h1, h2⟩

/-- The row's own memory and its trees, in a world with more in it. -/
theorem TreesTo.moved {d N M k : Nat} {w w' : World} {sv : Value} {xs : List (Tr d)} {vs : List Value} (h : TreesTo N w sv xs k vs) (hb : Below w.heap.size w w') (hM : M ≤ N) : TreesTo M w' sv xs k vs := by
  obtain ⟨h1, h2⟩ := h
  have hz := hb.size
  refine ⟨⟨h1.1, ?_⟩, fun j x u hj hx hu => TreeAt.moved (fun b hb' => hb.block b hb'.2.1) (fun b hb' => ⟨Nat.le_trans hM hb'.1, by have := hb'.2.1; omega, hb'.2.2⟩) d x u (h2 j x u hj hx hu)⟩
  rcases h1.2 with h | ⟨g, cap, cur, hv, hg, hh, hrest⟩
  · exact Or.inl h
  · exact Or.inr ⟨g, cap, cur, hv, Nat.le_trans hM hg, (hb.block g (Array.getElem?_eq_some_iff.1 hh).1).trans hh, hrest⟩
end Go.Proofs.YtilgbnnjecpneaaGreatDoor
