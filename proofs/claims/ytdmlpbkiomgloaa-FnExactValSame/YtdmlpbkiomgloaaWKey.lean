/- The map of pairs of lists: two keys are one, a key is sought, a key is laid. -/
import Derived.Test.YtdmlpbkiomgloaaWCmp
import Derived.Test.YtdmlpbkiomgloaaWToP
import Derived.Test.YtdmlpbkiomgloaaWImplB
import Derived.LaidEql
import Derived.Laws.StructEq
namespace Go.Proofs.Ytdmlpbkiomgloaa
open Go.RowKit Go.Deep

/-- Two lists, by where they lie. -/
def pairKey (a b : Addr) (m n : Nat) : Value := .agg #[.pointer (some a), .pointer (some b), .int .i64 m, .int .i64 n]

theorem Try.fieldsPair : (Try.prog.fieldsOf 88).toList.map (fun f => (f.name, f.type, f.offset)) = [("a", 86, 0), ("b", 86, 1), ("manyA", 3, 2), ("manyB", 3, 3)] := by kernel_rfl
theorem Try.structPair : Try.prog.underlying 88 = some (.struct (Try.prog.fieldsOf 88)) := by kernel_rfl
theorem Try.pairHeld : Try.prog.stoodInHeld 88 = false := by kernel_rfl
theorem Try.ptrVal : Try.prog.underlying 86 = some (.pointer 30) := by kernel_rfl

theorem run_sameAddr_any (w : World) (a b : Addr) (ha : Plain w a.block) (hb : Plain w b.block) : (sameAddr a b).run Try.prog w = .ok (decide (a = b)) w := by
  obtain ⟨ca, ta, ha⟩ := ha
  obtain ⟨cb, tb, hb⟩ := hb
  by_cases e : a = b
  · subst e
    rw [run_sameAddr_same, decide_eq_true rfl]
  · rw [run_sameAddr_other w e ha hb, decide_eq_false e]

theorem run_equalPtr (w : World) (d : Nat) (a b : Addr) (ha : Plain w a.block) (hb : Plain w b.block) :
    (Op.equalIn (d + 1) 86 (.pointer (some a)) (.pointer (some b))).run Try.prog w = .ok (decide (a = b)) w := by
  obtain ⟨i, hi, hzz⟩ := Option.map_eq_some_iff.1 Try.infoVal
  simp only [Prod.mk.injEq] at hzz
  obtain ⟨_, hs, _⟩ := hzz
  simp [Op.equalIn, run_underlying Try.ptrVal, typeInfo, sizeOf, hi, hs, run_sameAddr_any w a b ha hb]

theorem run_pairEq (w : World) (a b a' b' : Addr) (m n m' n' : Nat) (h1 : Plain w a.block) (h2 : Plain w b.block) (h3 : Plain w a'.block) (h4 : Plain w b'.block) :
    (Op.equal 88 (pairKey a b m n) (pairKey a' b' m' n')).run Try.prog w = .ok (decide (a = a' ∧ b = b' ∧ m = m' ∧ n = n')) w := by
  have hp1 : (Op.equalIn 9999 86 (.pointer (some a)) (.pointer (some a'))).run Try.prog w = .ok (decide (a = a')) w := run_equalPtr w 9998 a a' h1 h3
  have hp2 : (Op.equalIn 9999 86 (.pointer (some b)) (.pointer (some b'))).run Try.prog w = .ok (decide (b = b')) w := run_equalPtr w 9998 b b' h2 h4
  have hi1 : (Op.equalIn 9999 3 (.int .i64 m) (.int .i64 m')).run Try.prog w = .ok ((m : Int) == (m' : Int)) w := run_equalIn_int (P := Try.prog) w 9998 3 .i64 .i64 m m' Try.underlying3
  have hi2 : (Op.equalIn 9999 3 (.int .i64 n) (.int .i64 n')).run Try.prog w = .ok ((n : Int) == (n' : Int)) w := run_equalIn_int (P := Try.prog) w 9998 3 .i64 .i64 n n' Try.underlying3
  have hf := Try.fieldsPair
  rw [Op.equal, Op.maxDepth, pairKey, pairKey, run_equalIn_struct w 9999 88 _ _ Try.structPair Try.pairHeld]
  generalize (Try.prog.fieldsOf 88).toList = fs at hf ⊢
  obtain ⟨f0, r0, rfl, e0, hf⟩ := List.map_eq_cons_iff.1 hf
  obtain ⟨f1, r1, rfl, e1, hf⟩ := List.map_eq_cons_iff.1 hf
  obtain ⟨f2, r2, rfl, e2, hf⟩ := List.map_eq_cons_iff.1 hf
  obtain ⟨f3, r3, rfl, e3, hf⟩ := List.map_eq_cons_iff.1 hf
  obtain rfl := List.map_eq_nil_iff.1 hf
  simp only [Prod.mk.injEq] at e0 e1 e2 e3
  obtain ⟨n0, t0, o0⟩ := e0
  obtain ⟨n1, t1, o1⟩ := e1
  obtain ⟨n2, t2, o2⟩ := e2
  obtain ⟨n3, t3, o3⟩ := e3
  simp only [Op.eqFields, n0, n1, n2, n3, t0, t1, t2, t3, o0, o1, o2, o3]
  clear hf n0 n1 n2 n3 t0 t1 t2 t3 o0 o1 o2 o3
  by_cases c1 : a = a'
  · rw [decide_eq_true c1] at hp1
    by_cases c2 : b = b'
    · rw [decide_eq_true c2] at hp2
      by_cases c3 : m = m'
      · have q3 : ((m : Int) == (m' : Int)) = true := by simp; omega
        rw [q3] at hi1
        by_cases c4 : n = n'
        · have q4 : ((n : Int) == (n' : Int)) = true := by simp; omega
          rw [q4] at hi2
          rw [decide_eq_true (⟨c1, c2, c3, c4⟩ : a = a' ∧ b = b' ∧ m = m' ∧ n = n')]
          simp [part, isAgg, run_underlying Try.ptrVal, run_underlying Try.underlying3, hp1, hp2, hi1, hi2]
        · have q4 : ((n : Int) == (n' : Int)) = false := by simp; omega
          rw [q4] at hi2
          rw [decide_eq_false (fun h : a = a' ∧ b = b' ∧ m = m' ∧ n = n' => c4 h.2.2.2)]
          simp [part, isAgg, run_underlying Try.ptrVal, run_underlying Try.underlying3, hp1, hp2, hi1, hi2]
      · have q3 : ((m : Int) == (m' : Int)) = false := by simp; omega
        rw [q3] at hi1
        rw [decide_eq_false (fun h : a = a' ∧ b = b' ∧ m = m' ∧ n = n' => c3 h.2.2.1)]
        simp [part, isAgg, run_underlying Try.ptrVal, run_underlying Try.underlying3, hp1, hp2, hi1]
    · rw [decide_eq_false c2] at hp2
      rw [decide_eq_false (fun h : a = a' ∧ b = b' ∧ m = m' ∧ n = n' => c2 h.2.1)]
      simp [part, isAgg, run_underlying Try.ptrVal, run_underlying Try.underlying3, hp1, hp2]
  · rw [decide_eq_false c1] at hp1
    rw [decide_eq_false (fun h : a = a' ∧ b = b' ∧ m = m' ∧ n = n' => c1 h.1)]
    simp [part, isAgg, run_underlying Try.ptrVal, run_underlying Try.underlying3, hp1]

/-- A map of pairs of lists that lie in plain blocks. -/
def PairMap (w : World) (es : List MapEntry) : Prop := ∀ e ∈ es, ∃ a b m n, e.key = pairKey a b m n ∧ e.val = .agg #[] ∧ Plain w a.block ∧ Plain w b.block

theorem run_findPair (w : World) (a b : Addr) (m n : Nat) (h1 : Plain w a.block) (h2 : Plain w b.block) : ∀ (es : List MapEntry) (i : Nat), PairMap w es →
    ((Instr.findAsking 88 (pairKey a b m n) es i).run Try.prog w = .ok none w ∧ ∀ e ∈ es, e.key ≠ pairKey a b m n) ∨
    ((∃ j, (Instr.findAsking 88 (pairKey a b m n) es i).run Try.prog w = .ok (some (j, .agg #[])) w) ∧ ∃ e ∈ es, e.key = pairKey a b m n)
  | [], i, _ => Or.inl ⟨by simp [Instr.findAsking], by simp⟩
  | e :: r, i, h => by
    obtain ⟨a', b', m', n', hk, hv, h3, h4⟩ := h e (by simp)
    have heq := run_pairEq w a b a' b' m n m' n' h1 h2 h3 h4
    by_cases c : a = a' ∧ b = b' ∧ m = m' ∧ n = n'
    · rw [decide_eq_true c] at heq
      refine Or.inr ⟨⟨i, by simp [Instr.findAsking, hk, hv, heq]⟩, e, by simp, ?_⟩
      obtain ⟨rfl, rfl, rfl, rfl⟩ := c
      exact hk
    · rw [decide_eq_false c] at heq
      rcases run_findPair w a b m n h1 h2 r (i + 1) (fun y hy => h y (by simp [hy])) with ⟨k1, k2⟩ | ⟨⟨j, k1⟩, y, hy, k2⟩
      · refine Or.inl ⟨by simp [Instr.findAsking, hk, heq, k1], fun y hy => ?_⟩
        rcases List.mem_cons.1 hy with rfl | hy
        · rw [hk]
          intro e2
          simp only [pairKey, Value.agg.injEq] at e2
          simp at e2
          exact c ⟨e2.1.symm, e2.2.1.symm, by omega, by omega⟩
        · exact k2 y hy
      · exact Or.inr ⟨⟨j, by simp [Instr.findAsking, hk, heq, k1]⟩, y, by simp [hy], k2⟩

theorem run_checkPtr (w : World) (em : Bool) (n : Nat) (a : Option Addr) : (Instr.checkKey em (n + 1) 86 (.pointer a)).run Try.prog w = .ok () w := by
  simp [Instr.checkKey, run_underlying Try.ptrVal]
theorem run_checkInt (w : World) (em : Bool) (n : Nat) (k : Int) : (Instr.checkKey em (n + 1) 3 (.int .i64 k)).run Try.prog w = .ok () w := by
  simp [Instr.checkKey, run_underlying Try.underlying3]
theorem run_checkPairAt (w : World) (em : Bool) (d : Nat) (a b : Addr) (m n : Nat) : (Instr.checkKey em (d + 2) 88 (pairKey a b m n)).run Try.prog w = .ok () w := by
  have hf := Try.fieldsPair
  have hp := fun a => run_checkPtr w em d a
  have hi := fun k => run_checkInt w em d k
  rw [Instr.checkKey, pairKey]
  simp only [Sem.run_bind, run_underlying Try.structPair, Result.andThen_ok]
  rw [← Array.forIn_toList]
  generalize (Try.prog.fieldsOf 88).toList = fs at hf ⊢
  obtain ⟨f0, r0, rfl, e0, hf⟩ := List.map_eq_cons_iff.1 hf
  obtain ⟨f1, r1, rfl, e1, hf⟩ := List.map_eq_cons_iff.1 hf
  obtain ⟨f2, r2, rfl, e2, hf⟩ := List.map_eq_cons_iff.1 hf
  obtain ⟨f3, r3, rfl, e3, hf⟩ := List.map_eq_cons_iff.1 hf
  obtain rfl := List.map_eq_nil_iff.1 hf
  simp only [Prod.mk.injEq] at e0 e1 e2 e3
  obtain ⟨n0, t0, o0⟩ := e0
  obtain ⟨n1, t1, o1⟩ := e1
  obtain ⟨n2, t2, o2⟩ := e2
  obtain ⟨n3, t3, o3⟩ := e3
  clear hf
  simp [List.forIn_cons, n0, n1, n2, n3, t0, t1, t2, t3, o0, o1, o2, o3, part, isAgg, run_underlying Try.ptrVal, run_underlying Try.underlying3, hp, hi]

theorem run_checkPair (w : World) (em : Bool) (a b : Addr) (m n : Nat) : (Instr.checkKey em 10000 88 (pairKey a b m n)).run Try.prog w = .ok () w := run_checkPairAt w em 9998 a b m n

theorem Try.mapPair : Try.prog.underlying 53 = some (.map 88 89) := by kernel_rfl
theorem Try.infoUnit : (Try.prog.info? 89).map (fun i => (i.zero, i.size, i.bytes)) = some (some (.agg #[]), 0, 0) := by kernel_rfl

theorem run_findKeyPair (w : World) (a b : Addr) (m n : Nat) (h1 : Plain w a.block) (h2 : Plain w b.block) (es : List MapEntry) (hp : PairMap w es) :
    ((Instr.findKey 88 (pairKey a b m n) es).run Try.prog w = .ok none w ∧ ∀ e ∈ es, e.key ≠ pairKey a b m n) ∨
    ((∃ j, (Instr.findKey 88 (pairKey a b m n) es).run Try.prog w = .ok (some (j, .agg #[])) w) ∧ ∃ e ∈ es, e.key = pairKey a b m n) := by
  cases es with
  | nil => exact Or.inl ⟨by simp [Instr.findKey, run_underlying Try.structPair, Instr.findNow], by simp⟩
  | cons e r =>
    obtain ⟨a', b', m', n', hk, hv, h3, h4⟩ := hp e (by simp)
    have hn : Instr.findNow (.struct (Try.prog.fieldsOf 88)) (pairKey a b m n) (e :: r) 0 = none := by
      simp [Instr.findNow, Instr.sameNow]
    have hrun : (Instr.findKey 88 (pairKey a b m n) (e :: r)).run Try.prog w = (Instr.findAsking 88 (pairKey a b m n) (e :: r) 0).run Try.prog w := by
      simp only [Instr.findKey, Sem.run_bind, run_underlying Try.structPair, Result.andThen_ok, hn]
    rw [hrun]
    exact run_findPair w a b m n h1 h2 (e :: r) 0 hp

theorem run_pairs (w : World) (r clock : Nat) (es : Array MapEntry) (a b : Addr) (m n : Nat) (h1 : Plain w a.block) (h2 : Plain w b.block) (hb : w.heap[r]? = some (.map es clock)) (hp : PairMap w es.toList) :
    ((∀ e ∈ es.toList, e.key ≠ pairKey a b m n) ∧ (Instr.lookup 53 (.map (some r)) (pairKey a b m n) true).run Try.prog w = .ok (.tuple #[.agg #[], .bool false]) w ∧
      (Instr.mapUpdate 53 (.map (some r)) (pairKey a b m n) (.agg #[])).run Try.prog w = .ok () (withObj w r (.map (es.push ⟨pairKey a b m n, .agg #[], clock⟩) (clock + 1)))) ∨
    ((∃ e ∈ es.toList, e.key = pairKey a b m n) ∧ (Instr.lookup 53 (.map (some r)) (pairKey a b m n) true).run Try.prog w = .ok (.tuple #[.agg #[], .bool true]) w) := by
  obtain ⟨i, hi, hz0, hz1, hz2⟩ := info_parts Try.infoUnit
  have hz : (zeroValue 89).run Try.prog w = .ok (.agg #[]) w := by simp [zeroValue, typeInfo, hi, hz0]
  have hk1 := fun em => run_checkPair w em a b m n
  rcases run_findKeyPair w a b m n h1 h2 es.toList hp with ⟨k1, k2⟩ | ⟨⟨j, k1⟩, k2⟩
  · refine Or.inl ⟨k2, ?_, ?_⟩
    · simp [Instr.lookup, run_underlying Try.mapPair, getObj, Sem.run, hb, hk1, k1, hz]
    · simp [Instr.mapUpdate, run_underlying Try.mapPair, getObj, setObj, Sem.run, hb, hk1, k1, withObj]
  · refine Or.inr ⟨k2, ?_⟩
    simp [Instr.lookup, run_underlying Try.mapPair, getObj, Sem.run, hb, hk1, k1]
end Go.Proofs.Ytdmlpbkiomgloaa
