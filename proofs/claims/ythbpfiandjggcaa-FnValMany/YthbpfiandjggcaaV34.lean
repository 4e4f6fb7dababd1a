/- Texts of the proof, put together by program: WManyT. -/
import Derived.Test.YthbpfiandjggcaaV9
import Derived.Test.YthbpfiandjggcaaV15
import Derived.Deep.LoopGhost
/- many: how many parts one of the program's own trees has. -/
namespace Go.Proofs.Ythbpfiandjggcaa
open Go.RowKit Go.Deep

/-- How many parts there are, as the program's own trees have them. -/
def cntT : (d : Nat) → Tr d → Nat
  | 0, _ => 0
  | d + 1, t => 1 + (if Nd.kind t = 5 ∨ Nd.kind t = 6 then ((Nd.list t).map (cntT d)).sum else 0)

/-- What many is asked to give. -/
def ManyQ (n : Nat) (w : World) (e : Ending) (w' : World) : Prop := e = .returned (.int .i64 n) ∧ Below w.heap.size w w'

/-- Which function a call of many is, and that it gives the number. -/
def ManyOf (u : Value) (n : Nat) (w : World) : Prop :=
  ∃ v, (u = .iface 81 v ∧ Calls Try.prog 70 #[v] w (ManyQ n w)) ∨
    (u = .iface 83 v ∧ Calls Try.prog 73 #[v] w (ManyQ n w)) ∨
    (u = .iface 85 v ∧ Calls Try.prog 76 #[v] w (ManyQ n w)) ∨
    (u = .iface 90 v ∧ Calls Try.prog 79 #[v] w (ManyQ n w)) ∨
    (u = .iface 94 v ∧ Calls Try.prog 82 #[v] w (ManyQ n w))

def ManyC (d : Nat) : Prop := ∀ (S : Nat → Prop) (t : Tr d) (u : Value) (w : World), TreeAt S w d t u → Within S w → (cntT d t : Int) ≤ 4194304 → ManyOf u (cntT d t) w

theorem bareMany_any (k : Int) (w : World) : Calls Try.prog 70 #[.agg #[.int .i64 k]] w (ManyQ 1 w) := by
  go_enter Try.func70, Try.ntmps70
  go_wp2_with fail
  go_ret
  exact ⟨rfl, below_alloc1 _ _⟩
theorem numMany_any (k : Int) (w : World) : Calls Try.prog 73 #[.agg #[.int .i64 k]] w (ManyQ 1 w) := by
  go_enter Try.func73, Try.ntmps73
  go_wp2_with fail
  go_ret
  exact ⟨rfl, below_alloc1 _ _⟩
theorem strMany_any (s : ByteArray) (w : World) : Calls Try.prog 76 #[.agg #[.string s]] w (ManyQ 1 w) := by
  go_enter Try.func76, Try.ntmps76
  go_wp2_with fail
  go_ret
  exact ⟨rfl, below_alloc1 _ _⟩

set_option maxRecDepth 100000 in
set_option maxHeartbeats 2000000 in
theorem rowMany_any (d : Nat) (ih : ManyC d) (S : Nat → Prop) (xs : List (Tr d)) (sv : Value) (w : World) (hv : Row1At S w (TreeAt S w d) sv xs) (hS : Within S w) (hsm : ((1 + (xs.map (cntT d)).sum : Nat) : Int) ≤ 4194304) :
    Calls Try.prog 79 #[.agg #[sv]] w (ManyQ (1 + (xs.map (cntT d)).sum) w) := by
  obtain ⟨a, cap, rfl, hlen⟩ := hv.open'
  obtain ⟨W0, hW⟩ : ∃ W0, W0 = w.alloc (.cells #[.slice a xs.length cap] 90) := ⟨_, rfl⟩
  have hW0 : Below w.heap.size w W0 := by rw [hW]; exact below_alloc1 _ _
  have HW : Hid _ := hW
  clear hW
  go_enter Try.func79, Try.ntmps79
  go_wp2_with fail
  rw [← HW.out]
  clear HW
  go_loopw [3, 9] (fun n i wr => ∃ k s : Nat, k ≤ xs.length ∧ i = .int .i64 k ∧ n = .int .i64 (1 + (s : Int)) ∧ Hid (s = ((xs.take k).map (cntT d)).sum) ∧ Below W0.heap.size W0 wr) (fun _ i _ => xs.length - (intOf i).toNat)
  case atStart => exact ⟨0, 0, Nat.zero_le _, rfl, rfl, by simp [Hid], Below.refl _ _⟩
  case round =>
    obtain ⟨k, s, hkk, rfl, rfl, hs, hbel⟩ := hrel
    have hbw := below_trans hW0 hbel
    have hsb : (s : Int) ≤ 4194304 := by
      have h2 := sum_take_le (cntT d) xs k
      have h3 := hs.out
      omega
    by_cases hkl2 : k < xs.length
    · have hsame := hS.same hbw
      obtain ⟨b, o, x, u, rfl, _, hx, hc, hu⟩ := (hv.moved hsame (fun _ h => h) (fun x u hx => TreeAt.moved hsame (fun _ h => h) d x u hx)).cell hkl2
      have hst : Hid (_ = _) := sum_take_step (cntT d) hx
      have hnx := mem_sum_le (cntT d) hx
      obtain ⟨v, hm⟩ := ih S x u wr hu (hS.later hbw.size) (by omega)
      clear hx hv hu hsame
      rcases hm with ⟨rfl, hcall⟩ | ⟨rfl, hcall⟩ | ⟨rfl, hcall⟩ | ⟨rfl, hcall⟩ | ⟨rfl, hcall⟩
      all_goals
        have HC : Hid _ := hcall
        clear hcall
        go_wp2_with fail
        refine Calls.mono (R := ManyQ (cntT d x) wr) HC.out ?_
        rintro e w1 ⟨rfl, hb1⟩
        have hb2 := below_trans hbel hb1
        clear hb1 hbel hc hbw HC
        go_wp2_with fail
        go_roundw
        case rel => exact ⟨k + 1, s + cntT d x, by omega, by go_num, by go_num, by show _ = _; rw [hst.out, hs.out], hb2⟩
        case measure => simp [intOf]; omega
    · have HF : Hid ((1 + (xs.map (cntT d)).sum : Nat) = 1 + s) := by
        show _ = _
        rw [hs.out, List.take_of_length_le (by omega)]
      go_wp2_with fail
      go_ret
      refine ⟨?_, hbw⟩
      rw [HF.out]
      simp
end Go.Proofs.Ythbpfiandjggcaa
