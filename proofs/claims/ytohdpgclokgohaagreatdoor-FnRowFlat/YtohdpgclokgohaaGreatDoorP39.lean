/- Texts of the proof, put together by program: Read, RLaid, ReadB. -/
import Derived.Test.YtohdpgclokgohaaGreatDoorP1
import Derived.Test.YtohdpgclokgohaaGreatDoorRows
import Derived.Deep.Slices
import Derived.Deep.Strs
import Derived.SizedLaws
import Derived.OpenShut
import Derived.Lib.SmallJoins
import Derived.Carry
import Derived.Test.YtohdpgclokgohaaGreatDoorP13
import Derived.ChangeSame
import Derived.ChangeVars
import Derived.JoinedOf
import Derived.RowKit
import Derived.RowKitTokens
import Derived.LaidLaws
import Derived.LaidHandle
import Derived.Stop.Joined
import Derived.Test.YtohdpgclokgohaaGreatDoorP4
import Derived.ChangeSlices
/- A tree that came in, read as data, lies in memory as a tree. -/
namespace Go.Proofs.YtohdpgclokgohaaGreatDoor
open Go.RowKit Go.Deep

section
variable {H : Type} {enc : TypeId × Value → H} {W : World}

theorem addr_add {a : Addr} {n : Nat} (h : a.spot = none) : a.add n = ⟨a.block, a.off + n, none⟩ := by
  obtain ⟨b, o, s⟩ := a
  simp only at h
  subst h
  unfold Addr.add
  split
  · rename_i h0
    subst h0
    rfl
  · rfl
theorem cell_spot {a : Addr} {v : Value} (h : W.cell? a = some v) : a.spot = none ∧ a.block < W.heap.size := by
  refine ⟨?_, World.block_lt_of_cell? W a h⟩
  unfold World.cell? at h
  split at h
  · split at h
    · cases h
    · rename_i hs
      cases hs2 : a.spot with
      | none => rfl
      | some x => rw [hs2] at hs; simp at hs
  · cases h

theorem each_weight {e : TypeId} : ∀ {ds : List (DataW H)} {d : DataW H}, d ∈ ds → ∀ n ∈ d.weights Tryz.prog e, n ∈ DataW.weightsAll Tryz.prog e ds
  | _ :: r, d, h, n, hn => by
    rw [DataW.weightsAll]
    cases h with
    | head => exact List.mem_append_left _ hn
    | tail _ h => exact List.mem_append_right _ (each_weight h n hn)

/-- What the form's own reach says of a reading. -/
def Fits (t : TypeId) (d : DataW H) : Prop := ∀ n ∈ d.weights Tryz.prog t, n ≤ reachBytes

theorem read_strs {fuel : Nat} {cs : List Value} {x : DataW H × List MemPlace} (h : DataW.trod enc Tryz.prog W 0 (fun _ => true) true fuel 23 cs = some x) (hz : Fits 23 x.1) :
    ∃ v ss, cs = [v] ∧ StrsAt (fun b => b < W.heap.size) W v ss := by
  rcases open_strs Tryz.underlying23 Tryz.underlying9 (by kernel_rfl) h with ⟨rfl, _⟩ | ⟨a, len, cap, m, Sx, rfl, _, hl, hm, hmm, rfl, hc⟩
  · exact ⟨_, [], rfl, by simp, by simp, none, 0, rfl, Or.inl rfl⟩
  · simp only [if_true] at hmm
    subst hmm
    have hb : Tryz.prog.bytesOf 9 = 16 := by kernel_rfl
    have hw : ∀ n ∈ (((List.range len).map (fun i => (DataW.lit (.string (Sx i).data.toList) : DataW H))).length + ((List.range (m - len)).map (fun j => (DataW.lit (.string (Sx (len + j)).data.toList) : DataW H))).length) * 16 ::
        (DataW.weightsAll Tryz.prog 9 ((List.range len).map (fun i => (DataW.lit (.string (Sx i).data.toList) : DataW H))) ++ DataW.weightsAll Tryz.prog 9 ((List.range (m - len)).map (fun j => (DataW.lit (.string (Sx (len + j)).data.toList) : DataW H)))), n ≤ reachBytes := by
      intro n hn
      refine hz n ?_
      simp only [DataW.weights, Tryz.underlying23, hb]
      exact hn
    have h1 := hw _ (List.mem_cons_self ..)
    simp only [List.length_map, List.length_range] at h1
    unfold reachBytes at h1 hw
    refine ⟨_, (List.range len).map Sx, rfl, ?_, ?_, some a, m, by simp, ?_⟩
    · simp
      omega
    · intro s hs
      obtain ⟨i, hi, rfl⟩ := List.mem_map.1 hs
      have h2 := hw (Sx i).size (List.mem_cons_of_mem _ (List.mem_append_left _ (each_weight (List.mem_map.2 ⟨i, hi, rfl⟩) _ (by simp [DataW.weights]))))
      omega
    · by_cases h0 : len = 0
      · subst h0
        exact Or.inl rfl
      · have hsp := cell_spot (hc 0 (by omega)).1
        have hsp2 : a.spot = none := by
          have e : (a.add 0) = a := by simp [Addr.add]
          rw [e] at hsp
          exact hsp.1
        have hblk : a.block < W.heap.size := by
          have e : (a.add 0) = a := by simp [Addr.add]
          rw [e] at hsp
          exact hsp.2
        refine Or.inr ⟨a.block, a.off, hblk, ?_, fun i s hi => ?_⟩
        · obtain ⟨b, o, sp⟩ := a
          simp only at hsp2
          subst hsp2
          rfl
        · obtain ⟨hi1, hi2⟩ := List.getElem?_eq_some_iff.1 hi
          simp only [List.length_map, List.length_range] at hi1
          simp only [List.getElem_map, List.getElem_range] at hi2
          subst hi2
          have := (hc i (by omega)).1
          rwa [addr_add hsp2] at this

theorem wf_i64 {n : Int} (h : (Lit.int .i64 n).wf = true) : I64 n := by
  simp [Lit.wf, IntKind.min, IntKind.max, IntKind.signed, IntKind.bits] at h
  exact h

/-- The weights of a struct's parts. -/
theorem agg_weight {t : TypeId} {fs : Array Field} (ht : Tryz.prog.underlying t = some (.struct fs)) {parts : List (DataW H)} (hz : Fits t (.agg parts)) {i : Nat} {f : Field} {d : DataW H} (hf : fs[i]? = some f) (hd : parts[i]? = some d) : Fits f.type d := by
  intro n hn
  refine hz n ?_
  simp only [DataW.weights, ht]
  exact DataW.weights_mem_each (ts := fs.toList.map (·.type)) (by rw [List.getElem?_map, Array.getElem?_toList, hf]; rfl) hd n hn

theorem choose_list {α : Type} {p : Nat → α → Prop} : ∀ (n : Nat), (∀ i, i < n → ∃ x, p i x) → ∃ xs : List α, xs.length = n ∧ ∀ i x, xs[i]? = some x → p i x
  | 0, _ => ⟨[], rfl, fun i x h => by simp at h⟩
  | n + 1, h => by
    obtain ⟨xs, hl, hx⟩ := choose_list n (fun i hi => h i (by omega))
    obtain ⟨y, hy⟩ := h n (by omega)
    refine ⟨xs ++ [y], by simp [hl], fun i x hi => ?_⟩
    by_cases e : i < n
    · rw [List.getElem?_append_left (by omega)] at hi
      exact hx i x hi
    · have hlt := (List.getElem?_eq_some_iff.1 hi).1
      simp [hl] at hlt
      obtain rfl : i = n := by omega
      rw [List.getElem?_append_right (by omega), hl, Nat.sub_self] at hi
      cases hi
      exact hy

theorem cells5 {a : Addr} {cs : List Value} (h : W.cells? 0 a 5 = some cs) : ∃ c0 c1 c2 c3 c4, cs = [c0, c1, c2, c3, c4] ∧ W.cell? (a.add 0) = some c0 ∧ W.cell? (a.add 1) = some c1 ∧ W.cell? (a.add 2) = some c2 ∧ W.cell? (a.add 3) = some c3 ∧ W.cell? (a.add 4) = some c4 := by
  unfold World.cells? at h
  rw [if_pos (Nat.zero_le _)] at h
  simp only [show List.range 5 = [0, 1, 2, 3, 4] from rfl, List.mapM_cons, List.mapM_nil, Option.pure_def, Option.bind_eq_bind, Option.bind_eq_some_iff, Option.some.injEq] at h
  obtain ⟨c0, h0, r0, ⟨c1, h1, r1, ⟨c2, h2, r2, ⟨c3, h3, r3, ⟨c4, h4, r4, e5, e4⟩, e3⟩, e2⟩, e1⟩, e0⟩ := h
  subst e5 e4 e3 e2 e1 e0
  exact ⟨c0, c1, c2, c3, c4, rfl, h0, h1, h2, h3, h4⟩

end
end Go.Proofs.YtohdpgclokgohaaGreatDoor

/- The one variable that the rows list: what it holds when a call begins. -/
namespace Go.Proofs.YtohdpgclokgohaaGreatDoor
open Go.ChangeShapes Go.WideShapes Go.RowKit

theorem Tryz.own : ownKnob Tryz.prog.godebug = none := by kernel_rfl
theorem Tryz.laidOut : laidOutB Tryz.prog = true := by kernel_rfl
/-- The listed variable, with its datum. -/
def laidV : List (String × DataW Unit) := [("errors.errorType", Rows.laid_errors_errorType)]
/-- The name of the type that stands for a type. -/
def rtName : String := match (Rows.laid_errors_errorType : DataW Unit) with | .iface s _ => s | _ => ""
theorem Tryz.et : Tryz.prog.globalNamed "errors.errorType" = some 0 := by kernel_rfl
theorem Tryz.rt : (Tryz.prog.cutTypes.find? (·.1 == rtName)).map (·.2) = some 148 := by kernel_rfl
theorem Tryz.oneRow : ((List.range Tryz.prog.types.size).filter fun t => Tryz.prog.rowNamed t [101, 114, 114, 111, 114]) = [51] := by kernel_rfl

theorem errType_of_laid {W : World} (h : laidMetH Tryz.prog laidV W) : ErrType W := by
  have h' : laidMet Tryz.prog [] W ∧ handlesMet Tryz.prog laidV W := h
  obtain ⟨name, u, ty, e1, e2, e3, e4, e5⟩ := h'.2 _ (List.mem_singleton.2 rfl)
  have en : name = [101, 114, 114, 111, 114] := (Option.some.inj e1).symm
  subst en
  obtain rfl := Option.some.inj (Tryz.rt.symm.trans e2)
  have hm : ty ∈ (List.range Tryz.prog.types.size).filter fun t => Tryz.prog.rowNamed t [101, 114, 114, 111, 114] := List.mem_filter.2 ⟨List.mem_range.2 e3, e4⟩
  rw [Tryz.oneRow] at hm
  obtain rfl := List.mem_singleton.1 hm
  have hh : typeHandle Tryz.prog 51 = .pointer (some ⟨1, 51, none⟩) := by kernel_rfl
  rw [hh] at e5
  exact World.var?_cell Tryz.et e5 0
end Go.Proofs.YtohdpgclokgohaaGreatDoor

/- Bytes that came in, read as data, lie in memory as bytes. -/
namespace Go.Proofs.YtohdpgclokgohaaGreatDoor
open Go.RowKit Go.Deep Go.ChangeShapes

theorem read_bytes {H : Type} {enc : TypeId × Value → H} {W : World} {v : Value} {d : DataW H} {p : List MemPlace} (hs : ∃ a n c, v = .slice a n c) (h : DataW.Trod enc Tryz.prog W 0 (fun _ => true) true 22 v d p) :
    ∃ a n cap, v = .slice a n cap ∧ n ≤ cap ∧ cap ≤ 9223372036854775807 ∧ BytesAt W.heap.size W a n := by
  obtain ⟨a0, n0, c0, rfl⟩ := hs
  obtain ⟨fuel, hf⟩ := h
  rcases open_ints Tryz.underlying22 Tryz.underlying5 (by kernel_rfl) hf with ⟨e, _⟩ | ⟨a, len, cap, zs, e, _, hl, hm, hzl, _, hc, hw⟩
  · simp [Value.cells] at e
    obtain ⟨rfl, rfl, rfl⟩ := e
    exact ⟨none, 0, 0, rfl, Nat.le_refl _, by omega, Or.inl rfl⟩
  · simp [Value.cells] at e
    obtain ⟨rfl, rfl, rfl⟩ := e
    refine ⟨_, _, _, rfl, hl, by unfold maxLen at hm; omega, ?_⟩
    by_cases h0 : n0 = 0
    · exact Or.inl h0
    · simp only [if_true] at hzl
      have e0 : (a.add 0) = a := by simp [Addr.add]
      have hsp := cell_spot (hc 0 (by omega))
      rw [e0] at hsp
      have hadd : ∀ i, a.add i = ⟨a.block, a.off + i, none⟩ := fun i => addr_add hsp.1
      refine Or.inr ⟨a.block, a.off, hsp.2, ?_, fun i hi => ?_⟩
      · obtain ⟨b, o, s⟩ := a
        have : s = none := hsp.1
        rw [this]
      · have hci := hc i (by omega)
        rw [hadd] at hci
        refine ⟨zs.getD i 0, ?_, ?_, hci⟩
        · have hmem : zs.getD i 0 ∈ zs := by rw [List.getD_eq_getElem?_getD, List.getElem?_eq_getElem (by omega)]; exact List.getElem_mem _
          have := hw _ hmem
          simp only [Lit.wf, IntKind.min, IntKind.max, IntKind.signed, IntKind.bits] at this
          simp at this
          rw [List.getD_eq_getElem?_getD]
          omega
        · have hmem : zs.getD i 0 ∈ zs := by rw [List.getD_eq_getElem?_getD, List.getElem?_eq_getElem (by omega)]; exact List.getElem_mem _
          have := hw _ hmem
          simp only [Lit.wf, IntKind.min, IntKind.max, IntKind.signed, IntKind.bits] at this
          simp at this
          rw [List.getD_eq_getElem?_getD]
          omega
end Go.Proofs.YtohdpgclokgohaaGreatDoor
