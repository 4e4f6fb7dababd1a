/- Texts of the proof, put together by program: Read, RLaid, ReadB. -/
import Derived.Test.YtilgbnnjecpneaaGreatDoorV1
import Derived.Test.YtilgbnnjecpneaaGreatDoorRows
import Derived.Deep.Slices
import Derived.Deep.Strs
import Derived.SizedLaws
import Derived.OpenShut
import Derived.Lib.SmallJoins
import Derived.Carry
import Derived.Test.YtilgbnnjecpneaaGreatDoorV11
import Derived.ChangeSame
import Derived.ChangeVars
import Derived.JoinedOf
import Derived.RowKit
import Derived.RowKitTokens
import Derived.LaidLaws
import Derived.LaidHandle
import Derived.Stop.Joined
import Derived.Test.YtilgbnnjecpneaaGreatDoorV3
import Derived.ChangeSlices
/- A tree that came in, read as data, lies in memory as a tree. -/
namespace Go.Proofs.YtilgbnnjecpneaaGreatDoor
open Go.RowKit Go.Deep

section
variable {H : Type} {enc : TypeId × Value → H} {W : World}

theorem addr_add {a : Addr} {n : Nat} (h : a.spot = none) : a.add n = ⟨a.block, a.off + n, none⟩ := by
  obtain ⟨b, o, s⟩ := a
  simp only at h
  subst h
  unfold Addr.add
  split
  · rename_i h0
    subst h0
    rfl
  · rfl
theorem cell_spot {a : Addr} {v : Value} (h : W.cell? a = some v) : a.spot = none ∧ a.block < W.heap.size := by
  refine ⟨?_, World.block_lt_of_cell? W a h⟩
  unfold World.cell? at h
  split at h
  · split at h
    · cases h
    · rename_i hs
      cases hs2 : a.spot with
      | none => rfl
      | some x => rw [hs2] at hs; simp at hs
  · cases h

end
end Go.Proofs.YtilgbnnjecpneaaGreatDoor

/- The one variable that the rows list: what it holds when a call begins. -/
namespace Go.Proofs.YtilgbnnjecpneaaGreatDoor
open Go.ChangeShapes Go.WideShapes Go.RowKit

theorem Tryz.own : ownKnob Tryz.prog.godebug = none := by kernel_rfl
theorem Tryz.laidOut : laidOutB Tryz.prog = true := by kernel_rfl
/-- The listed variable, with its datum. -/
def laidV : List (String × DataW Unit) := [("errors.errorType", Rows.laid_errors_errorType)]
/-- The name of the type that stands for a type. -/
def rtName : String := match (Rows.laid_errors_errorType : DataW Unit) with | .iface s _ => s | _ => ""
theorem Tryz.et : Tryz.prog.globalNamed "errors.errorType" = some 0 := by kernel_rfl
theorem Tryz.rt : (Tryz.prog.cutTypes.find? (·.1 == rtName)).map (·.2) = some 161 := by kernel_rfl
theorem Tryz.oneRow : ((List.range Tryz.prog.types.size).filter fun t => Tryz.prog.rowNamed t [101, 114, 114, 111, 114]) = [66] := by kernel_rfl

theorem errType_of_laid {W : World} (h : laidMetH Tryz.prog laidV W) : ErrType W := by
  have h' : laidMet Tryz.prog [] W ∧ handlesMet Tryz.prog laidV W := h
  obtain ⟨name, u, ty, e1, e2, e3, e4, e5⟩ := h'.2 _ (List.mem_singleton.2 rfl)
  have en : name = [101, 114, 114, 111, 114] := (Option.some.inj e1).symm
  subst en
  obtain rfl := Option.some.inj (Tryz.rt.symm.trans e2)
  have hm : ty ∈ (List.range Tryz.prog.types.size).filter fun t => Tryz.prog.rowNamed t [101, 114, 114, 111, 114] := List.mem_filter.2 ⟨List.mem_range.2 e3, e4⟩
  rw [Tryz.oneRow] at hm
  obtain rfl := List.mem_singleton.1 hm
  have hh : typeHandle Tryz.prog 66 = .pointer (some ⟨1, 66, none⟩) := by kernel_rfl
  rw [hh] at e5
  exact World.var?_cell Tryz.et e5 0
end Go.Proofs.YtilgbnnjecpneaaGreatDoor

/- Bytes that came in, read as data, lie in memory as bytes. -/
namespace Go.Proofs.YtilgbnnjecpneaaGreatDoor
open Go.RowKit Go.Deep Go.ChangeShapes

theorem read_bytes {H : Type} {enc : TypeId × Value → H} {W : World} {v : Value} {d : DataW H} {p : List MemPlace} (hs : ∃ a n c, v = .slice a n c) (h : DataW.Trod enc Tryz.prog W 0 (fun _ => true) true 36 v d p) :
    ∃ a n cap, v = .slice a n cap ∧ n ≤ cap ∧ cap ≤ 9223372036854775807 ∧ BytesAt W.heap.size W a n := by
  obtain ⟨a0, n0, c0, rfl⟩ := hs
  obtain ⟨fuel, hf⟩ := h
  rcases open_ints Tryz.underlying36 Tryz.underlying5 (by kernel_rfl) hf with ⟨e, _⟩ | ⟨a, len, cap, zs, e, _, hl, hm, hzl, _, hc, hw⟩
  · simp [Value.cells] at e
    obtain ⟨rfl, rfl, rfl⟩ := e
    exact ⟨none, 0, 0, rfl, Nat.le_refl _, by omega, Or.inl rfl⟩
  · simp [Value.cells] at e
    obtain ⟨rfl, rfl, rfl⟩ := e
    refine ⟨_, _, _, rfl, hl, by unfold maxLen at hm; omega, ?_⟩
    by_cases h0 : n0 = 0
    · exact Or.inl h0
    · simp only [if_true] at hzl
      have e0 : (a.add 0) = a := by simp [Addr.add]
      have hsp := cell_spot (hc 0 (by omega))
      rw [e0] at hsp
      have hadd : ∀ i, a.add i = ⟨a.block, a.off + i, none⟩ := fun i => addr_add hsp.1
      refine Or.inr ⟨a.block, a.off, hsp.2, ?_, fun i hi => ?_⟩
      · obtain ⟨b, o, s⟩ := a
        have : s = none := hsp.1
        rw [this]
      · have hci := hc i (by omega)
        rw [hadd] at hci
        refine ⟨zs.getD i 0, ?_, ?_, hci⟩
        · have hmem : zs.getD i 0 ∈ zs := by rw [List.getD_eq_getElem?_getD, List.getElem?_eq_getElem (by omega)]; exact List.getElem_mem _
          have := hw _ hmem
          simp only [Lit.wf, IntKind.min, IntKind.max, IntKind.signed, IntKind.bits] at this
          simp at this
          rw [List.getD_eq_getElem?_getD]
          omega
        · have hmem : zs.getD i 0 ∈ zs := by rw [List.getD_eq_getElem?_getD, List.getElem?_eq_getElem (by omega)]; exact List.getElem_mem _
          have := hw _ hmem
          simp only [Lit.wf, IntKind.min, IntKind.max, IntKind.signed, IntKind.bits] at this
          simp at this
          rw [List.getD_eq_getElem?_getD]
          omega
end Go.Proofs.YtilgbnnjecpneaaGreatDoor
