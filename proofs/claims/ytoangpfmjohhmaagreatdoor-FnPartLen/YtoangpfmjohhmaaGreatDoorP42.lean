/- Texts of the proof, put together by program: ReadB. -/
import Derived.Test.YtoangpfmjohhmaaGreatDoorP26
import Derived.Test.YtoangpfmjohhmaaGreatDoorP11
import Derived.ChangeSlices
/- Bytes that came in, read as data, lie in memory as bytes. -/
namespace Go.Proofs.YtoangpfmjohhmaaGreatDoor
open Go.RowKit Go.Deep Go.ChangeShapes

theorem read_bytes {H : Type} {enc : TypeId × Value → H} {W : World} {v : Value} {d : DataW H} {p : List MemPlace} (hs : ∃ a n c, v = .slice a n c) (h : DataW.Trod enc Tryz.prog W 0 (fun _ => true) true 22 v d p) :
    ∃ a n cap, v = .slice a n cap ∧ n ≤ cap ∧ cap ≤ 9223372036854775807 ∧ BytesAt W.heap.size W a n := by
  obtain ⟨a0, n0, c0, rfl⟩ := hs
  obtain ⟨fuel, hf⟩ := h
  rcases open_ints Tryz.underlying22 Tryz.underlying5 (by kernel_rfl) hf with ⟨e, _⟩ | ⟨a, len, cap, zs, e, _, hl, hm, hzl, _, hc, hw⟩
  · simp [Value.cells] at e
    obtain ⟨rfl, rfl, rfl⟩ := e
    exact ⟨none, 0, 0, rfl, Nat.le_refl _, by omega, Or.inl rfl⟩
  · simp [Value.cells] at e
    obtain ⟨rfl, rfl, rfl⟩ := e
    refine ⟨_, _, _, rfl, hl, by unfold maxLen at hm; omega, ?_⟩
    by_cases h0 : n0 = 0
    · exact Or.inl h0
    · simp only [if_true] at hzl
      have e0 : (a.add 0) = a := by simp [Addr.add]
      have hsp := cell_spot (hc 0 (by omega))
      rw [e0] at hsp
      have hadd : ∀ i, a.add i = ⟨a.block, a.off + i, none⟩ := fun i => addr_add hsp.1
      refine Or.inr ⟨a.block, a.off, hsp.2, ?_, fun i hi => ?_⟩
      · obtain ⟨b, o, s⟩ := a
        have : s = none := hsp.1
        rw [this]
      · have hci := hc i (by omega)
        rw [hadd] at hci
        refine ⟨zs.getD i 0, ?_, ?_, hci⟩
        · have hmem : zs.getD i 0 ∈ zs := by rw [List.getD_eq_getElem?_getD, List.getElem?_eq_getElem (by omega)]; exact List.getElem_mem _
          have := hw _ hmem
          simp only [Lit.wf, IntKind.min, IntKind.max, IntKind.signed, IntKind.bits] at this
          simp at this
          rw [List.getD_eq_getElem?_getD]
          omega
        · have hmem : zs.getD i 0 ∈ zs := by rw [List.getD_eq_getElem?_getD, List.getElem?_eq_getElem (by omega)]; exact List.getElem_mem _
          have := hw _ hmem
          simp only [Lit.wf, IntKind.min, IntKind.max, IntKind.signed, IntKind.bits] at this
          simp at this
          rw [List.getD_eq_getElem?_getD]
          omega
end Go.Proofs.YtoangpfmjohhmaaGreatDoor
