/- Texts of the proof, put together by program: WSame. -/
import Derived.Test.YtilgbnnjecpneaaGreatDoorV1
/- ValSame of the model. -/
namespace Go.Proofs.YtilgbnnjecpneaaGreatDoor
open Go.RowKit Go.Deep

theorem two_blocks (w : World) (T : TypeId) (a0 a1 a2 a3 a4 b0 b1 b2 b3 b4 : Value) :
    Blk5 ((w.alloc (.cells #[a0, a1, a2, a3, a4] T)).alloc (.cells #[b0, b1, b2, b3, b4] T)) w.heap.size T a0 a1 a2 a3 a4 ∧
    Blk5 ((w.alloc (.cells #[a0, a1, a2, a3, a4] T)).alloc (.cells #[b0, b1, b2, b3, b4] T)) (w.heap.size + 1) T b0 b1 b2 b3 b4 ∧
    Below w.heap.size w ((w.alloc (.cells #[a0, a1, a2, a3, a4] T)).alloc (.cells #[b0, b1, b2, b3, b4] T)) := by
  have h1 := Blk5.new (w.alloc (.cells #[a0, a1, a2, a3, a4] T)) T b0 b1 b2 b3 b4
  simp only [World.size_alloc] at h1
  exact ⟨(Blk5.new w _ _ _ _ _ _).alloc _, h1, below_trans (below_alloc1 _ _) (below_alloc1 _ _)⟩

end Go.Proofs.YtilgbnnjecpneaaGreatDoor
