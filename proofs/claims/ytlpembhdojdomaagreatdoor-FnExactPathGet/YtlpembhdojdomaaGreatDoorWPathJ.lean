/- PathGet of the program. -/
import Derived.Test.YtlpembhdojdomaaGreatDoorWPathI
namespace Go.Proofs.YtlpembhdojdomaaGreatDoor
open Go.RowKit Go.Deep

set_option maxRecDepth 100000 in
set_option maxHeartbeats 4000000 in
theorem implPathGet_any (d : Nat) (S : Nat → Prop) (t : Tr (d + 2)) (v : Value) (S' : Nat → Prop) (ps : List Stp) (v' : Value) (w : World) (hv : ValAt S w (d + 2) t v) (hS : Within S w) (hv' : StepsAt S' w v' ps) (hS' : Within S' w) (hg : ErrType w) :
    Calls Tryz.prog 22 #[v, v'] w (TellQ (d + 1) (pathGetT d t ps).1 (pathGetT d t ps).2 w) := by
  obtain ⟨k, n, s, ak, lk, ck, al, ll, cl, rfl⟩ := hv.shape
  obtain ⟨a, cap, rfl, hlen⟩ := hv'.open'
  obtain ⟨W0, hW⟩ : ∃ W0, W0 = (w.alloc (.cells #[.int .i64 k, .int .i64 n, .string s, .slice ak lk ck, .slice al ll cl] 29)).alloc (.cells #[.int .i64 0, .int .i64 0, .string { data := #[] }, .slice none 0 0, .slice none 0 0] 29) := ⟨_, rfl⟩
  have hW0 : Below w.heap.size w W0 := by rw [hW]; exact below_trans (below_alloc1 _ _) (below_alloc1 _ _)
  have k1 : Blk5 W0 (w.heap.size + 1) 29 (.int .i64 0) (.int .i64 0) (.string { data := #[] }) (.slice none 0 0) (.slice none 0 0) := by
    have := Blk5.new (w.alloc (.cells #[.int .i64 k, .int .i64 n, .string s, .slice ak lk ck, .slice al ll cl] 29)) 29 (.int .i64 0) (.int .i64 0) (.string { data := #[] }) (.slice none 0 0) (.slice none 0 0)
    rw [World.size_alloc] at this
    rw [hW]
    exact this
  have hlt := k1.lt
  have HW := hide hW
  clear hW
  go_enter Tryz.func22, Tryz.ntmps22
  go_wp2_with fail
  rw [← HW.out]
  clear HW
  refine Calls.mono (along_any d S t _ S' ps _ W0 (hv.same (hS.same hW0)) (hS.later hW0.size) (hv'.same (hS'.same hW0)) (hS'.later hW0.size) (hg.below hW0)) ?_
  rintro e w1 ⟨sv, u, xs, vs, rfl, hu, hb1, _, _⟩
  obtain ⟨u0, u1, u2, u3, u4, u5, u6, u7, u8, rfl⟩ := (ValOwn.at _ _ _ _ hu).shape
  have hA := below_alloc1 w1 (.cells #[.int .i64 u0, .int .i64 u1, .string u2, .slice u3 u4 u5, .slice u6 u7 u8] 29)
  have k2 := (k1.below hb1).below hA
  have hu2 := hu.same ((Fresh.within W0 w1).same hA)
  have HF := hide (tell_end (w := w) (w1 := W0) (rb := w.heap.size + 1) (ValOwn.mono hu2 (S' := Fresh W0 (w1.alloc (.cells #[.int .i64 u0, .int .i64 u1, .string u2, .slice u3 u4 u5, .slice u6 u7 u8] 29))) (fun b hb => ⟨hb.1, Nat.lt_of_lt_of_le hb.2 hA.size⟩)) (below_trans (below_trans hW0 hb1) hA) (by omega) hlt)
  obtain ⟨y0, y1, y2, y3, y4⟩ := k2.cell
  have yf := k2.frozen
  clear k1 k2 hu hu2 hA hb1 hW0 hv
  go_wp2_with fail
  refine bodyPost_ret (v := .tuple #[.agg #[.int .i64 u0, .int .i64 u1, .string u2, .slice u3 u4 u5, .slice u6 u7 u8], .bool (pathGetT d t ps).2]) (by simp [results, Tryz.results22, go_sem, y0, y1, y2, y3, y4]) rfl ⟨_, rfl, (HF.out _ rfl).1, (HF.out _ rfl).2⟩
end Go.Proofs.YtlpembhdojdomaaGreatDoor
