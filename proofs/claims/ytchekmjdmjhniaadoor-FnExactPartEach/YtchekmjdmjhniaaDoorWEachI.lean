/- PartEach of the program. -/
import Derived.Test.YtchekmjdmjhniaaDoorWEachS
import Derived.Test.YtchekmjdmjhniaaDoorWKeyI
namespace Go.Proofs.YtchekmjdmjhniaaDoor
open Go.RowKit Go.Deep

set_option maxRecDepth 100000 in
set_option maxHeartbeats 4000000 in
theorem implPartEach_any (d : Nat) (S : Nat → Prop) (t : Tr (d + 1)) (v : Value) (w : World) (hv : ValAt S w (d + 1) t v) (hS : Within S w) (hg : ErrType w) :
    Calls Tryd.prog 8 #[v] w (TellRQ d (eachT d t).1 (eachT d t).2 w) := by
  obtain ⟨k, n, s, ak, lk, ck, al, ll, cl, rfl⟩ := hv.shape
  have hA := below_alloc1 w (.cells #[.int .i64 k, .int .i64 n, .string s, .slice ak lk ck, .slice al ll cl] 31)
  go_enter Tryd.func8, Tryd.ntmps8
  go_wp2_with fail
  refine (withParts_any d S t _ _ (hv.same (hS.same hA)) (hS.later hA.size)).mono ?_
  rintro e w1 ⟨hb1, hq⟩
  have hB1 := below_trans hA hb1
  have hg1 := hg.below hB1
  clear hv hb1 hA
  -- what is told, however it is
  have hfin : ∀ (x : Tr (d + 1)) (ok : Bool), Hid (∀ e w2, TellQ d x ok w1 e w2 → ∃ v0 v1 v2 v3 v4 v5 v6 v7 v8, e = .returned (.tuple #[.agg #[.int .i64 v0, .int .i64 v1, .string v2, .slice v3 v4 v5, .slice v6 v7 v8], .bool ok]) ∧ Below w.heap.size w w2 ∧
      ∀ o, RowOwn (w2.alloc o) (fun P y u => ValOwn (w2.alloc o) d P y u) (Fresh w (w2.alloc o)) (.slice v6 v7 v8) (Nd.list x) ∧ Below w.heap.size w (w2.alloc o)) := fun x ok => by
    intro e w2 ⟨v, he, hv, hb2⟩
    obtain ⟨v0, v1, v2, v3, v4, v5, v6, v7, v8, rfl⟩ := (ValOwn.at _ _ _ _ hv).shape
    have hB2 := below_trans hB1 hb2
    refine ⟨v0, v1, v2, v3, v4, v5, v6, v7, v8, he, hB2, fun o => ⟨?_, below_trans hB2 (below_alloc1 _ _)⟩⟩
    obtain ⟨vk, vl, Sk, Sl, hvv, _, _, _, _, hl, _, s2, _⟩ := hv
    cases hvv
    have hs1 := hB1.size
    have hsm : ∀ R : Nat → Prop, (∀ b, R b → Sl b) → Same R w2 (w2.alloc o) := fun R hR b hb => Below.heap_alloc _ _ _ (s2 b (hR b hb)).2
    exact hl.moved (hsm Sl (fun _ h => h)) (fun b hb => ⟨by have := (s2 b hb).1; omega, by have := (s2 b hb).2; simp; omega⟩) (fun P y u hP hy => ValOwn.moved d P P y u hy (hsm P (fun b hb => hP b hb)) (fun _ h => h))
  rcases hq with ⟨hok, h5, u, rfl, hu⟩ | ⟨hno, why, rfl⟩
  · obtain ⟨T, u', rfl⟩ := hu.iface
    have HR : Hid (eachT d t = (Nd.list (toldT d t), okT (d + 1) t)) := by
      show eachT d t = _
      rw [eachT, if_pos ⟨hok, h5⟩, toldT, if_pos hok, hok]
    have hcall := hide (told_tree d _ t _ w1 hu (Fresh.within _ _))
    clear hu hok h5
    go_wp2_with fail
    refine Calls.mono hcall.out ?_
    intro e w2 hq
    obtain ⟨v0, v1, v2, v3, v4, v5, v6, v7, v8, rfl, hb2, hF⟩ := (hfin _ _).out e w2 hq
    have HF := hide hF
    clear hF hq hfin hcall hb2
    go_wp2_with fail
    go_ret2
    exact ⟨_, by rw [HR.out]; rfl, by rw [HR.out]; exact (HF.out _).1, (HF.out _).2⟩
  · have HR : Hid (eachT d t = (Nd.list (zeroT d), false)) := by
      show eachT d t = _
      rw [eachT, if_neg hno]
      rfl
    have hcall := hide (told_fault d .nilIface why w1 hg1)
    unfold faultV
    clear hno
    go_wp2_with fail
    refine Calls.mono hcall.out ?_
    intro e w2 hq
    obtain ⟨v0, v1, v2, v3, v4, v5, v6, v7, v8, rfl, hb2, hF⟩ := (hfin _ _).out e w2 hq
    have HF := hide hF
    clear hF hq hfin hcall hb2
    go_wp2_with fail
    go_ret2
    exact ⟨_, by rw [HR.out]; rfl, by rw [HR.out]; exact (HF.out _).1, (HF.out _).2⟩
end Go.Proofs.YtchekmjdmjhniaaDoor
