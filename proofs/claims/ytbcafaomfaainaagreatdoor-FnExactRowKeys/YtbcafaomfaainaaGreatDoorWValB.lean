/- val of rows. -/
import Derived.Test.YtbcafaomfaainaaGreatDoorWValA
namespace Go.Proofs.YtbcafaomfaainaaGreatDoor
open Go.RowKit Go.Deep

set_option maxRecDepth 100000 in
set_option maxHeartbeats 2000000 in
theorem rowVal_any (d : Nat) (ih : ValC d) (S : Nat → Prop) (xs : List (Tr d)) (sv : Value) (w : World) (hv : Row1At S w (TreeG S w d) sv xs) (hS : Within S w) (hsm : xs.length ≤ 1000) :
    Calls Tryz.prog 99 #[.agg #[sv]] w (ValQ (d + 1) (Nd.mk 5 0 ByteArray.empty [] xs : Nd (Tr d)) w) := by
  obtain ⟨a, cap, rfl, hlen⟩ := hv.open'
  obtain ⟨W0, hW⟩ : ∃ W0, W0 = (w.alloc (.cells #[.slice a xs.length cap] 66)).alloc (.cells #[.int .i64 0, .int .i64 0, .string { data := #[] }, .slice none 0 0, .slice none 0 0] 29) := ⟨_, rfl⟩
  have hW0 : Below w.heap.size w W0 := by rw [hW]; exact below_trans (below_alloc1 _ _) (below_alloc1 _ _)
  have k1 : Blk5 W0 (w.heap.size + 1) 29 (.int .i64 0) (.int .i64 0) (.string { data := #[] }) (.slice none 0 0) (.slice none 0 0) := by
    have := Blk5.new (w.alloc (.cells #[.slice a xs.length cap] 66)) 29 (.int .i64 0) (.int .i64 0) (.string { data := #[] }) (.slice none 0 0) (.slice none 0 0)
    rw [World.size_alloc] at this
    rw [hW]
    exact this
  have HW := hide hW
  clear hW
  go_enter Tryz.func99, Tryz.ntmps99
  go_wp2_with fail
  rw [← HW.out]
  clear HW
  go_loopw [3, 9] (fun lv i wr => ∃ (k : Nat) (vs : List Value) (P : Nat → Nat → Prop), k ≤ xs.length ∧ i = .int .i64 k ∧ Hid (ValsTo W0.heap.size wr lv xs k vs P) ∧ Below W0.heap.size W0 wr) (fun _ i _ => xs.length - (intOf i).toNat)
  case atStart => exact ⟨0, [], _, Nat.zero_le _, rfl, ValsTo.start _ _ _, Below.refl _ _⟩
  case round =>
    obtain ⟨k, vs, P, hkk, rfl, hto, hbel⟩ := hrel
    have hbw := below_trans hW0 hbel
    by_cases hkl : k < xs.length
    · have hsame := hS.same hbw
      obtain ⟨b, o, x, u, rfl, _, hx, hc, hu⟩ := (hv.moved hsame (fun _ h => h) (fun x u hx => TreeG.moved hsame (fun _ h => h) d x u hx)).cell hkl
      obtain ⟨v, hm⟩ := ih S x u wr hu (hS.later hbw.size)
      have HX := hide hx
      have hNs : W0.heap.size ≤ wr.heap.size := hbel.size
      clear hx hv hu hsame hbw
      rcases hm with ⟨rfl, hcall⟩ | ⟨rfl, hcall⟩ | ⟨rfl, hcall⟩ | ⟨rfl, hcall⟩ | ⟨rfl, hcall⟩
      all_goals
        have HC := hide hcall
        clear hcall
        go_wp2_with fail
        refine Calls.mono (R := ValQ d x wr) HC.out ?_
        rintro e w1 ⟨u, rfl, hu, hb1⟩
        obtain ⟨v0, v1, v2, v3, v4, v5, v6, v7, v8, rfl⟩ := (ValOwn.at d _ _ _ hu).shape
        have hb2 := hide (below_trans hbel hb1)
        have hown1 := hide ((hto.out.own.kept (row := none) ⟨hb1.os, hb1.tape, hb1.output, hb1.size, fun i hi _ => hb1.block i hi⟩ (by cases u3.ownBlock <;> simp)).alloc (.cells #[.int .i64 v0, .int .i64 v1, .string v2, .slice v3 v4 v5, .slice v6 v7 v8] 29))
        have hN1 : W0.heap.size ≤ w1.heap.size := hb2.out.size
        have hstep : Hid (∀ sv' w2, w2.ownsRow W0.heap.size 29 5 sv' (k + 1) (vs ++ [.int .i64 v0, .int .i64 v1, .string v2, .slice v3 v4 v5, .slice v6 v7 v8]) → (w1.alloc (.cells #[.int .i64 v0, .int .i64 v1, .string v2, .slice v3 v4 v5, .slice v6 v7 v8] 29)).grownBy w2 (u3.ownBlock) →
            (sv'.ownBlock = u3.ownBlock ∨ sv'.ownBlock = some (w1.alloc (.cells #[.int .i64 v0, .int .i64 v1, .string v2, .slice v3 v4 v5, .slice v6 v7 v8] 29)).heap.size) →
            (∃ P', ValsTo W0.heap.size w2 sv' xs (k + 1) (vs ++ [.int .i64 v0, .int .i64 v1, .string v2, .slice v3 v4 v5, .slice v6 v7 v8]) P') ∧ Below W0.heap.size W0 w2) := by
          intro sv' w2 o1 o2 o3
          have hrow : ∀ g, u3.ownBlock = some g → W0.heap.size ≤ g := fun g hg => (hto.out.own.lt g hg).1
          refine ⟨⟨_, hto.out.step hb1 HX.out hu o1 o2 o3 hNs⟩, ?_⟩
          have hb3 := hb2.out
          refine ⟨o2.os.trans hb3.os, o2.tape.trans hb3.tape, o2.output.trans hb3.output, Nat.le_trans hb3.size (Nat.le_trans (by simp) o2.size), fun i hi => ?_⟩
          exact ((o2.block i (by simp; omega) (fun e => by have := hrow i e.symm; omega)).trans (Below.heap_alloc _ _ _ (by omega))).trans (hb3.block i hi)
        obtain ⟨i0, hi, hz0, hz1, hz2⟩ := info_parts Tryz.infoVal
        clear hto hu hb1 hbel HC hc hb2
        go_wp2_with (at_builtin; refine wpList_append_own_at _ rfl _ _ 27 rfl W0.heap.size 29 i0 zeroVal 5 80 Tryz.underlying27 hi hz0 hz1 hz2 rfl (by decide) _ _ _ rfl hown1.out ⟨w1.heap.size, 0, none⟩ 1 1 [.int .i64 v0, .int .i64 v1, .string v2, .slice v3 v4 v5, .slice v6 v7 v8] rfl rfl (cell_five_new _ _ _ _ _ _ _) ?c2 ?c3 ?c4 ?c5 ?_)
        case c2 => intro y hy; simp at hy; rcases hy with rfl | rfl | rfl | rfl | rfl <;> rfl
        case c3 => unfold maxLen; omega
        case c4 => omega
        case c5 => simp; omega
        · intro sv' w2 o1 o2 _ o3
          have HH := hide (hstep.out sv' w2 o1 o2 (by rw [World.size_alloc]; exact o3))
          clear o1 o2 o3 hstep hown1
          go_wp2_with fail
          go_roundw
          case rel =>
            obtain ⟨⟨P', hP'⟩, hB'⟩ := HH.out
            exact ⟨k + 1, _, P', by omega, by go_num, hP', hB'⟩
          case measure => simp [intOf]; omega
    · obtain rfl : k = xs.length := by omega
      have hdone := hto.out.done (by omega)
      obtain ⟨sa, sc, rfl, _⟩ := hdone.open'
      have k2 := k1.below hbel
      obtain ⟨y0, y1, y2, y3, y4⟩ := k2.cell
      have yf := k2.frozen
      have hend : Hid (∀ wF, wF = set5 wr (w.heap.size + 1) 0 (.int .i64 5) (.int .i64 0) (.string { data := #[] }) (.slice none 0 0) (.slice sa xs.length sc) →
          ValOwn wF (d + 1) (Fresh w wF) (Nd.mk 5 0 ByteArray.empty [] xs : Nd (Tr d)) (.agg #[.int .i64 5, .int .i64 0, .string ByteArray.empty, .slice none 0 0, .slice sa xs.length sc]) ∧ Below w.heap.size w wF) := by
        intro wF hF
        have hlt := k1.lt
        have hsm : ∀ R : Nat → Prop, (∀ b, R b → W0.heap.size ≤ b) → Same R wr wF := fun R hR b hb => by
          rw [hF, set5_block _ _ _ _ _ _ _ _ _ (by have := hR b hb; omega)]
        have hzF : wF.heap.size = wr.heap.size := by rw [hF, set5_size]
        refine ⟨⟨_, _, fun _ => False, fun b => W0.heap.size ≤ b ∧ b < wr.heap.size, rfl, ⟨by show _ ≤ (5 : Int); omega, by show (5 : Int) ≤ _; omega⟩, ⟨by show _ ≤ (0 : Int); omega, by show (0 : Int) ≤ _; omega⟩, by show ByteArray.empty.size < _; decide,
          ⟨by simp, by simp, none, 0, rfl, Or.inl rfl⟩, hdone.moved (hsm _ (fun b hb => hb.1)) (fun _ h => h) (fun P x u hP hx => ValOwn.moved d P P x u hx (hsm P (fun b hb => (hP b hb).1)) (fun _ h => h)), fun _ h => h.elim, fun b hb => ⟨by have := hb.1; have := hW0.size; omega, by rw [hzF]; exact hb.2⟩, fun _ h => h.elim⟩, ?_⟩
        rw [hF]
        exact below_set5 hbw (by omega) _ _ _ _ _ _
      clear hdone hto k2 hv
      go_wp2_with fail
      refine bodyPost_ret (v := .agg #[.int .i64 5, .int .i64 0, .string ByteArray.empty, .slice none 0 0, .slice sa xs.length sc]) (by simp [results, Tryz.results99, go_sem, y0, y1, y2, y3, y4]; rfl) rfl ⟨_, rfl, hend.out _ rfl⟩
end Go.Proofs.YtbcafaomfaainaaGreatDoor
