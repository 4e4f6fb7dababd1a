/- val of maps, and of all trees. -/
import Derived.Test.YtbcafaomfaainaaGreatDoorWValB
import Derived.Test.YtbcafaomfaainaaGreatDoorWLook
import Derived.Test.YtbcafaomfaainaaGreatDoorWKeys
namespace Go.Proofs.YtbcafaomfaainaaGreatDoor
open Go.RowKit Go.Deep

set_option maxRecDepth 100000 in
set_option maxHeartbeats 2000000 in
theorem mapVal_any (d : Nat) (ih : ValC d) (S : Nat → Prop) (keys : List ByteArray) (xs : List (Tr d)) (ps : List (ByteArray × Tr d)) (r : Nat) (es : Array MapEntry) (w : World) (hSr : S r) (hobj : w.heap[r]? = some (.map es ps.length)) (hmap : MapG (TreeG S w d) es ps) (hS : Within S w)
    (hp : ps.Perm (keys.zip xs)) (hkx : keys.length = xs.length) (hkb : keysB keys = true) (hsm : xs.length ≤ 1000) :
    Calls Tryz.prog 74 #[.agg #[.map (some r)]] w (ValQ (d + 1) (Nd.mk 6 0 ByteArray.empty keys xs : Nd (Tr d)) w) := by
  have hrw := hS r hSr
  have hnd := perm_nodup hp hkx hkb
  obtain ⟨W0, hW⟩ : ∃ W0, W0 = (w.alloc (.cells #[.map (some r)] 61)).alloc (.cells #[.int .i64 0, .int .i64 0, .string { data := #[] }, .slice none 0 0, .slice none 0 0] 29) := ⟨_, rfl⟩
  have hW0 : Below w.heap.size w W0 := by rw [hW]; exact below_trans (below_alloc1 _ _) (below_alloc1 _ _)
  have k1 : Blk5 W0 (w.heap.size + 1) 29 (.int .i64 0) (.int .i64 0) (.string { data := #[] }) (.slice none 0 0) (.slice none 0 0) := by
    have := Blk5.new (w.alloc (.cells #[.map (some r)] 61)) 29 (.int .i64 0) (.int .i64 0) (.string { data := #[] }) (.slice none 0 0) (.slice none 0 0)
    rw [World.size_alloc] at this
    rw [hW]
    exact this
  have k1lt := k1.lt
  have x0 : W0.cell? ⟨w.heap.size, 0, none⟩ = some (.map (some r)) := by
    rw [hW, World.cell?_alloc_lt _ _ ⟨w.heap.size, 0, none⟩ (by simp)]
    simp
  have HW := hide hW
  have hkeys := hide (keys_any S (TreeG S w d) ps keys xs r es W0 hSr ((hW0.block r hrw).trans hobj) hmap (hS.later hW0.size) hp hkx hkb hsm)
  clear hW
  go_enter Tryz.func74, Tryz.ntmps74
  go_wp2_with fail
  rw [← HW.out]
  clear HW
  refine hkeys.out.mono ?_
  rintro e w1 ⟨u, rfl, hk1, hb1⟩
  obtain ⟨ka, kc, rfl, hkn⟩ := hk1.open'
  have hB1 := below_trans hW0 hb1
  replace k1 := k1.below hb1
  have x1 := (hb1.cell (p := ⟨w.heap.size, 0, none⟩) (World.block_lt_of_cell? W0 _ x0)).trans x0
  have HK1 := hide hk1
  have hkat := hk1.at
  have hWk : Within (Fresh W0 w1) w1 := Fresh.within _ _
  have hz0 : w.heap.size + 1 < W0.heap.size := k1lt
  have hz1' : W0.heap.size ≤ w1.heap.size := hb1.size
  have HKX := hide hkx
  have hmp : Hid (∀ k s x, keys[k]? = some s → xs[k]? = some x → (s, x) ∈ ps) := fun k s x h1 h2 => hp.mem_iff.2 (List.mem_of_getElem? (List.getElem?_zip_eq_some.2 ⟨h1, h2⟩))
  clear hb1 hW0 hkeys hk1 hp x0 hkx
  go_wp2_with fail
  go_loopw [4, 11] (fun lv i wr => ∃ (k : Nat) (vs : List Value) (P : Nat → Nat → Prop), k ≤ keys.length ∧ i = .int .i64 k ∧ Hid (ValsTo w1.heap.size wr lv xs k vs P) ∧ Below w1.heap.size w1 wr) (fun _ i _ => keys.length - (intOf i).toNat)
  case atStart => exact ⟨0, [], _, Nat.zero_le _, rfl, ValsTo.start _ _ _, Below.refl _ _⟩
  case round =>
    obtain ⟨k, vs, P, hkk, rfl, hto, hbel⟩ := hrel
    have hbw := below_trans hB1 hbel
    by_cases hkl : k < keys.length
    · obtain ⟨kb, ko, s, rfl, _, hs, _, hck⟩ := (hkat.same (hWk.same hbel)).cell hkl
      have hxl : k < xs.length := by have := HKX.out; omega
      have hx : xs[k]? = some xs[k] := List.getElem?_eq_getElem hxl
      generalize xs[k] = x at hx
      obtain ⟨j, u, _, hej, hu, hfirst⟩ := hmap.find hnd (hmp.out k s x hs hx)
      have hobj2 : wr.heap[r]? = some (.map es ps.length) := (hbw.block r hrw).trans hobj
      have hlook := run_mapGet wr r ps.length j es s u j false hobj2 hej hfirst
      have x2 := (hbel.cell (p := ⟨w.heap.size, 0, none⟩) (World.block_lt_of_cell? w1 _ x1)).trans x1
      obtain ⟨v, hm⟩ := ih S x u wr (hu.same (hS.same hbw)) (hS.later hbw.size)
      have HX := hide hx
      have hNs : w1.heap.size ≤ wr.heap.size := hbel.size
      simp only [Bool.false_eq_true, if_false] at hlook
      clear hx hu hbw hs hej hfirst hobj2
      rcases hm with ⟨rfl, hcall⟩ | ⟨rfl, hcall⟩ | ⟨rfl, hcall⟩ | ⟨rfl, hcall⟩ | ⟨rfl, hcall⟩
      all_goals
        have HC := hide hcall
        clear hcall
        go_wp2_with fail
        refine Calls.mono (R := ValQ d x wr) HC.out ?_
        rintro e w2 ⟨u, rfl, hu, hb2⟩
        obtain ⟨v0, v1, v2, v3, v4, v5, v6, v7, v8, rfl⟩ := (ValOwn.at d _ _ _ hu).shape
        have hb3 := hide (below_trans hbel hb2)
        have hown1 := hide ((hto.out.own.kept (row := none) ⟨hb2.os, hb2.tape, hb2.output, hb2.size, fun i hi _ => hb2.block i hi⟩ (by cases u4.ownBlock <;> simp)).alloc (.cells #[.int .i64 v0, .int .i64 v1, .string v2, .slice v3 v4 v5, .slice v6 v7 v8] 29))
        have hN1 : w1.heap.size ≤ w2.heap.size := hb3.out.size
        have hstep : Hid (∀ sv' w3, w3.ownsRow w1.heap.size 29 5 sv' (k + 1) (vs ++ [.int .i64 v0, .int .i64 v1, .string v2, .slice v3 v4 v5, .slice v6 v7 v8]) → (w2.alloc (.cells #[.int .i64 v0, .int .i64 v1, .string v2, .slice v3 v4 v5, .slice v6 v7 v8] 29)).grownBy w3 (u4.ownBlock) →
            (sv'.ownBlock = u4.ownBlock ∨ sv'.ownBlock = some (w2.alloc (.cells #[.int .i64 v0, .int .i64 v1, .string v2, .slice v3 v4 v5, .slice v6 v7 v8] 29)).heap.size) →
            (∃ P', ValsTo w1.heap.size w3 sv' xs (k + 1) (vs ++ [.int .i64 v0, .int .i64 v1, .string v2, .slice v3 v4 v5, .slice v6 v7 v8]) P') ∧ Below w1.heap.size w1 w3) := by
          intro sv' w3 o1 o2 o3
          have hrow : ∀ g, u4.ownBlock = some g → w1.heap.size ≤ g := fun g hg => (hto.out.own.lt g hg).1
          refine ⟨⟨_, hto.out.step hb2 HX.out hu o1 o2 o3 hNs⟩, ?_⟩
          have hb4 := hb3.out
          refine ⟨o2.os.trans hb4.os, o2.tape.trans hb4.tape, o2.output.trans hb4.output, Nat.le_trans hb4.size (Nat.le_trans (by simp) o2.size), fun i hi => ?_⟩
          exact ((o2.block i (by simp; omega) (fun e => by have := hrow i e.symm; omega)).trans (Below.heap_alloc _ _ _ (by omega))).trans (hb4.block i hi)
        obtain ⟨i0, hi, hz0, hz1, hz2⟩ := info_parts Tryz.infoVal
        clear hto hu hb2 hbel HC hck hb3 hlook x2
        go_wp2_with (at_builtin; refine wpList_append_own_at _ rfl _ _ 27 rfl w1.heap.size 29 i0 zeroVal 5 80 Tryz.underlying27 hi hz0 hz1 hz2 rfl (by decide) _ _ _ rfl hown1.out ⟨w2.heap.size, 0, none⟩ 1 1 [.int .i64 v0, .int .i64 v1, .string v2, .slice v3 v4 v5, .slice v6 v7 v8] rfl rfl (cell_five_new _ _ _ _ _ _ _) ?c2 ?c3 ?c4 ?c5 ?_)
        case c2 => intro y hy; simp at hy; rcases hy with rfl | rfl | rfl | rfl | rfl <;> rfl
        case c3 => unfold maxLen; omega
        case c4 => omega
        case c5 => first | omega | (simp; omega)
        · intro sv' w3 o1 o2 _ o3
          have HH := hide (hstep.out sv' w3 o1 o2 (by rw [World.size_alloc]; exact o3))
          clear o1 o2 o3 hstep hown1
          go_wp2_with fail
          go_roundw
          case rel =>
            obtain ⟨⟨P', hP'⟩, hB'⟩ := HH.out
            exact ⟨k + 1, _, P', by omega, by go_num, hP', hB'⟩
          case measure => simp [intOf]; omega
    · obtain rfl : k = keys.length := by omega
      have hkq := HKX.out
      have hto' : ValsTo w1.heap.size wr u4 xs xs.length vs P := by rw [← hkq]; exact hto.out
      have hdone := hto'.done (by omega)
      obtain ⟨sa, sc, rfl, _⟩ := hdone.open'
      have k2 := k1.below hbel
      obtain ⟨y0, y1, y2, y3, y4⟩ := k2.cell
      have yf := k2.frozen
      have hend : Hid (∀ wF, wF = set5 wr (w.heap.size + 1) 0 (.int .i64 6) (.int .i64 0) (.string { data := #[] }) (.slice ka keys.length kc) (.slice sa xs.length sc) →
          ValOwn wF (d + 1) (Fresh w wF) (Nd.mk 6 0 ByteArray.empty keys xs : Nd (Tr d)) (.agg #[.int .i64 6, .int .i64 0, .string ByteArray.empty, .slice ka keys.length kc, .slice sa xs.length sc]) ∧ Below w.heap.size w wF) := by
        intro wF hF
        have hsm : ∀ R : Nat → Prop, (∀ b, R b → W0.heap.size ≤ b) → Same R wr wF := fun R hR b hb => by
          rw [hF, set5_block _ _ _ _ _ _ _ _ _ (by have := hR b hb; omega)]
        have hzF : wF.heap.size = wr.heap.size := by rw [hF, set5_size]
        have hz1 : W0.heap.size ≤ w1.heap.size := hz1'
        have hz2 := hbel.size
        refine ⟨⟨_, _, Fresh W0 w1, fun b => w1.heap.size ≤ b ∧ b < wr.heap.size, rfl, ⟨by show _ ≤ (6 : Int); omega, by show (6 : Int) ≤ _; omega⟩, ⟨by show _ ≤ (0 : Int); omega, by show (0 : Int) ≤ _; omega⟩, by show ByteArray.empty.size < _; decide,
          ((StrsOwn.moved HK1.out (hWk.same hbel) (fun _ h => h)).moved (hsm _ (fun b hb => hb.1)) (fun _ h => h)), hdone.moved (hsm _ (fun b hb => by have := hb.1; omega)) (fun _ h => h) (fun P x u hP hx => ValOwn.moved d P P x u hx (hsm P (fun b hb => by have := (hP b hb).1; omega)) (fun _ h => h)),
          fun b hb => ⟨by have := hb.1; omega, by have := hb.2; omega⟩, fun b hb => ⟨by have := hb.1; omega, by have := hb.2; omega⟩, fun b hb hb' => by have := hb.2; have := hb'.1; omega⟩, ?_⟩
        rw [hF]
        exact below_set5 hbw (by omega) _ _ _ _ _ _
      clear hdone hto hto' k2 hkq
      go_wp2_with fail
      refine bodyPost_ret (v := .agg #[.int .i64 6, .int .i64 0, .string ByteArray.empty, .slice ka keys.length kc, .slice sa xs.length sc]) (by simp [results, Tryz.results74, go_sem, y0, y1, y2, y3, y4]; rfl) rfl ⟨_, rfl, hend.out _ rfl⟩

theorem val_any : ∀ (d : Nat), ValC d
  | 0 => fun _ _ _ _ h => h.elim
  | d + 1 => by
    intro S t u w hu hS
    have ih := val_any d
    rcases hu with ⟨k, h1, rfl, rfl⟩ | ⟨n, h1, rfl, rfl⟩ | ⟨s, h1, rfl, rfl⟩ | ⟨xs, sv, h1, rfl, rfl, hr⟩ | ⟨keys, xs, ps, r, es, h1, h2, h3, h4, rfl, rfl, hr, hm, he⟩
    · exact ⟨_, Or.inl ⟨rfl, bareVal_any d k w h1⟩⟩
    · exact ⟨_, Or.inr (Or.inl ⟨rfl, numVal_any d n w h1⟩)⟩
    · exact ⟨_, Or.inr (Or.inr (Or.inl ⟨rfl, strVal_any d s w h1⟩))⟩
    · exact ⟨_, Or.inr (Or.inr (Or.inr (Or.inl ⟨rfl, rowVal_any d ih S xs sv w hr hS h1⟩)))⟩
    · exact ⟨_, Or.inr (Or.inr (Or.inr (Or.inr ⟨rfl, mapVal_any d ih S keys xs ps r es w hr hm he hS h4 h3 h2 h1⟩)))⟩
end Go.Proofs.YtbcafaomfaainaaGreatDoor
