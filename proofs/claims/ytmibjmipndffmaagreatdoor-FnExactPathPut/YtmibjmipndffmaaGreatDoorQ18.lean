/- Texts of the proof, put together by program: WPathM. -/
import Derived.Test.YtmibjmipndffmaaGreatDoorQ12
import Derived.Test.YtmibjmipndffmaaGreatDoorQ8
import Derived.Test.YtmibjmipndffmaaGreatDoorQ16
import Derived.Test.YtmibjmipndffmaaGreatDoorQ17
import Derived.Test.YtmibjmipndffmaaGreatDoorQ6
import Derived.Deep.RegionHeld3
import Derived.Deep.DeepMust
/- l3Put of the model. -/
namespace Go.Proofs.YtmibjmipndffmaaGreatDoor
open Go.RowKit Go.Deep

theorem blk_set5' {w : World} {b : Nat} {T : TypeId} {c0 c1 c2 c3 c4 : Value} (h : Blk5 w b T c0 c1 c2 c3 c4) (v0 v1 v2 v3 v4 : Value) : Blk5 (set5 w b 0 v0 v1 v2 v3 v4) b T v0 v1 v2 v3 v4 := h.set5 v0 v1 v2 v3 v4
theorem stepsAt_nil (S : Nat → Prop) (w : World) (a : Option Addr) (c : Nat) : StepsAt S w (.slice a 0 c) [] := ⟨by simp, (fun p hp => by cases hp), a, c, rfl, Or.inl rfl⟩
theorem StepsAt.tail {S : Nat → Prop} {w : World} {eb eo n cap : Nat} {p : Stp} {r : List Stp} (h : StepsAt S w (.slice (some ⟨eb, eo, none⟩) n cap) (p :: r)) (c' : Nat) : StepsAt S w (.slice (some ⟨eb, eo + 3, none⟩) r.length c') r := by
  obtain ⟨h1, h2, a, c, hv, h3⟩ := h
  refine ⟨by simp at h1; omega, fun q hq => h2 q (List.mem_cons_of_mem _ hq), _, _, rfl, ?_⟩
  rcases h3 with h3 | ⟨b, o, hB, ha, hc⟩
  · cases h3
  · simp at hv
    obtain ⟨e1, _, _⟩ := hv
    rw [ha] at e1
    simp at e1
    obtain ⟨rfl, rfl⟩ := e1
    refine Or.inr ⟨eb, eo + 3, hB, rfl, fun i q hq => ?_⟩
    have := hc (i + 1) q (by simpa using hq)
    rw [show eo + (i + 1) * 3 = eo + 3 + i * 3 by omega] at this
    exact this
theorem pathOk_tail {p : Stp} {r : List Stp} (h : pathOk (p :: r) = true) : pathOk r = true := by
  unfold pathOk at h ⊢
  simp at h ⊢
  exact ⟨fun x hx => h.1.2 x hx, by omega⟩
theorem nodes_fit {d : Nat} {t : Tr d} (h : okT d t = true) : (nodes d t : Int) ≤ 4194304 := by have := nodes_ok h; omega
/-- Nothing that was there has turned, but for one block. -/
def Off (rb : Nat) (w W : World) : Prop := ∀ c, c < w.heap.size → c ≠ rb → W.heap[c]? = w.heap[c]?
theorem Off.cell {rb : Nat} {w W : World} (h : Off rb w W) {p : Addr} (hc : p.block < w.heap.size) (hn : p.block ≠ rb) : W.cell? p = w.cell? p := by
  unfold World.cell?
  rw [h _ hc hn]
theorem offChain {rb : Nat} {w W : World} (h : Off rb w W) (v0 v1 v2 v3 v4 : Value) : Off rb w (((((W.setCell ⟨rb, 0, none⟩ v0).setCell ⟨rb, 1, none⟩ v1).setCell ⟨rb, 2, none⟩ v2).setCell ⟨rb, 3, none⟩ v3).setCell ⟨rb, 4, none⟩ v4) :=
  fun c hc hn => (set5_block W rb 0 v0 v1 v2 v3 v4 _ hn).trans (h c hc hn)
theorem size_after (w : World) (o : Obj) : w.heap.size < (w.alloc o).heap.size := by rw [World.size_alloc]; exact Nat.lt_succ_self _
theorem sub_set5 {S3 : Nat → Prop} {W' wC : World} {D : Nat} {Y : Tr D} {u : Value} {n : Nat} (hv : ValAt (fun c => S3 c ∨ Fresh W' wC c) wC D Y u) (hS3 : ∀ c, S3 c → c < n) (hn : n < W'.heap.size) (v0 v1 v2 v3 v4 : Value) : ValAt (fun c => S3 c ∨ (n ≤ c ∧ c < (set5 wC n 0 v0 v1 v2 v3 v4).heap.size)) (set5 wC n 0 v0 v1 v2 v3 v4) D Y u :=
  ValAt.moved (fun c hc => set5_block _ _ _ _ _ _ _ _ _ (by
    rcases hc with h | h
    · have := hS3 c h; omega
    · have := h.1; omega)) (fun c hc => by
    rcases hc with h | h
    · exact Or.inl h
    · exact Or.inr ⟨by have := h.1; omega, by rw [set5_size]; exact h.2⟩) D Y u hv
theorem sub_alloc {S3 : Nat → Prop} {w1 W' wC : World} {D : Nat} {Y : Tr D} {u : Value} (hv : ValAt (fun c => S3 c ∨ Fresh W' wC c) wC D Y u) (hS3 : ∀ c, S3 c → c < w1.heap.size) (hb : Below w1.heap.size w1 wC) (hn : w1.heap.size ≤ W'.heap.size) (o : Obj) : ValAt (fun c => S3 c ∨ (w1.heap.size ≤ c ∧ c < (wC.alloc o).heap.size)) (wC.alloc o) D Y u := by
  have hz := hb.size
  refine ValAt.moved (fun c hc => Below.heap_alloc _ _ _ ?_) (fun c hc => ?_) D Y u hv
  · rcases hc with h | h
    · have := hS3 c h; omega
    · exact h.2
  · rcases hc with h | h
    · exact Or.inl h
    · exact Or.inr ⟨Nat.le_trans hn h.1, by rw [World.size_alloc]; have := h.2; omega⟩
set_option maxRecDepth 100000 in
set_option maxHeartbeats 16000000 in
theorem l3Put_any (d : Nat) (S3 : Nat → Prop) (x : Tr (d + 2)) (xv : Value) (hxok : okT (d + 2) x = true) : ∀ (k : Nat) (S : Nat → Prop) (t : Tr (d + 2)) (v : Value) (S' : Nat → Prop) (ps : List Stp) (v' : Value) (w : World), ps.length = k → ValAt S3 w (d + 2) x xv → Within S3 w → ValAt S w (d + 2) t v → Within S w → StepsAt S' w v' ps → Within S' w → (∀ a n c, v' = .slice a n c → n ≤ c) → okT (d + 2) t = true → pathOk ps = true →
    Calls Tryz.prog 48 #[v, v', xv] w fun e w' => ∃ u, e = .returned (.tuple #[u, .bool (putT d x k t ps).2]) ∧ ValAt (fun b => S3 b ∨ Fresh w w' b) w' (d + k + 2) (putT d x k t ps).1 u ∧ Below w.heap.size w w' := by
  intro k
  induction k with
  | zero =>
    intro S t v S' ps v' w hlen hx hS3 hv hS hv' hS' hcs hok hps
    obtain ⟨c0, c1, c2, c3, c4, c5, c6, c7, c8, rfl⟩ := hx.shape
    obtain ⟨q0, q1, q2, q3, q4, q5, q6, q7, q8, rfl⟩ := hv.shape
    obtain ⟨a, cap, rfl, hl⟩ := hv'.open'
    rw [hlen]
    have hb : Below w.heap.size w (((w.alloc (.cells #[.int .i64 q0, .int .i64 q1, .string q2, .slice q3 q4 q5, .slice q6 q7 q8] 26)).alloc (.cells #[.int .i64 c0, .int .i64 c1, .string c2, .slice c3 c4 c5, .slice c6 c7 c8] 26)).alloc (.cells #[.int .i64 c0, .int .i64 c1, .string c2, .slice c3 c4 c5, .slice c6 c7 c8] 26)) := below_trans (below_trans (below_alloc1 _ _) (below_alloc1 _ _)) (below_alloc1 _ _)
    have HX := hide (And.intro (ValAt.mono (hx.same (hS3.same hb)) (S' := fun b => S3 b ∨ Fresh w (((w.alloc (.cells #[.int .i64 q0, .int .i64 q1, .string q2, .slice q3 q4 q5, .slice q6 q7 q8] 26)).alloc (.cells #[.int .i64 c0, .int .i64 c1, .string c2, .slice c3 c4 c5, .slice c6 c7 c8] 26)).alloc (.cells #[.int .i64 c0, .int .i64 c1, .string c2, .slice c3 c4 c5, .slice c6 c7 c8] 26)) b) (fun b hb => Or.inl hb)) hb)
    clear hb hx hv hv'
    go_enter Tryz.func48, Tryz.ntmps48
    go_wp2_with fail
    exact bodyPost_ret (v := .tuple #[.agg #[.int .i64 c0, .int .i64 c1, .string c2, .slice c3 c4 c5, .slice c6 c7 c8], .bool true]) (by simp [results, Tryz.results48, go_sem]) rfl ⟨_, rfl, HX.out.1, HX.out.2⟩
  | succ k ih =>
    intro S t v S' ps v' w hlen hx hS3 hv hS hv' hS' hcs hok hps
    obtain ⟨c0, c1, c2, c3, c4, c5, c6, c7, c8, rfl⟩ := hx.shape
    obtain ⟨q0, q1, q2, q3, q4, q5, q6, q7, q8, rfl⟩ := hv.shape
    obtain ⟨a, cap, rfl, hl⟩ := hv'.open'
    have hcap : ps.length ≤ cap := hcs _ _ _ rfl
    obtain ⟨p, r, hpr⟩ : ∃ p r, ps = p :: r := by
      cases ps with
      | nil => cases hlen
      | cons p r => exact ⟨p, r, rfl⟩
    have hlr : r.length = k := by rw [hpr] at hlen; simpa using hlen
    have hp0 : ps[0]? = some p := by rw [hpr]; rfl
    have hst := stpOk_of hps hp0
    have hrok : pathOk r = true := by rw [hpr] at hps; exact pathOk_tail hps
    obtain ⟨W0, hW⟩ : ∃ W0, W0 = (((w.alloc (.cells #[.int .i64 q0, .int .i64 q1, .string q2, .slice q3 q4 q5, .slice q6 q7 q8] 26)).alloc (.cells #[.int .i64 c0, .int .i64 c1, .string c2, .slice c3 c4 c5, .slice c6 c7 c8] 26)).alloc (.cells #[.int .i64 0, .int .i64 0, .string { data := #[] }, .slice none 0 0, .slice none 0 0] 26)) := ⟨_, rfl⟩
    have hW0 : Below w.heap.size w W0 := by rw [hW]; exact below_trans (below_trans (below_alloc1 _ _) (below_alloc1 _ _)) (below_alloc1 _ _)
    have k0 : Blk5 W0 w.heap.size 26 (.int .i64 q0) (.int .i64 q1) (.string q2) (.slice q3 q4 q5) (.slice q6 q7 q8) := by rw [hW]; exact ((Blk5.new w _ _ _ _ _ _).alloc _).alloc _
    have k1 : Blk5 W0 (w.heap.size + 1) 26 (.int .i64 c0) (.int .i64 c1) (.string c2) (.slice c3 c4 c5) (.slice c6 c7 c8) := by
      have := Blk5.new (w.alloc (.cells #[.int .i64 q0, .int .i64 q1, .string q2, .slice q3 q4 q5, .slice q6 q7 q8] 26)) 26 (.int .i64 c0) (.int .i64 c1) (.string c2) (.slice c3 c4 c5) (.slice c6 c7 c8)
      rw [World.size_alloc] at this
      rw [hW]
      exact this.alloc _
    have k2 : Blk5 W0 (w.heap.size + 1 + 1) 26 (.int .i64 0) (.int .i64 0) (.string { data := #[] }) (.slice none 0 0) (.slice none 0 0) := by
      have := Blk5.new ((w.alloc (.cells #[.int .i64 q0, .int .i64 q1, .string q2, .slice q3 q4 q5, .slice q6 q7 q8] 26)).alloc (.cells #[.int .i64 c0, .int .i64 c1, .string c2, .slice c3 c4 c5, .slice c6 c7 c8] 26)) 26 (.int .i64 0) (.int .i64 0) (.string { data := #[] }) (.slice none 0 0) (.slice none 0 0)
      rw [World.size_alloc, World.size_alloc] at this
      rw [hW]
      exact this
    have hlt := k2.lt
    have hps0 : (0 : Nat) < ps.length := by omega
    have hpi : (0 : Int) < (ps.length : Int) := by omega
    have hp1 : (1 : Int) ≤ (ps.length : Int) := by omega
    have hq0 : ((ps.length : Int) == 0) = false := beq_eq_false_iff_ne.2 (by omega)
    have HLR := hide (And.intro hlen hlr)
    clear hlen hlr
    obtain ⟨eb, eo, p', rfl, hbS, hp', hfit, e0, e1, e2⟩ := (hv'.same (hS'.same hW0)).cell hps0
    rw [hp0] at hp'
    obtain rfl : p = p' := Option.some.inj hp'
    simp only [Nat.zero_mul, Nat.add_zero] at e0 e1 e2
    have hl0 := k0.lt
    have hl1 : eb < W0.heap.size := (hS'.later hW0.size) eb hbS
    obtain ⟨x0, x1, x2, x3, x4⟩ := k0.cell
    have HW := hide hW
    have HV' := hide hv'
    have HX := hide hx
    have HHV := hide hv
    have K0 := hide k0
    have K1 := hide k1
    have K2 := hide k2
    have HPR := hide hpr
    have HB0 := hide hW0
    have KK : Hid (∀ W', Below W0.heap.size W0 W' → W'.cell? ⟨w.heap.size, 0, none⟩ = some (.int .i64 q0) ∧ W'.cell? ⟨w.heap.size, 1, none⟩ = some (.int .i64 q1) ∧ W'.cell? ⟨w.heap.size, 2, none⟩ = some (.string q2) ∧ W'.cell? ⟨w.heap.size, 3, none⟩ = some (.slice q3 q4 q5) ∧ W'.cell? ⟨w.heap.size, 4, none⟩ = some (.slice q6 q7 q8) ∧ W'.cell? ⟨eb, eo, none⟩ = some (.bool p.map) ∧ W'.cell? ⟨eb, eo + 1, none⟩ = some (.string p.key) ∧ W'.cell? ⟨eb, eo + 2, none⟩ = some (.int .i64 p.place)) := fun W' hW => ⟨(hW.cell (p := ⟨w.heap.size, 0, none⟩) hl0).trans x0, (hW.cell (p := ⟨w.heap.size, 1, none⟩) hl0).trans x1, (hW.cell (p := ⟨w.heap.size, 2, none⟩) hl0).trans x2, (hW.cell (p := ⟨w.heap.size, 3, none⟩) hl0).trans x3, (hW.cell (p := ⟨w.heap.size, 4, none⟩) hl0).trans x4, (hW.cell (p := ⟨eb, eo, none⟩) hl1).trans e0, (hW.cell (p := ⟨eb, eo + 1, none⟩) hl1).trans e1, (hW.cell (p := ⟨eb, eo + 2, none⟩) hl1).trans e2⟩
    have hcall : Hid (∀ W', Below W0.heap.size W0 W' → Calls Tryz.prog 95 #[.agg #[.int .i64 q0, .int .i64 q1, .string q2, .slice q3 q4 q5, .slice q6 q7 q8], .agg #[.bool p.map, .string p.key, .int .i64 p.place]] W' fun e w' => ∃ (u0 u1 : Int) (u2 : ByteArray) (u3 : Option Addr) (u4 u5 : Nat) (u6 : Option Addr) (u7 u8 : Nat), e = .returned (.tuple #[.agg #[.int .i64 u0, .int .i64 u1, .string u2, .slice u3 u4 u5, .slice u6 u7 u8], .bool (stepT d t p).2]) ∧ ValAt S w' (d + 2) (stepT d t p).1 (.agg #[.int .i64 u0, .int .i64 u1, .string u2, .slice u3 u4 u5, .slice u6 u7 u8]) ∧ Below W'.heap.size W' w') := by
      intro W' hW'
      refine (l3One_any d S t _ p W' (hv.same (hS.same (below_trans hW0 hW'))) (hS.later (below_trans hW0 hW').size) hfit hok hst).mono ?_
      rintro e w1 ⟨u, rfl, hu, hb1⟩
      obtain ⟨u0, u1, u2, u3, u4, u5, u6, u7, u8, rfl⟩ := hu.shape
      exact ⟨_, _, _, _, _, _, _, _, _, rfl, hu, hb1⟩
    have hSW : Within S W0 := hS.later hW0.size
    have HFIT := hide hfit
    clear hW hv' hx hv k0 k1 k2 hpr hW0 hcs hp' hfit hp0 hps
    go_enter Tryz.func48, Tryz.ntmps48
    go_upto_region 3 with fail
    rw [← HW.out]
    go_cut [8, 9] (fun pv bv wc => ∃ b u0 u1 u2 u3 u4 u5 u6 u7 u8, pv = .pointer (some ⟨b, 0, none⟩) ∧ bv = .bool (stepT d t p).2 ∧ Hid (Blk5 wc b 26 (.int .i64 u0) (.int .i64 u1) (.string u2) (.slice u3 u4 u5) (.slice u6 u7 u8) ∧ ValAt S wc (d + 2) (stepT d t p).1 (.agg #[.int .i64 u0, .int .i64 u1, .string u2, .slice u3 u4 u5, .slice u6 u7 u8]) ∧ Below W0.heap.size W0 wc ∧ W0.heap.size ≤ b))
    case first =>
      have hle : W0.heap.size ≤ W0.heap.size := Nat.le_refl _
      have hDr : Below W0.heap.size W0 W0.drew := ⟨rfl, rfl, rfl, Nat.le_refl _, fun _ _ => rfl⟩
      have hDa := below_drew1 (below_alloc1 W0 (.cells #[.int .i64 0, .int .i64 0, .string { data := #[] }, .slice none 0 0, .slice none 0 0] 26))
      have hDb : Below W0.heap.size W0 (W0.drew.alloc (.cells #[.int .i64 0, .int .i64 0, .string { data := #[] }, .slice none 0 0, .slice none 0 0] 26)) := below_trans hDr (below_alloc1 _ _)
      have ih0 : True := trivial
      clear ih HW HV' HX HHV K0 K1 K2 HPR HB0
      go_region_held3 (fun w' => w'.cell? ⟨w.heap.size, 0, none⟩ = some (.int .i64 q0) ∧ w'.cell? ⟨w.heap.size, 1, none⟩ = some (.int .i64 q1) ∧ w'.cell? ⟨w.heap.size, 2, none⟩ = some (.string q2) ∧ w'.cell? ⟨w.heap.size, 3, none⟩ = some (.slice q3 q4 q5) ∧ w'.cell? ⟨w.heap.size, 4, none⟩ = some (.slice q6 q7 q8) ∧ w'.cell? ⟨eb, eo, none⟩ = some (.bool p.map) ∧ w'.cell? ⟨eb, eo + 1, none⟩ = some (.string p.key) ∧ w'.cell? ⟨eb, eo + 2, none⟩ = some (.int .i64 p.place))
        ((refine KK.out _ ?_; with_reducible assumption))
        ((go_at_call 95; refine (hcall.out _ ?_).mono ?_; (first | exact hDr | exact hDa | exact hDb); rintro eC wC ⟨u0, u1, u2, u3, u4, u5, u6, u7, u8, rfl, hv', hb'⟩; (first | with_reducible (have bC := below_trans hDr hb') | with_reducible (have bC := below_trans hDa hb') | with_reducible (have bC := below_trans hDb hb')); have bCa := below_trans bC (below_alloc1 wC (.cells #[.int .i64 0, .int .i64 0, .string { data := #[] }, .slice none 0 0, .slice none 0 0] 26)); have bCp := below_trans bC (below_alloc1 wC (.cells #[.int .i64 u0, .int .i64 u1, .string u2, .slice u3 u4 u5, .slice u6 u7 u8] 26)); (first | with_reducible (have zC := Blk5.below (newDrew W0 26 (.int .i64 0) (.int .i64 0) (.string { data := #[] }) (.slice none 0 0) (.slice none 0 0)) hb'; obtain ⟨y0, y1, y2, y3, y4⟩ := zC.cell; have yf := zC.frozen) | with_reducible (have zC := Blk5.below (Blk5.new W0.drew 26 (.int .i64 0) (.int .i64 0) (.string { data := #[] }) (.slice none 0 0) (.slice none 0 0)) hb'; obtain ⟨y0, y1, y2, y3, y4⟩ := zC.cell; have yf := zC.frozen) | skip); (first | have bX := belowChain bC zC (Nat.le_refl _) (.int .i64 u0) (.int .i64 u1) (.string u2) (.slice u3 u4 u5) (.slice u6 u7 u8) | skip)))
      all_goals go_wp2_with fail
      all_goals go_meet
      all_goals (first | (have hF := And.intro (blk_set5' zC (.int .i64 u0) (.int .i64 u1) (.string u2) (.slice u3 u4 u5) (.slice u6 u7 u8)) (And.intro (ValAt.same hv' (w' := set5 wC W0.heap.size 0 (.int .i64 u0) (.int .i64 u1) (.string u2) (.slice u3 u4 u5) (.slice u6 u7 u8)) (fun b hb => set5_block _ _ _ _ _ _ _ _ _ (by have := hSW b hb; omega))) (And.intro (below_set5 bC (Nat.le_refl _) 0 (.int .i64 u0) (.int .i64 u1) (.string u2) (.slice u3 u4 u5) (.slice u6 u7 u8)) (Nat.le_refl W0.heap.size))); unfold set5 at hF; simp only [Nat.zero_add] at hF; with_reducible exact ⟨_, u0, u1, u2, u3, u4, u5, u6, u7, u8, rfl, rfl, hide hF⟩) | with_reducible exact ⟨_, u0, u1, u2, u3, u4, u5, u6, u7, u8, rfl, rfl, hide (And.intro (Blk5.new wC 26 (.int .i64 u0) (.int .i64 u1) (.string u2) (.slice u3 u4 u5) (.slice u6 u7 u8)) (And.intro (hv'.same ((hSW.later bC.size).same (below_alloc1 _ _))) (And.intro bCp bC.size)))⟩)
    case rest =>
      rename World => w1
      obtain ⟨b, u0, u1, u2, u3, u4, u5, u6, u7, u8, rfl, rfl, hc⟩ := hcut
      have KB := hide hc.out.1
      have HU := hide hc.out.2.1
      have hb1 := hc.out.2.2.1
      have hbl := hc.out.2.2.2
      have hs1 := hb1.size
      have HB1 := hide (below_trans HB0.out hb1)
      have K0' := hide (K0.out.below hb1)
      have K1' := hide (K1.out.below hb1)
      have K2' := hide (K2.out.below hb1)
      have HE : Hid (w1.cell? ⟨eb, eo, none⟩ = some (.bool p.map) ∧ w1.cell? ⟨eb, eo + 1, none⟩ = some (.string p.key) ∧ w1.cell? ⟨eb, eo + 2, none⟩ = some (.int .i64 p.place)) := ⟨(hb1.cell (p := ⟨eb, eo, none⟩) hl1).trans e0, (hb1.cell (p := ⟨eb, eo + 1, none⟩) hl1).trans e1, (hb1.cell (p := ⟨eb, eo + 2, none⟩) hl1).trans e2⟩
      clear hc KK hcall K0 K1 K2 x0 x1 x2 x3 x4 e0 e1 e2 HB0 hb1 HW
      cases ho : (stepT d t p).2 with
      | false =>
        have hz : Hid (putT d x (k + 1) t ps = (zeroT (d + k + 2), false)) := by
          show _ = _
          rw [HPR.out]
          exact putT_off ho
        have hno : Hid (∀ wF, wF = set5 w1 (w.heap.size + 1 + 1) 0 (.int .i64 0) (.int .i64 0) (.string { data := #[] }) (.slice none 0 0) (.slice none 0 0) → Below w.heap.size w wF) := by
          intro wF hF
          rw [hF]
          exact below_set5 HB1.out (by omega) _ _ _ _ _ _
        obtain ⟨y0, y1, y2, y3, y4⟩ := K2'.out.cell
        have yf := K2'.out.frozen
        clear ih KB HU HB1 K0' K1' K2' HE HV' HX HHV HPR HLR
        go_wp2_with fail
        rw [hz.out]
        refine bodyPost_ret (v := .tuple #[zeroVal, .bool false]) (by simp [results, Tryz.results48, go_sem, zeroVal, y0, y1, y2, y3, y4]; rfl) rfl ⟨_, rfl, zeroAt (d + k + 2) _ _, hno.out _ rfl⟩
      | true =>
        obtain ⟨⟨Y, o2⟩, hY⟩ : ∃ y, Hid (putT d x k (stepT d t p).1 r = y) := ⟨_, rfl⟩
        have hwl : w.heap.size ≤ w1.heap.size := HB1.out.size
        have hcallP : Hid (∀ (a' : Option Addr) (n' c' : Nat) W', n' = r.length → Below w1.heap.size w1 W' → (StepsAt S' W' (.slice a' n' c') r) → n' ≤ c' → Calls Tryz.prog 48 #[.agg #[.int .i64 u0, .int .i64 u1, .string u2, .slice u3 u4 u5, .slice u6 u7 u8], .slice a' n' c', .agg #[.int .i64 c0, .int .i64 c1, .string c2, .slice c3 c4 c5, .slice c6 c7 c8]] W' fun e w' => ∃ (v0 v1 : Int) (v2 : ByteArray) (v3 : Option Addr) (v4 v5 : Nat) (v6 : Option Addr) (v7 v8 : Nat), e = .returned (.tuple #[.agg #[.int .i64 v0, .int .i64 v1, .string v2, .slice v3 v4 v5, .slice v6 v7 v8], .bool o2]) ∧ ValAt (fun c => S3 c ∨ Fresh W' w' c) w' (d + k + 2) Y (.agg #[.int .i64 v0, .int .i64 v1, .string v2, .slice v3 v4 v5, .slice v6 v7 v8]) ∧ Below W'.heap.size W' w') := by
          intro a' n' c' W' hn hW' hs hc'
          have h := ih S (stepT d t p).1 _ S' r _ W' HLR.out.2 (HX.out.same (hS3.same (below_trans HB1.out hW'))) (hS3.later (below_trans HB1.out hW').size) (HU.out.same ((hS.later hwl).same hW')) (hS.later (below_trans HB1.out hW').size) hs (hS'.later (below_trans HB1.out hW').size) (fun a n c e => by cases e; exact hc') (okT_step d t p) hrok
          rw [hY.out] at h
          dsimp only at h
          refine h.mono ?_
          rintro e w2 ⟨u, rfl, hu, hb2⟩
          obtain ⟨v0, v1, v2, v3, v4, v5, v6, v7, v8, rfl⟩ := hu.shape
          exact ⟨_, _, _, _, _, _, _, _, _, rfl, hu, hb2⟩
        obtain ⟨z0, z1, z2, z3, z4⟩ := KB.out.cell
        obtain ⟨x0, x1, x2, x3, x4⟩ := K1'.out.cell
        have hbl1 : b < w1.heap.size := KB.out.lt
        have hxl1 : w.heap.size + 1 < w1.heap.size := K1'.out.lt
        have KK2 : Hid (∀ W', Below w1.heap.size w1 W' → (W'.cell? ⟨b, 0, none⟩ = some (.int .i64 u0) ∧ W'.cell? ⟨b, 1, none⟩ = some (.int .i64 u1) ∧ W'.cell? ⟨b, 2, none⟩ = some (.string u2) ∧ W'.cell? ⟨b, 3, none⟩ = some (.slice u3 u4 u5) ∧ W'.cell? ⟨b, 4, none⟩ = some (.slice u6 u7 u8)) ∧ W'.cell? ⟨(w.heap.size + 1), 0, none⟩ = some (.int .i64 c0) ∧ W'.cell? ⟨(w.heap.size + 1), 1, none⟩ = some (.int .i64 c1) ∧ W'.cell? ⟨(w.heap.size + 1), 2, none⟩ = some (.string c2) ∧ W'.cell? ⟨(w.heap.size + 1), 3, none⟩ = some (.slice c3 c4 c5) ∧ W'.cell? ⟨(w.heap.size + 1), 4, none⟩ = some (.slice c6 c7 c8)) := fun W' hW => ⟨⟨(hW.cell (p := ⟨b, 0, none⟩) hbl1).trans z0, (hW.cell (p := ⟨b, 1, none⟩) hbl1).trans z1, (hW.cell (p := ⟨b, 2, none⟩) hbl1).trans z2, (hW.cell (p := ⟨b, 3, none⟩) hbl1).trans z3, (hW.cell (p := ⟨b, 4, none⟩) hbl1).trans z4⟩, (hW.cell (p := ⟨w.heap.size + 1, 0, none⟩) hxl1).trans x0, (hW.cell (p := ⟨w.heap.size + 1, 1, none⟩) hxl1).trans x1, (hW.cell (p := ⟨w.heap.size + 1, 2, none⟩) hxl1).trans x2, (hW.cell (p := ⟨w.heap.size + 1, 3, none⟩) hxl1).trans x3, (hW.cell (p := ⟨w.heap.size + 1, 4, none⟩) hxl1).trans x4⟩
        clear ih HU z0 z1 z2 z3 z4 x0 x1 x2 x3 x4
        go_upto_region 6 with fail
        go_cut [10, 11] (fun pv bv wc => ∃ b2 v0 v1 v2 v3 v4 v5 v6 v7 v8, pv = .pointer (some ⟨b2, 0, none⟩) ∧ bv = .bool o2 ∧ Hid (Blk5 wc b2 26 (.int .i64 v0) (.int .i64 v1) (.string v2) (.slice v3 v4 v5) (.slice v6 v7 v8) ∧ ValAt (fun c => S3 c ∨ (w1.heap.size ≤ c ∧ c < wc.heap.size)) wc (d + k + 2) Y (.agg #[.int .i64 v0, .int .i64 v1, .string v2, .slice v3 v4 v5, .slice v6 v7 v8]) ∧ Below w1.heap.size w1 wc ∧ w1.heap.size ≤ b2))
        case first =>
          have hDr : Below w1.heap.size w1 w1.drew := ⟨rfl, rfl, rfl, Nat.le_refl _, fun _ _ => rfl⟩
          have hDa := below_drew1 (below_alloc1 w1 (.cells #[.int .i64 0, .int .i64 0, .string { data := #[] }, .slice none 0 0, .slice none 0 0] 26))
          have hDb : Below w1.heap.size w1 (w1.drew.alloc (.cells #[.int .i64 0, .int .i64 0, .string { data := #[] }, .slice none 0 0, .slice none 0 0] 26)) := below_trans hDr (below_alloc1 _ _)
          have hS3l : ∀ c, S3 c → c < w1.heap.size := fun c hc => Nat.lt_of_lt_of_le (hS3 c hc) hwl
          have HLN : Hid (ps.length - 1 = r.length) := by have := HLR.out.1; have := HLR.out.2; show _ = _; omega
          by_cases hc1 : cap = 1
          · subst hc1
            have hcc : Hid (ps.length - 1 ≤ 0) := by show _ ≤ _; omega
            have HSUB : Hid (∀ W', Below w1.heap.size w1 W' → StepsAt S' W' (.slice (some ⟨eb, eo, none⟩) 0 0) r) := by
              intro W' _
              have h0 : r.length = 0 := by have := HLN.out; have := hcc.out; omega
              rw [List.eq_nil_of_length_eq_zero h0]
              exact stepsAt_nil _ _ _ _
            have HQ : Hid (∀ W', Below w1.heap.size w1 W' → Calls Tryz.prog 48 #[.agg #[.int .i64 u0, .int .i64 u1, .string u2, .slice u3 u4 u5, .slice u6 u7 u8], .slice (some ⟨eb, eo, none⟩) 0 0, .agg #[.int .i64 c0, .int .i64 c1, .string c2, .slice c3 c4 c5, .slice c6 c7 c8]] W' fun e w' => ∃ (v0 v1 : Int) (v2 : ByteArray) (v3 : Option Addr) (v4 v5 : Nat) (v6 : Option Addr) (v7 v8 : Nat), e = .returned (.tuple #[.agg #[.int .i64 v0, .int .i64 v1, .string v2, .slice v3 v4 v5, .slice v6 v7 v8], .bool o2]) ∧ ValAt (fun c => S3 c ∨ Fresh W' w' c) w' (d + k + 2) Y (.agg #[.int .i64 v0, .int .i64 v1, .string v2, .slice v3 v4 v5, .slice v6 v7 v8]) ∧ Below W'.heap.size W' w') := fun W' h => hcallP.out _ _ _ W' (by have := HLN.out; have := hcc.out; omega) h (HSUB.out W' h) (Nat.le_refl 0)
            clear HV' HX HHV K0' K1' K2' HE HPR HLR KB HB1 hcallP HSUB
            go_region_held3 (fun w' => (w'.cell? ⟨b, 0, none⟩ = some (.int .i64 u0) ∧ w'.cell? ⟨b, 1, none⟩ = some (.int .i64 u1) ∧ w'.cell? ⟨b, 2, none⟩ = some (.string u2) ∧ w'.cell? ⟨b, 3, none⟩ = some (.slice u3 u4 u5) ∧ w'.cell? ⟨b, 4, none⟩ = some (.slice u6 u7 u8)) ∧ w'.cell? ⟨(w.heap.size + 1), 0, none⟩ = some (.int .i64 c0) ∧ w'.cell? ⟨(w.heap.size + 1), 1, none⟩ = some (.int .i64 c1) ∧ w'.cell? ⟨(w.heap.size + 1), 2, none⟩ = some (.string c2) ∧ w'.cell? ⟨(w.heap.size + 1), 3, none⟩ = some (.slice c3 c4 c5) ∧ w'.cell? ⟨(w.heap.size + 1), 4, none⟩ = some (.slice c6 c7 c8))
              ((refine KK2.out _ ?_; with_reducible assumption))
              ((go_at_call 48; refine (HQ.out _ ?_).mono ?_; (first | exact hDr | exact hDa | exact hDb); rintro eC wC ⟨v0, v1, v2, v3, v4, v5, v6, v7, v8, rfl, hv', hb'⟩; (first | with_reducible (have bC := below_trans hDr hb') | with_reducible (have bC := below_trans hDa hb') | with_reducible (have bC := below_trans hDb hb')); have bCa := below_trans bC (below_alloc1 wC (.cells #[.int .i64 0, .int .i64 0, .string { data := #[] }, .slice none 0 0, .slice none 0 0] 26)); have bCp := below_trans bC (below_alloc1 wC (.cells #[.int .i64 v0, .int .i64 v1, .string v2, .slice v3 v4 v5, .slice v6 v7 v8] 26)); (first | with_reducible (have zC := Blk5.below (newDrew w1 26 (.int .i64 0) (.int .i64 0) (.string { data := #[] }) (.slice none 0 0) (.slice none 0 0)) hb'; obtain ⟨y0, y1, y2, y3, y4⟩ := zC.cell; have yf := zC.frozen) | with_reducible (have zC := Blk5.below (Blk5.new w1.drew 26 (.int .i64 0) (.int .i64 0) (.string { data := #[] }) (.slice none 0 0) (.slice none 0 0)) hb'; obtain ⟨y0, y1, y2, y3, y4⟩ := zC.cell; have yf := zC.frozen) | skip); (first | have bX := belowChain bC zC (Nat.le_refl _) (.int .i64 v0) (.int .i64 v1) (.string v2) (.slice v3 v4 v5) (.slice v6 v7 v8) | skip)))
            all_goals go_wp2_with fail
            all_goals go_meet
            all_goals (first | (have hF := And.intro (blk_set5' zC (.int .i64 v0) (.int .i64 v1) (.string v2) (.slice v3 v4 v5) (.slice v6 v7 v8)) (And.intro (sub_set5 hv' hS3l (size_after _ _) (.int .i64 v0) (.int .i64 v1) (.string v2) (.slice v3 v4 v5) (.slice v6 v7 v8)) (And.intro (below_set5 bC (Nat.le_refl _) 0 (.int .i64 v0) (.int .i64 v1) (.string v2) (.slice v3 v4 v5) (.slice v6 v7 v8)) (Nat.le_refl w1.heap.size))); unfold set5 at hF; simp only [Nat.zero_add] at hF; with_reducible exact ⟨_, v0, v1, v2, v3, v4, v5, v6, v7, v8, rfl, rfl, hide hF⟩) | with_reducible exact ⟨_, v0, v1, v2, v3, v4, v5, v6, v7, v8, rfl, rfl, hide (And.intro (Blk5.new wC 26 (.int .i64 v0) (.int .i64 v1) (.string v2) (.slice v3 v4 v5) (.slice v6 v7 v8)) (And.intro (sub_alloc hv' hS3l bC (Nat.le_refl _) (.cells #[.int .i64 v0, .int .i64 v1, .string v2, .slice v3 v4 v5, .slice v6 v7 v8] 26)) (And.intro bCp bC.size)))⟩)
          · have hcc : Hid (ps.length - 1 ≤ cap - 1) := by show _ ≤ _; omega
            have HSUB : Hid (∀ W', Below w1.heap.size w1 W' → StepsAt S' W' (.slice (some ⟨eb, eo + 3, none⟩) (ps.length - 1) (cap - 1)) r) := by
              intro W' hW'
              have h := (HV'.out.same (hS'.same (below_trans HB1.out hW')))
              rw [HLN.out]
              rw [HPR.out] at h
              exact StepsAt.tail h _
            have HQ : Hid (∀ W', Below w1.heap.size w1 W' → Calls Tryz.prog 48 #[.agg #[.int .i64 u0, .int .i64 u1, .string u2, .slice u3 u4 u5, .slice u6 u7 u8], .slice (some ⟨eb, eo + 3, none⟩) (ps.length - 1) (cap - 1), .agg #[.int .i64 c0, .int .i64 c1, .string c2, .slice c3 c4 c5, .slice c6 c7 c8]] W' fun e w' => ∃ (v0 v1 : Int) (v2 : ByteArray) (v3 : Option Addr) (v4 v5 : Nat) (v6 : Option Addr) (v7 v8 : Nat), e = .returned (.tuple #[.agg #[.int .i64 v0, .int .i64 v1, .string v2, .slice v3 v4 v5, .slice v6 v7 v8], .bool o2]) ∧ ValAt (fun c => S3 c ∨ Fresh W' w' c) w' (d + k + 2) Y (.agg #[.int .i64 v0, .int .i64 v1, .string v2, .slice v3 v4 v5, .slice v6 v7 v8]) ∧ Below W'.heap.size W' w') := fun W' h => hcallP.out _ _ _ W' HLN.out h (HSUB.out W' h) hcc.out
            clear HV' HX HHV K0' K1' K2' HE HPR HLR KB HB1 hcallP HSUB
            go_region_held3 (fun w' => (w'.cell? ⟨b, 0, none⟩ = some (.int .i64 u0) ∧ w'.cell? ⟨b, 1, none⟩ = some (.int .i64 u1) ∧ w'.cell? ⟨b, 2, none⟩ = some (.string u2) ∧ w'.cell? ⟨b, 3, none⟩ = some (.slice u3 u4 u5) ∧ w'.cell? ⟨b, 4, none⟩ = some (.slice u6 u7 u8)) ∧ w'.cell? ⟨(w.heap.size + 1), 0, none⟩ = some (.int .i64 c0) ∧ w'.cell? ⟨(w.heap.size + 1), 1, none⟩ = some (.int .i64 c1) ∧ w'.cell? ⟨(w.heap.size + 1), 2, none⟩ = some (.string c2) ∧ w'.cell? ⟨(w.heap.size + 1), 3, none⟩ = some (.slice c3 c4 c5) ∧ w'.cell? ⟨(w.heap.size + 1), 4, none⟩ = some (.slice c6 c7 c8))
              ((refine KK2.out _ ?_; with_reducible assumption))
              ((go_at_call 48; refine (HQ.out _ ?_).mono ?_; (first | exact hDr | exact hDa | exact hDb); rintro eC wC ⟨v0, v1, v2, v3, v4, v5, v6, v7, v8, rfl, hv', hb'⟩; (first | with_reducible (have bC := below_trans hDr hb') | with_reducible (have bC := below_trans hDa hb') | with_reducible (have bC := below_trans hDb hb')); have bCa := below_trans bC (below_alloc1 wC (.cells #[.int .i64 0, .int .i64 0, .string { data := #[] }, .slice none 0 0, .slice none 0 0] 26)); have bCp := below_trans bC (below_alloc1 wC (.cells #[.int .i64 v0, .int .i64 v1, .string v2, .slice v3 v4 v5, .slice v6 v7 v8] 26)); (first | with_reducible (have zC := Blk5.below (newDrew w1 26 (.int .i64 0) (.int .i64 0) (.string { data := #[] }) (.slice none 0 0) (.slice none 0 0)) hb'; obtain ⟨y0, y1, y2, y3, y4⟩ := zC.cell; have yf := zC.frozen) | with_reducible (have zC := Blk5.below (Blk5.new w1.drew 26 (.int .i64 0) (.int .i64 0) (.string { data := #[] }) (.slice none 0 0) (.slice none 0 0)) hb'; obtain ⟨y0, y1, y2, y3, y4⟩ := zC.cell; have yf := zC.frozen) | skip); (first | have bX := belowChain bC zC (Nat.le_refl _) (.int .i64 v0) (.int .i64 v1) (.string v2) (.slice v3 v4 v5) (.slice v6 v7 v8) | skip)))
            all_goals go_wp2_with fail
            all_goals go_meet
            all_goals (first | (have hF := And.intro (blk_set5' zC (.int .i64 v0) (.int .i64 v1) (.string v2) (.slice v3 v4 v5) (.slice v6 v7 v8)) (And.intro (sub_set5 hv' hS3l (size_after _ _) (.int .i64 v0) (.int .i64 v1) (.string v2) (.slice v3 v4 v5) (.slice v6 v7 v8)) (And.intro (below_set5 bC (Nat.le_refl _) 0 (.int .i64 v0) (.int .i64 v1) (.string v2) (.slice v3 v4 v5) (.slice v6 v7 v8)) (Nat.le_refl w1.heap.size))); unfold set5 at hF; simp only [Nat.zero_add] at hF; with_reducible exact ⟨_, v0, v1, v2, v3, v4, v5, v6, v7, v8, rfl, rfl, hide hF⟩) | with_reducible exact ⟨_, v0, v1, v2, v3, v4, v5, v6, v7, v8, rfl, rfl, hide (And.intro (Blk5.new wC 26 (.int .i64 v0) (.int .i64 v1) (.string v2) (.slice v3 v4 v5) (.slice v6 v7 v8)) (And.intro (sub_alloc hv' hS3l bC (Nat.le_refl _) (.cells #[.int .i64 v0, .int .i64 v1, .string v2, .slice v3 v4 v5, .slice v6 v7 v8] 26)) (And.intro bCp bC.size)))⟩)
        case rest =>
          rename World => w2
          obtain ⟨b2, v0, v1, v2, v3, v4, v5, v6, v7, v8, rfl, rfl, hc⟩ := hcut
          have hb2 := hc.out.2.2.1
          have hb2l := hc.out.2.2.2
          have hbl2 : b2 < w2.heap.size := hc.out.1.lt
          have HKb2 := hide hc.out.1
          have HY2 := hide hc.out.2.1
          have hs2 := hb2.size
          have hs1w : w.heap.size + 1 + 1 < w1.heap.size := K2'.out.lt
          have HB2 := hide (HB1.out.trans (hb2.mono hwl))
          have K02 := hide (K0'.out.below hb2)
          have K22 := hide (K2'.out.below hb2)
          have he1' : eb < w1.heap.size := by omega
          have HE2 : Hid (w2.cell? ⟨eb, eo, none⟩ = some (.bool p.map) ∧ w2.cell? ⟨eb, eo + 1, none⟩ = some (.string p.key) ∧ w2.cell? ⟨eb, eo + 2, none⟩ = some (.int .i64 p.place)) := ⟨(hb2.cell (p := ⟨eb, eo, none⟩) he1').trans HE.out.1, (hb2.cell (p := ⟨eb, eo + 1, none⟩) he1').trans HE.out.2.1, (hb2.cell (p := ⟨eb, eo + 2, none⟩) he1').trans HE.out.2.2⟩
          have hokY : okT (d + k + 2) Y = true := by
            have := okT_putT hxok k (stepT d t p).1 r
            rw [hY.out] at this
            exact this
          clear hc KK2 hcallP K0' K1' K2' HB1 hb2
          cases o2 with
          | false =>
            have hz : Hid (putT d x (k + 1) t ps = (zeroT (d + k + 2), false)) := by
              show _ = _
              rw [HPR.out]
              exact putT_stop (by rw [hY.out])
            have hno : Hid (∀ wF, wF = set5 w2 (w.heap.size + 1 + 1) 0 (.int .i64 0) (.int .i64 0) (.string { data := #[] }) (.slice none 0 0) (.slice none 0 0) → Below w.heap.size w wF) := by
              intro wF hF
              rw [hF]
              exact below_set5 HB2.out (by omega) _ _ _ _ _ _
            obtain ⟨y0, y1, y2, y3, y4⟩ := K22.out.cell
            have yf := K22.out.frozen
            clear HKb2 HY2 HB2 K02 K22 HE2 HE KB HV' HX HHV HPR HLR HFIT hY hokY
            go_wp2_with fail
            rw [hz.out]
            refine bodyPost_ret (v := .tuple #[zeroVal, .bool false]) (by simp [results, Tryz.results48, go_sem, zeroVal, y0, y1, y2, y3, y4]; rfl) rfl ⟨_, rfl, zeroAt (d + k + 2) _ _, hno.out _ rfl⟩
          | true =>
            have hput : Hid (putT d x (k + 1) t ps = backT (d + k + 1) (up2 d (k + 1) t) p Y) := by
              show _ = _
              rw [HPR.out, putT_on ho (by rw [hY.out]), hY.out]
            obtain ⟨z0, z1, z2, z3, z4⟩ := HKb2.out.cell
            have hS3l : ∀ c, S3 c → c < w.heap.size := hS3
            have hcallV := hide (specValOk_any (d + k + 2) (fun c => S3 c ∨ (w1.heap.size ≤ c ∧ c < w2.heap.size)) Y _ w2 HY2.out (fun c hc => by rcases hc with h | h; exact (by have := hS3l c h; omega); exact h.2) (by have := nodes_ok hokY; omega))
            rw [hokY] at hcallV
            clear hY
            go_wp2_with fail
            refine hcallV.out.mono ?_
            rintro e w3 ⟨rfl, hb3⟩
            have hs3 := hb3.size
            have hw3 : w.heap.size ≤ w3.heap.size := by omega
            have HB3d : Hid (Below w.heap.size w w3.drew) := below_drew1 (HB2.out.trans (hb3.mono (by omega)))
            have K03 := K02.out.below hb3
            have K23 : Hid (Blk5 w3.drew (w.heap.size + 1 + 1) 26 (.int .i64 0) (.int .i64 0) (.string { data := #[] }) (.slice none 0 0) (.slice none 0 0)) := (K22.out.below hb3).of_block rfl
            have HY3 : Hid (ValAt (fun c => S3 c ∨ (w1.heap.size ≤ c ∧ c < w2.heap.size)) w3.drew (d + k + 2) Y (.agg #[.int .i64 v0, .int .i64 v1, .string v2, .slice v3 v4 v5, .slice v6 v7 v8])) := HY2.out.same (fun c hc => hb3.block c (by rcases hc with h | h; exact (by have := hS3l c h; omega); exact h.2))
            have hW4 : Within (fun c => S3 c ∨ (w1.heap.size ≤ c ∧ c < w2.heap.size)) w3.drew := fun c hc => by
              show c < w3.heap.size
              rcases hc with h | h
              · have := hS3l c h; omega
              · omega
            have HV3 : Hid (ValAt S w3.drew (d + 2) t (.agg #[.int .i64 q0, .int .i64 q1, .string q2, .slice q3 q4 q5, .slice q6 q7 q8])) := HHV.out.same (hS.same HB3d.out)
            have f0 := (hb3.cell (p := ⟨eb, eo, none⟩) (show eb < w2.heap.size by omega)).trans HE2.out.1
            have f1 := (hb3.cell (p := ⟨eb, eo + 1, none⟩) (show eb < w2.heap.size by omega)).trans HE2.out.2.1
            have f2 := (hb3.cell (p := ⟨eb, eo + 2, none⟩) (show eb < w2.heap.size by omega)).trans HE2.out.2.2
            have kb3 := HKb2.out.below hb3
            clear z0 z1 z2 z3 z4
            obtain ⟨z0, z1, z2, z3, z4⟩ := kb3.cell
            obtain ⟨j0, j1, j2, j3, j4⟩ := K03.cell
            have hq1 : w.heap.size < w3.heap.size := by omega
            have hq2 : w.heap.size ≠ w.heap.size + 1 + 1 := by omega
            have heb : eb < w.heap.size := hS' eb hbS
            have he1 : eb < w3.heap.size := by omega
            have he2 : eb ≠ w.heap.size + 1 + 1 := by omega
            have hr1 : b2 < w3.heap.size := by omega
            have hr2 : b2 ≠ w.heap.size + 1 + 1 := by omega
            have hrb1 : w.heap.size ≤ w.heap.size + 1 + 1 := by omega
            have hrb2 : w.heap.size + 1 + 1 < w3.drew.heap.size := show _ < w3.heap.size by omega
            clear HY2 HB2 K02 K22 HE2 HKb2 hcallV hb3 K03 kb3
            cases hm : p.map with
            | true =>
              rw [hm] at f0
              have HPP : Hid (Calls Tryz.prog 96 #[.agg #[.int .i64 q0, .int .i64 q1, .string q2, .slice q3 q4 q5, .slice q6 q7 q8], .string p.key, .agg #[.int .i64 v0, .int .i64 v1, .string v2, .slice v3 v4 v5, .slice v6 v7 v8]] w3.drew fun e w' => ∃ (s0 s1 : Int) (s2 : ByteArray) (s3 : Option Addr) (s4 s5 : Nat) (s6 : Option Addr) (s7 s8 : Nat), e = .returned (.tuple #[.agg #[.int .i64 s0, .int .i64 s1, .string s2, .slice s3 s4 s5, .slice s6 s7 s8], .bool (partPutT (d + k + 1) (up2 d (k + 1) t) p.key Y).2]) ∧ ValOwn w' (d + k + 1 + 2) (Fresh w3.drew w') (partPutT (d + k + 1) (up2 d (k + 1) t) p.key Y).1 (.agg #[.int .i64 s0, .int .i64 s1, .string s2, .slice s3 s4 s5, .slice s6 s7 s8]) ∧ Below w3.drew.heap.size w3.drew w') := by
                refine (specPartPut_own (d + k + 1) S (up2 d (k + 1) t) _ p.key HFIT.out.1 _ Y _ w3.drew (ValAt.up2 HV3.out (k + 1)) (hS.later hw3) HY3.out hW4 (nodes_fit (d := d + (k + 1) + 2) (t := up2 d (k + 1) t) (by rw [okT_up2]; exact hok)) (nodes_fit hokY)).mono ?_
                rintro e w' ⟨u, rfl, hu, hb⟩
                obtain ⟨s0, s1, s2, s3, s4, s5, s6, s7, s8, rfl⟩ := (ValOwn.at _ _ _ _ hu).shape
                exact ⟨_, _, _, _, _, _, _, _, _, rfl, hu, hb⟩
              have hres : Hid (putT d x (k + 1) t ps = partPutT (d + k + 1) (up2 d (k + 1) t) p.key Y) := by show _ = _; rw [hput.out]; exact backT_map hm
              have KK3 : Hid (∀ W', Off (w.heap.size + 1 + 1) w3 W' → (W'.cell? ⟨w.heap.size, 0, none⟩ = some (.int .i64 q0) ∧ W'.cell? ⟨w.heap.size, 1, none⟩ = some (.int .i64 q1) ∧ W'.cell? ⟨w.heap.size, 2, none⟩ = some (.string q2) ∧ W'.cell? ⟨w.heap.size, 3, none⟩ = some (.slice q3 q4 q5) ∧ W'.cell? ⟨w.heap.size, 4, none⟩ = some (.slice q6 q7 q8)) ∧ (W'.cell? ⟨eb, eo, none⟩ = some (.bool true) ∧ W'.cell? ⟨eb, eo + 1, none⟩ = some (.string p.key) ∧ W'.cell? ⟨eb, eo + 2, none⟩ = some (.int .i64 p.place)) ∧ W'.cell? ⟨b2, 0, none⟩ = some (.int .i64 v0) ∧ W'.cell? ⟨b2, 1, none⟩ = some (.int .i64 v1) ∧ W'.cell? ⟨b2, 2, none⟩ = some (.string v2) ∧ W'.cell? ⟨b2, 3, none⟩ = some (.slice v3 v4 v5) ∧ W'.cell? ⟨b2, 4, none⟩ = some (.slice v6 v7 v8)) := fun W' hW => ⟨⟨(hW.cell (p := ⟨w.heap.size, 0, none⟩) hq1 hq2).trans j0, (hW.cell (p := ⟨w.heap.size, 1, none⟩) hq1 hq2).trans j1, (hW.cell (p := ⟨w.heap.size, 2, none⟩) hq1 hq2).trans j2, (hW.cell (p := ⟨w.heap.size, 3, none⟩) hq1 hq2).trans j3, (hW.cell (p := ⟨w.heap.size, 4, none⟩) hq1 hq2).trans j4⟩, ⟨(hW.cell (p := ⟨eb, eo, none⟩) he1 he2).trans f0, (hW.cell (p := ⟨eb, eo + 1, none⟩) he1 he2).trans f1, (hW.cell (p := ⟨eb, eo + 2, none⟩) he1 he2).trans f2⟩, (hW.cell (p := ⟨b2, 0, none⟩) hr1 hr2).trans z0, (hW.cell (p := ⟨b2, 1, none⟩) hr1 hr2).trans z1, (hW.cell (p := ⟨b2, 2, none⟩) hr1 hr2).trans z2, (hW.cell (p := ⟨b2, 3, none⟩) hr1 hr2).trans z3, (hW.cell (p := ⟨b2, 4, none⟩) hr1 hr2).trans z4⟩
              clear HV3 HY3 HFIT HPR HHV HX HV' HLR HE KB hput
              go_upto_region 10 with fail
              have hDo : Off (w.heap.size + 1 + 1) w3 w3.drew := fun _ _ _ => rfl
              go_region_held3 (fun w' => (w'.cell? ⟨w.heap.size, 0, none⟩ = some (.int .i64 q0) ∧ w'.cell? ⟨w.heap.size, 1, none⟩ = some (.int .i64 q1) ∧ w'.cell? ⟨w.heap.size, 2, none⟩ = some (.string q2) ∧ w'.cell? ⟨w.heap.size, 3, none⟩ = some (.slice q3 q4 q5) ∧ w'.cell? ⟨w.heap.size, 4, none⟩ = some (.slice q6 q7 q8)) ∧ (w'.cell? ⟨eb, eo, none⟩ = some (.bool true) ∧ w'.cell? ⟨eb, eo + 1, none⟩ = some (.string p.key) ∧ w'.cell? ⟨eb, eo + 2, none⟩ = some (.int .i64 p.place)) ∧ w'.cell? ⟨b2, 0, none⟩ = some (.int .i64 v0) ∧ w'.cell? ⟨b2, 1, none⟩ = some (.int .i64 v1) ∧ w'.cell? ⟨b2, 2, none⟩ = some (.string v2) ∧ w'.cell? ⟨b2, 3, none⟩ = some (.slice v3 v4 v5) ∧ w'.cell? ⟨b2, 4, none⟩ = some (.slice v6 v7 v8))
                ((refine KK3.out _ ?_; with_reducible assumption))
                ((go_at_call 96; refine HPP.out.mono ?_; rintro eC wC ⟨s0, s1, s2, s3, s4, s5, s6, s7, s8, rfl, hv', hb'⟩; have oC : Off (w.heap.size + 1 + 1) w3 wC := fun c hc _ => hb'.block c hc; have oX := offChain oC (.int .i64 s0) (.int .i64 s1) (.string s2) (.slice s3 s4 s5) (.slice s6 s7 s8); have zC := K23.out.below hb'; obtain ⟨y0, y1, y2, y3, y4⟩ := zC.cell; have yf := zC.frozen; have HF := hide (tell_end hv' (below_trans HB3d.out hb') hrb1 hrb2)))
              all_goals go_wp2_with fail
              all_goals rw [hres.out]
              all_goals exact bodyPost_ret (v := .tuple #[.agg #[.int .i64 s0, .int .i64 s1, .string s2, .slice s3 s4 s5, .slice s6 s7 s8], .bool (partPutT (d + k + 1) (up2 d (k + 1) t) p.key Y).2]) (by simp [results, Tryz.results48, go_sem, y0, y1, y2, y3, y4]) rfl ⟨_, rfl, (ValOwn.at _ _ _ _ (HF.out _ rfl).1).mono (fun _ h => Or.inr h), (HF.out _ rfl).2⟩
            | false =>
              rw [hm] at f0
              have HPP : Hid (Calls Tryz.prog 97 #[.agg #[.int .i64 q0, .int .i64 q1, .string q2, .slice q3 q4 q5, .slice q6 q7 q8], .int .i64 p.place, .agg #[.int .i64 v0, .int .i64 v1, .string v2, .slice v3 v4 v5, .slice v6 v7 v8]] w3.drew fun e w' => ∃ (s0 s1 : Int) (s2 : ByteArray) (s3 : Option Addr) (s4 s5 : Nat) (s6 : Option Addr) (s7 s8 : Nat), e = .returned (.tuple #[.agg #[.int .i64 s0, .int .i64 s1, .string s2, .slice s3 s4 s5, .slice s6 s7 s8], .bool (partSetT (d + k + 1) (up2 d (k + 1) t) p.place Y).2]) ∧ ValOwn w' (d + k + 1 + 2) (Fresh w3.drew w') (partSetT (d + k + 1) (up2 d (k + 1) t) p.place Y).1 (.agg #[.int .i64 s0, .int .i64 s1, .string s2, .slice s3 s4 s5, .slice s6 s7 s8]) ∧ Below w3.drew.heap.size w3.drew w') := by
                refine (specPartSet_own (d + k + 1) S (up2 d (k + 1) t) _ p.place HFIT.out.2 _ Y _ w3.drew (ValAt.up2 HV3.out (k + 1)) (hS.later hw3) HY3.out hW4 (nodes_fit (d := d + (k + 1) + 2) (t := up2 d (k + 1) t) (by rw [okT_up2]; exact hok)) (nodes_fit hokY)).mono ?_
                rintro e w' ⟨u, rfl, hu, hb⟩
                obtain ⟨s0, s1, s2, s3, s4, s5, s6, s7, s8, rfl⟩ := (ValOwn.at _ _ _ _ hu).shape
                exact ⟨_, _, _, _, _, _, _, _, _, rfl, hu, hb⟩
              have hres : Hid (putT d x (k + 1) t ps = partSetT (d + k + 1) (up2 d (k + 1) t) p.place Y) := by show _ = _; rw [hput.out]; exact backT_place hm
              have KK3 : Hid (∀ W', Off (w.heap.size + 1 + 1) w3 W' → (W'.cell? ⟨w.heap.size, 0, none⟩ = some (.int .i64 q0) ∧ W'.cell? ⟨w.heap.size, 1, none⟩ = some (.int .i64 q1) ∧ W'.cell? ⟨w.heap.size, 2, none⟩ = some (.string q2) ∧ W'.cell? ⟨w.heap.size, 3, none⟩ = some (.slice q3 q4 q5) ∧ W'.cell? ⟨w.heap.size, 4, none⟩ = some (.slice q6 q7 q8)) ∧ (W'.cell? ⟨eb, eo, none⟩ = some (.bool false) ∧ W'.cell? ⟨eb, eo + 1, none⟩ = some (.string p.key) ∧ W'.cell? ⟨eb, eo + 2, none⟩ = some (.int .i64 p.place)) ∧ W'.cell? ⟨b2, 0, none⟩ = some (.int .i64 v0) ∧ W'.cell? ⟨b2, 1, none⟩ = some (.int .i64 v1) ∧ W'.cell? ⟨b2, 2, none⟩ = some (.string v2) ∧ W'.cell? ⟨b2, 3, none⟩ = some (.slice v3 v4 v5) ∧ W'.cell? ⟨b2, 4, none⟩ = some (.slice v6 v7 v8)) := fun W' hW => ⟨⟨(hW.cell (p := ⟨w.heap.size, 0, none⟩) hq1 hq2).trans j0, (hW.cell (p := ⟨w.heap.size, 1, none⟩) hq1 hq2).trans j1, (hW.cell (p := ⟨w.heap.size, 2, none⟩) hq1 hq2).trans j2, (hW.cell (p := ⟨w.heap.size, 3, none⟩) hq1 hq2).trans j3, (hW.cell (p := ⟨w.heap.size, 4, none⟩) hq1 hq2).trans j4⟩, ⟨(hW.cell (p := ⟨eb, eo, none⟩) he1 he2).trans f0, (hW.cell (p := ⟨eb, eo + 1, none⟩) he1 he2).trans f1, (hW.cell (p := ⟨eb, eo + 2, none⟩) he1 he2).trans f2⟩, (hW.cell (p := ⟨b2, 0, none⟩) hr1 hr2).trans z0, (hW.cell (p := ⟨b2, 1, none⟩) hr1 hr2).trans z1, (hW.cell (p := ⟨b2, 2, none⟩) hr1 hr2).trans z2, (hW.cell (p := ⟨b2, 3, none⟩) hr1 hr2).trans z3, (hW.cell (p := ⟨b2, 4, none⟩) hr1 hr2).trans z4⟩
              clear HV3 HY3 HFIT HPR HHV HX HV' HLR HE KB hput
              go_upto_region 11 with fail
              have hDo : Off (w.heap.size + 1 + 1) w3 w3.drew := fun _ _ _ => rfl
              go_region_held3 (fun w' => (w'.cell? ⟨w.heap.size, 0, none⟩ = some (.int .i64 q0) ∧ w'.cell? ⟨w.heap.size, 1, none⟩ = some (.int .i64 q1) ∧ w'.cell? ⟨w.heap.size, 2, none⟩ = some (.string q2) ∧ w'.cell? ⟨w.heap.size, 3, none⟩ = some (.slice q3 q4 q5) ∧ w'.cell? ⟨w.heap.size, 4, none⟩ = some (.slice q6 q7 q8)) ∧ (w'.cell? ⟨eb, eo, none⟩ = some (.bool false) ∧ w'.cell? ⟨eb, eo + 1, none⟩ = some (.string p.key) ∧ w'.cell? ⟨eb, eo + 2, none⟩ = some (.int .i64 p.place)) ∧ w'.cell? ⟨b2, 0, none⟩ = some (.int .i64 v0) ∧ w'.cell? ⟨b2, 1, none⟩ = some (.int .i64 v1) ∧ w'.cell? ⟨b2, 2, none⟩ = some (.string v2) ∧ w'.cell? ⟨b2, 3, none⟩ = some (.slice v3 v4 v5) ∧ w'.cell? ⟨b2, 4, none⟩ = some (.slice v6 v7 v8))
                ((refine KK3.out _ ?_; with_reducible assumption))
                ((go_at_call 97; refine HPP.out.mono ?_; rintro eC wC ⟨s0, s1, s2, s3, s4, s5, s6, s7, s8, rfl, hv', hb'⟩; have oC : Off (w.heap.size + 1 + 1) w3 wC := fun c hc _ => hb'.block c hc; have oX := offChain oC (.int .i64 s0) (.int .i64 s1) (.string s2) (.slice s3 s4 s5) (.slice s6 s7 s8); have zC := K23.out.below hb'; obtain ⟨y0, y1, y2, y3, y4⟩ := zC.cell; have yf := zC.frozen; have HF := hide (tell_end hv' (below_trans HB3d.out hb') hrb1 hrb2)))
              all_goals go_wp2_with fail
              all_goals rw [hres.out]
              all_goals exact bodyPost_ret (v := .tuple #[.agg #[.int .i64 s0, .int .i64 s1, .string s2, .slice s3 s4 s5, .slice s6 s7 s8], .bool (partSetT (d + k + 1) (up2 d (k + 1) t) p.place Y).2]) (by simp [results, Tryz.results48, go_sem, y0, y1, y2, y3, y4]) rfl ⟨_, rfl, (ValOwn.at _ _ _ _ (HF.out _ rfl).1).mono (fun _ h => Or.inr h), (HF.out _ rfl).2⟩
end Go.Proofs.YtmibjmipndffmaaGreatDoor
