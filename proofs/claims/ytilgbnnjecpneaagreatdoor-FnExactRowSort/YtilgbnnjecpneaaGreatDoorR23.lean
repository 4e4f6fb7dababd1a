/- Texts of the proof, put together by program: WDrawE, WDrawD, WDrawG, WDrawF. -/
import Derived.Test.YtilgbnnjecpneaaGreatDoorR22
import Derived.Test.YtilgbnnjecpneaaGreatDoorR18
/- Drawn trees: bent ones; what stands ahead of the walk. -/
namespace Go.Proofs.YtilgbnnjecpneaaGreatDoor
open Go.RowKit Go.Deep

theorem drC3 : drC 3 = 360 ∧ drB 3 = 339 := by decide
theorem nodes_wt' : ∀ (d : Nat) (t : Tr d), nodes d t ≤ wtT d t
  | 0, t => Empty.elim t
  | d + 1, t => by
    have h : ∀ xs : List (Tr d), (xs.map (nodes d)).sum ≤ (xs.map (wtT d)).sum := by
      intro xs
      induction xs with
      | nil => exact Nat.le_refl _
      | cons x r ih =>
        have := nodes_wt' d x
        simp only [List.map_cons, List.sum_cons]
        omega
    have := h (Nd.list t)
    rw [nodes, wtT]
    omega

theorem wtT_lift : ∀ (d : Nat) (t : Tr d), wtT (d + 1) (up d t) = wtT d t
  | 0, t => Empty.elim t
  | d + 1, t => by
    obtain ⟨kind, num, str, keys, list⟩ := t
    show 3 + keys.length + ((list.map (up d)).map (wtT (d + 1))).sum = 3 + keys.length + (list.map (wtT d)).sum
    have h : ∀ xs : List (Tr d), ((xs.map (up d)).map (wtT (d + 1))).sum = (xs.map (wtT d)).sum := by
      intro xs
      induction xs with
      | nil => rfl
      | cons x r ih =>
        have := wtT_lift d x
        simp only [List.map_cons, List.sum_cons]
        omega
    rw [h]
/-- The same tree, as one that may be n deeper. -/
def upN (d : Nat) : (n : Nat) → Tr d → Tr (d + n)
  | 0, t => t
  | n + 1, t => up (d + n) (upN d n t)
theorem wtT_upN (d : Nat) : ∀ (n : Nat) (t : Tr d), wtT (d + n) (upN d n t) = wtT d t
  | 0, _ => rfl
  | n + 1, t => (wtT_lift (d + n) (upN d n t)).trans (wtT_upN d n t)
theorem ValAt.upN {S : Nat → Prop} {w : World} {d : Nat} {t : Tr d} {v : Value} (h : ValAt S w d t v) : ∀ (n : Nat), ValAt S w (d + n) (upN d n t) v
  | 0 => h
  | n + 1 => ValAt.up (d + n) _ _ (ValAt.upN h n)

/-- What a drawing function tells, its keys being anywhere. -/
def DrawnV (r p c : Nat) (d B : Nat) (w : World) (e : Ending) (w' : World) : Prop :=
  ∃ u t p', e = .returned u ∧ ValAt (FreshP w w') w' d t u ∧ wtT d t ≤ B ∧ Rd w' r p' ∧ p' ≤ p + c ∧ But r w w'

theorem drawnV_end {r p p' c d B : Nat} {w wX : World} {t : Tr d} {v0 v1 v2 v3 v4 : Value} (hv : ValAt (FreshQ w wX) wX d t (.agg #[v0, v1, v2, v3, v4])) (hB : wtT d t ≤ B) (hR : Rd wX r p') (hp : p' ≤ p + c) (hb : But r w wX) (hr : r < w.heap.size) :
    ∀ wF, wF = set5 wX w.heap.size 0 v0 v1 v2 v3 v4 → DrawnV r p c d B w (.returned (.agg #[v0, v1, v2, v3, v4])) wF := by
  intro wF hF
  have hs : ∀ b, b ≠ w.heap.size → wF.heap[b]? = wX.heap[b]? := fun b hb' => by rw [hF]; exact set5_block _ _ _ _ _ _ _ _ _ hb'
  have hz : wF.heap.size = wX.heap.size := by rw [hF]; exact set5_size _ _ _ _ _ _ _ _
  have hl : Below w.heap.size wX wF := by rw [hF]; exact below_set5 (Below.refl _ _) (Nat.le_refl _) _ _ _ _ _ _
  refine ⟨_, t, p', rfl, ValAt.moved (fun b hb' => hs b (by have := hb'.1; omega)) (fun b hb' => ?_) d t _ hv, hB, ?_, hp, ⟨hl.os.trans hb.os, hl.tape.trans hb.tape, hl.output.trans hb.output, by rw [hz]; exact hb.size, fun b hb1 hb2 => (hs b (by omega)).trans (hb.block b hb1 hb2)⟩⟩
  · exact ⟨⟨Nat.le_of_lt hb'.1, by rw [hz]; exact hb'.2.1⟩, hb'.2.2.of_block (hs b (by have := hb'.1; omega))⟩
  · obtain ⟨a, n, cap, h1, h2, h3⟩ := hR
    exact ⟨a, n, cap, (hs r (by omega)).trans h1, h2, h3.moved (fun b hb' => hs b (by omega))⟩

/-- What stands once the tree that is to be bent lies in its variable. -/
structure Bent (w wX : World) (r p' vb : Nat) (c0 c1 c2 c3 c4 : Value) : Prop where
  var : Blk5 wX vb 29 c0 c1 c2 c3 c4
  res : Blk5 wX w.heap.size 29 (.int .i64 0) (.int .i64 0) (.string { data := #[] }) (.slice none 0 0) (.slice none 0 0)
  rd : Rd wX r p'
  but : But r w wX
  rw : r < w.heap.size
  wv : w.heap.size < vb

/-- New blocks of plain cells, but for the first one and the variable. -/
def FreshV (w w' : World) (vb b : Nat) : Prop := w.heap.size < b ∧ b < w'.heap.size ∧ Plain w' b ∧ b ≠ vb

theorem Bent.go {w wX wY : World} {r p' p'' vb : Nat} {c0 c1 c2 c3 c4 : Value} (h : Bent w wX r p' vb c0 c1 c2 c3 c4) (hb : But r wX wY) (hR : Rd wY r p'') : Bent w wY r p'' vb c0 c1 c2 c3 c4 :=
  ⟨h.var.butr hb (by have := h.rw; have := h.wv; omega), h.res.butr hb (by have := h.rw; omega), hR, h.but.trans hb, h.rw, h.wv⟩
theorem FreshV.go {w wX wY : World} {r vb d : Nat} {t : Tr d} {u : Value} (h : ValAt (FreshV w wX vb) wX d t u) (hb : But r wX wY) (hr : r < w.heap.size) : ValAt (FreshV w wY vb) wY d t u := by
  have hs : Same (FreshV w wX vb) wX wY := fun b hb' => hb.block b hb'.2.1 (fun e => by have := hb'.1; cases e; omega)
  exact ValAt.moved hs (fun b hb' => ⟨hb'.1, Nat.lt_of_lt_of_le hb'.2.1 hb.size, hb'.2.2.1.of_block (hs b hb'), hb'.2.2.2⟩) d t u h
theorem keyV_go {w wX wY : World} {r vb d N : Nat} {t : Tr d} {u : Value} (h : KeyTop N (FreshV w wX vb) wX d t u) (hb : But r wX wY) (hr : r < w.heap.size) : KeyTop N (FreshV w wY vb) wY d t u := by
  have hs : Same (FreshV w wX vb) wX wY := fun b hb' => hb.block b hb'.2.1 (fun e => by have := hb'.1; cases e; omega)
  exact h.moved hs (fun b hb' => ⟨hb'.1, Nat.lt_of_lt_of_le hb'.2.1 hb.size, hb'.2.2.1.of_block (hs b hb'), hb'.2.2.2⟩) (Nat.le_refl _)

/-- One cell of the variable is written. -/
theorem Bent.low {w wX wF : World} {r p' vb : Nat} {c0 c1 c2 c3 c4 d0 d1 d2 d3 d4 : Value} (h : Bent w wX r p' vb c0 c1 c2 c3 c4) (ht : Turn (fun b => b = vb) wX wF) (hv : Blk5 wF vb 29 d0 d1 d2 d3 d4) : Bent w wF r p' vb d0 d1 d2 d3 d4 := by
  have hrw := h.rw
  have hwv := h.wv
  have hl := low_moved (N := vb + 1) (vb := vb) h.rd h.but h.res (ht.mono (fun b hb => Or.inl hb)) hrw hwv (by omega)
  exact ⟨hv, hl.2.2, hl.1, hl.2.1, hrw, hwv⟩
theorem FreshV.low {w wX wF : World} {vb d : Nat} {t : Tr d} {u : Value} (h : ValAt (FreshV w wX vb) wX d t u) (ht : Turn (fun b => b = vb) wX wF) : ValAt (FreshV w wF vb) wF d t u := by
  have hs : Same (FreshV w wX vb) wX wF := fun b hb' => ht.block b hb'.2.1 (fun e => hb'.2.2.2 e)
  exact ValAt.moved hs (fun b hb' => ⟨hb'.1, Nat.lt_of_lt_of_le hb'.2.1 ht.size, hb'.2.2.1.of_block (hs b hb'), hb'.2.2.2⟩) d t u h
theorem turn_one (w : World) (vb o : Nat) (u : Value) : Turn (fun b => b = vb) w (w.setCell ⟨vb, o, none⟩ u) := Turn.set (a := ⟨vb, o, none⟩) (Turn.refl (fun b => b = vb) w) rfl u

/-- The end. -/
theorem Bent.final {w wX : World} {r p p' vb c d B : Nat} {c0 c1 c2 c3 c4 : Value} {t : Tr d} (h : Bent w wX r p' vb c0 c1 c2 c3 c4) (hv : ValAt (FreshV w wX vb) wX d t (.agg #[c0, c1, c2, c3, c4])) (hB : wtT d t ≤ B) (hp : p' ≤ p + c) :
    ∀ wF, wF = set5 wX w.heap.size 0 c0 c1 c2 c3 c4 → DrawnV r p c d B w (.returned (.agg #[c0, c1, c2, c3, c4])) wF :=
  drawnV_end (hv.mono (fun _ hb => ⟨hb.1, hb.2.1, hb.2.2.1⟩)) hB h.rd hp h.but h.rw

theorem parts_of {S : Nat → Prop} {w : World} {d : Nat} {t : Tr (d + 1)} {c0 c1 c2 c3 c4 : Value} (h : ValAt S w (d + 1) t (.agg #[c0, c1, c2, c3, c4])) :
    c0 = .int .i64 (Nd.kind t) ∧ c1 = .int .i64 (Nd.num t) ∧ c2 = .string (Nd.str t) ∧ I64 (Nd.kind t) ∧ I64 (Nd.num t) ∧ (Nd.str t).size < 281474976710656 ∧ StrsAt S w c3 (Nd.keys t) ∧ RowAt S w (ValAt S w d) c4 (Nd.list t) := by
  obtain ⟨vk, vl, hv, i1, i2, i3, hk, hl⟩ := h
  simp only [Value.agg.injEq, Array.mk.injEq, List.cons.injEq, and_true] at hv
  obtain ⟨rfl, rfl, rfl, rfl, rfl⟩ := hv
  exact ⟨rfl, rfl, rfl, i1, i2, i3, hk, hl⟩
theorem build_of {S : Nat → Prop} {w : World} {d : Nat} {k n : Int} {s : ByteArray} {keys : List ByteArray} {list : List (Tr d)} {c3 c4 : Value} (hk : I64 k) (hn : I64 n) (hs : s.size < 281474976710656) (h3 : StrsAt S w c3 keys) (h4 : RowAt S w (ValAt S w d) c4 list) :
    ValAt S w (d + 1) ({ kind := k, num := n, str := s, keys := keys, list := list } : Nd (Tr d)) (.agg #[.int .i64 k, .int .i64 n, .string s, c3, c4]) := ⟨c3, c4, rfl, hk, hn, hs, h3, h4⟩
theorem Bent.finalK {w wX : World} {r p p' vb c d B : Nat} {c0 c1 c2 c3 c4 : Value} {t : Tr d} (h : Bent w wX r p' vb c0 c1 c2 c3 c4) (hv : KeyTop (w.heap.size + 1) (FreshV w wX vb) wX d t (.agg #[c0, c1, c2, c3, c4])) (hB : wtT d t ≤ B) (hp : p' ≤ p + c) :
    ∀ wF, wF = set5 wX w.heap.size 0 c0 c1 c2 c3 c4 → Drawn r p c d B w (.returned (.agg #[c0, c1, c2, c3, c4])) wF :=
  drawn_end (hv.moved (Same.refl _ _) (fun _ hb => ⟨hb.1, hb.2.1, hb.2.2.1⟩) (Nat.le_refl _)) hB h.rd hp h.but h.rw h.res.lt
end Go.Proofs.YtilgbnnjecpneaaGreatDoor

/- Drawn trees: l1Some of the model. -/
namespace Go.Proofs.YtilgbnnjecpneaaGreatDoor
open Go.RowKit Go.Deep

set_option maxRecDepth 100000 in
set_option maxHeartbeats 1000000 in
theorem l1Some_any (r p : Nat) (w : World) (h : Rd w r p) (hp : p + 370 ≤ 1000000) :
    Calls Tryz.prog 84 #[.pointer (some ⟨r, 0, none⟩)] w (Drawn r p 370 4 339 w) := by
  have hr := h.lt
  have hb0 := below_alloc1 w (.cells #[.int .i64 0, .int .i64 0, .string { data := #[] }, .slice none 0 0, .slice none 0 0] 29)
  have kr := res_new w
  have hR0 := h.below hb0
  obtain ⟨W0, HW⟩ : ∃ W0, Hid (W0 = w.alloc (.cells #[.int .i64 0, .int .i64 0, .string { data := #[] }, .slice none 0 0, .slice none 0 0] 29)) := ⟨_, rfl⟩
  have hz0 : w.heap.size < W0.heap.size := by rw [HW.out]; simp
  rw [← HW.out] at hb0 kr hR0
  have hC := drC3
  go_enter Tryz.func84, Tryz.ntmps84
  go_wp2_with fail
  rw [← HW.out]
  refine (pick_any r p 4 W0 hR0 (by omega) (by omega) (by omega)).mono ?_
  rintro e w1 ⟨k1, rfl, k10, k11, h1, b1, z1⟩
  replace kr := kr.butr b1 (by omega)
  have hB1 := (But.of_below hb0).trans b1
  replace hz0 : w.heap.size < w1.heap.size := by omega
  clear hR0 hb0 b1 z1 HW h
  go_wp2_with fail
  refine (l1Val_any 3 r (p + 1) (1 + k1) w1 h1 (by omega) (by omega) (by omega) (by omega)).mono ?_
  rintro e w2 ⟨u, t, p2, rfl, hv, hw, hR2, hp2, hb2⟩
  obtain ⟨v0, v1, v2, v3, v4, v5, v6, v7, v8, rfl⟩ := hv.at.shape
  have hz2 : w1.heap.size ≤ w2.heap.size := hb2.size
  have kr2 := kr.butr hb2 (by omega)
  have hB2 := hB1.trans hb2
  have ha := below_alloc1 w2 (.cells #[.int .i64 v0, .int .i64 v1, .string v2, .slice v3 v4 v5, .slice v6 v7 v8] 29)
  have hBt : Bent w (w2.alloc (.cells #[.int .i64 v0, .int .i64 v1, .string v2, .slice v3 v4 v5, .slice v6 v7 v8] 29)) r p2 w2.heap.size (.int .i64 v0) (.int .i64 v1) (.string v2) (.slice v3 v4 v5) (.slice v6 v7 v8) :=
    ⟨Blk5.new w2 _ _ _ _ _ _, kr2.below ha, hR2.below ha, hB2.trans (But.of_below ha), hr, by omega⟩
  have hVt : KeyTop (w.heap.size + 1) (FreshV w (w2.alloc (.cells #[.int .i64 v0, .int .i64 v1, .string v2, .slice v3 v4 v5, .slice v6 v7 v8] 29)) w2.heap.size) (w2.alloc (.cells #[.int .i64 v0, .int .i64 v1, .string v2, .slice v3 v4 v5, .slice v6 v7 v8] 29)) 4 t (.agg #[.int .i64 v0, .int .i64 v1, .string v2, .slice v3 v4 v5, .slice v6 v7 v8]) :=
    hv.moved (fun b hb => ha.block b hb.1.2) (fun b hb => ⟨by have := hb.1.1; omega, by have := hb.1.2; simp; omega, hb.2.of_block (ha.block b hb.1.2), by have := hb.1.2; omega⟩) (by omega)
  obtain ⟨W3, HW3⟩ : ∃ W3, Hid (W3 = w2.alloc (.cells #[.int .i64 v0, .int .i64 v1, .string v2, .slice v3 v4 v5, .slice v6 v7 v8] 29)) := ⟨_, rfl⟩
  rw [← HW3.out] at hBt hVt
  have hVB := hide hVt
  replace hw : wtT 4 t ≤ drB 3 := hw
  have hnd := nodes_wt' 4 t
  have hWi : Within (FreshV w W3 w2.heap.size) W3 := fun b hb => hb.2.1
  obtain ⟨y0, y1, y2, y3, y4⟩ := hBt.var.cell
  clear hv hR2 hb2 kr h1 hB1 hB2 kr2 ha hVt
  go_wp2_with fail
  rw [← HW3.out]
  clear HW3
  refine (specValOk_any 4 (FreshV w W3 w2.heap.size) t _ W3 hVB.out.at hWi (by omega)).mono ?_
  rintro e w3 ⟨rfl, hb3⟩
  have hB3 := hBt.go (But.of_below hb3) (hBt.rd.below hb3)
  have hV3 := keyV_go hVB.out (But.of_below hb3) hr
  clear y0 y1 y2 y3 y4 hVB hBt hb3 hWi
  cases hok : okT 4 t with
  | true =>
    have HF := hide (hB3.finalK (p := p) (c := 370) (B := 339) hV3 (by omega) (by omega))
    obtain ⟨y0, y1, y2, y3, y4⟩ := hB3.var.cell
    obtain ⟨u0, u1, u2, u3, u4⟩ := hB3.res.cell
    have uf := hB3.res.frozen
    have hvr := hB3.res.lt
    have hvl := hB3.var.lt
    clear hV3 hB3 hok
    go_wp2_with fail
    exact bodyPost_ret (v := .agg #[.int .i64 v0, .int .i64 v1, .string v2, .slice v3 v4 v5, .slice v6 v7 v8]) (by simp [results, Tryz.results84, go_sem, u0, u1, u2, u3, u4]) rfl (HF.out _ rfl)
  | false =>
    clear hok hV3
    go_wp2_with fail
    refine (l1Leaf_any 3 r p2 w3 hB3.rd (by omega)).mono ?_
    intro e w4 hdr
    obtain ⟨q0, q1, q2, q3, q4, q5, q6, q7, q8, rfl, hb4, hz4, hF⟩ := drawn_pass (p := p) (c := 370) hdr hB3.but hr hB3.res.lt (by omega)
    have HF := hide (fun wF hF' => (hF wF hF').mono (B' := 339) (by omega))
    obtain ⟨_, _, _, _, _, _, _, _, hbu⟩ := hdr
    have kr := hB3.res.butr hbu (by omega)
    obtain ⟨u0, u1, u2, u3, u4⟩ := kr.cell
    have uf := kr.frozen
    clear hF kr hbu hb4 hB3
    go_wp2_with fail
    exact bodyPost_ret (v := .agg #[.int .i64 q0, .int .i64 q1, .string q2, .slice q3 q4 q5, .slice q6 q7 q8]) (by simp [results, Tryz.results84, go_sem, u0, u1, u2, u3, u4]) rfl (HF.out _ rfl)
end Go.Proofs.YtilgbnnjecpneaaGreatDoor

/- Drawn trees: what becomes of a tree that is bent. -/
namespace Go.Proofs.YtilgbnnjecpneaaGreatDoor
open Go.RowKit Go.Deep

/-- An append, as one step of a region in its order. -/
theorem wpList_append_phi {P : Program} {ops : Array Oper} {rest : List Oper} {o : Oper} {a : Act} {w : World} {Q : Exit → Act → World → Prop} (Φ : Value → World → Prop) (hgd : o.guard = none) (s x : Operand) (t : TypeId)
    (ho : o.op = .call { callee := .builtin .append, args := #[s, x], argTypes := #[t, t] }) (vs vx : Value) (hs : a.eval s = vs) (hx : a.eval x = vx)
    (hrun : ∃ v' w', (Builtin.append_ #[t, t] o.type #[vs, vx]).run P w = .ok v' w' ∧ Φ v' w') (h : ∀ v' w', Φ v' w' → wpList P ops Q rest (a.put o.dst v') w') :
    wpList P ops Q (o :: rest) a w := by
  refine wpList_plain hgd fun K hK => ?_
  obtain ⟨v', w', hr, h2⟩ := hrun
  unfold Oper.wp execOp
  simp only [ho, resolve, invoke, builtin, Sem.run_bind, Sem.run_pure, Result.andThen_ok, List.map_toArray, List.map_cons, List.map_nil, hs, hx, hr]
  exact hK _ _ (h v' w' h2)

theorem wt_new {d B : Nat} {t : Tr (d + 1)} {k n : Int} {s : ByteArray} {keys : List ByteArray} (h : wtT (d + 1) t ≤ B) (hl : keys.length ≤ (Nd.keys t).length + 1) : wtT (d + 1) ({ kind := k, num := n, str := s, keys := keys, list := Nd.list t } : Nd (Tr d)) ≤ B + 1 := by
  have e : wtT (d + 1) t = 3 + (Nd.keys t).length + ((Nd.list t).map (wtT d)).sum := rfl
  show 3 + keys.length + ((Nd.list t).map (wtT d)).sum ≤ B + 1
  omega

theorem low_moved2 {w w5 wF : World} {N vb r p : Nat} {T : TypeId} {c0 c1 c2 c3 c4 : Value} (hR : Rd w5 r p) (hB : But r w w5) (hK : Blk5 w5 w.heap.size T c0 c1 c2 c3 c4) (ht : Turn (Low N vb) w5 wF) (hr : r < w.heap.size) (hw : w.heap.size < vb) (hv : w.heap.size < N) :
    Rd wF r p ∧ But r w wF ∧ Blk5 wF w.heap.size T c0 c1 c2 c3 c4 := by
  have hrl := hR.lt
  have hkl := hK.lt
  have hlow : ∀ b, b ≤ w.heap.size → b < w5.heap.size → wF.heap[b]? = w5.heap[b]? := fun b h1 h2 => ht.block b h2 (fun e => by rcases e with e | e <;> omega)
  obtain ⟨a, n, cap, h1, h2, h3⟩ := hR
  refine ⟨⟨a, n, cap, (hlow r (by omega) hrl).trans h1, h2, h3.moved (fun b hb => hlow b (by omega) (by omega))⟩, ⟨ht.os.trans hB.os, ht.tape.trans hB.tape, ht.output.trans hB.output, Nat.le_trans hB.size ht.size, fun i hi hn => (hlow i (by omega) (Nat.lt_of_lt_of_le hi hB.size)).trans (hB.block i hi hn)⟩, hK.of_block (hlow _ (Nat.le_refl _) hkl)⟩

/-- A key behind the others. -/
theorem bent_key {w w4 w6 : World} {r p' vb d : Nat} {c0 c1 c2 c4 kv kv' : Value} {t : Tr (d + 1)} {s : ByteArray} {o : Obj} (h : Bent w w4 r p' vb c0 c1 c2 kv c4) (hV : KeyTop (w.heap.size + 1) (FreshV w w4 vb) w4 (d + 1) t (.agg #[c0, c1, c2, kv, c4]))
    (hkn : (Nd.keys t).length < 900) (hs : s.size < 281474976710656) (hown : w6.ownsRow (w.heap.size + 1) 9 1 kv' ((Nd.keys t).length + 1) ((Nd.keys t).map Value.string ++ [.string s])) (hg : (w4.alloc o).grownBy w6 kv.ownBlock) (hw : kv'.ownBlock = kv.ownBlock ∨ kv'.ownBlock = some (w4.alloc o).heap.size) :
    Bent w (w6.setCell ⟨vb, 3, none⟩ kv') r p' vb c0 c1 c2 kv' c4 ∧ ValAt (FreshV w (w6.setCell ⟨vb, 3, none⟩ kv') vb) (w6.setCell ⟨vb, 3, none⟩ kv') (d + 1) ({ kind := Nd.kind t, num := Nd.num t, str := Nd.str t, keys := Nd.keys t ++ [s], list := Nd.list t } : Nd (Tr d)) (.agg #[c0, c1, c2, kv', c4]) := by
  obtain ⟨kv0, lv, hu, i1, i2, i3, hk, hkl, ho, hob, hl⟩ := hV
  simp only [Value.agg.injEq, Array.mk.injEq, List.cons.injEq, and_true] at hu
  obtain ⟨rfl, rfl, rfl, rfl, rfl⟩ := hu
  have hz1 : (w4.alloc o).heap.size = w4.heap.size + 1 := by simp
  have hz : w4.heap.size + 1 ≤ w6.heap.size := by have := hg.size; omega
  have hz3 : (w6.setCell ⟨vb, 3, none⟩ kv').heap.size = w6.heap.size := by simp [World.setCell]
  have hvl := h.var.lt
  have hwv := h.wv
  have hrow : ∀ g, kv.ownBlock = some g → w.heap.size + 1 ≤ g := fun g hg' => (ho.lt g hg').1
  have hlow := low_moved2 (N := w.heap.size + 1) (vb := vb) h.rd h.but h.res (low_turn (c := 3) (u := kv') hg hrow) h.rw h.wv (by omega)
  have hbl : ∀ b, b < w4.heap.size → kv.ownBlock ≠ some b → w6.heap[b]? = w4.heap[b]? := fun b h1 h2 => (hg.block b (by omega) (fun e => h2 e.symm)).trans (Below.heap_alloc _ _ _ h1)
  have hvar : Blk5 (w6.setCell ⟨vb, 3, none⟩ kv') vb 29 (.int .i64 (Nd.kind t)) (.int .i64 (Nd.num t)) (.string (Nd.str t)) kv' c4 := (h.var.of_block (hbl vb hvl (fun e => (hob vb e).2.2.2 rfl))).set3 _
  have hbl3 : ∀ b, b ≠ vb → b < w4.heap.size → kv.ownBlock ≠ some b → (w6.setCell ⟨vb, 3, none⟩ kv').heap[b]? = w4.heap[b]? := fun b h0 h1 h2 => (Below.heap_setCell _ _ _ _ (by show b ≠ vb; exact h0)).trans (hbl b h1 h2)
  have hkb : ∀ b, kv'.ownBlock = some b → FreshV w (w6.setCell ⟨vb, 3, none⟩ kv') vb b := fun b hb => by
    have hl := hown.lt b hb
    have hne : b ≠ vb := by
      rcases hw with hw | hw
      · exact (hob b (hw.symm.trans hb)).2.2.2
      · have he := hw.symm.trans hb
        rw [hz1] at he
        cases he
        omega
    exact ⟨by omega, by rw [hz3]; exact hl.2, (plain_own hown hb).of_block (Below.heap_setCell _ _ _ _ (by show b ≠ vb; exact hne)), hne⟩
  have hown' : w6.ownsRow (w.heap.size + 1) 9 1 kv' (Nd.keys t ++ [s]).length ((Nd.keys t ++ [s]).map Value.string) := by
    rw [List.length_append, List.map_append]
    exact hown
  have hst : StrsAt (FreshV w (w6.setCell ⟨vb, 3, none⟩ kv') vb) (w6.setCell ⟨vb, 3, none⟩ kv') kv' (Nd.keys t ++ [s]) :=
    strs_of_owns (N := w.heap.size + 1) (owns_moved hown' (fun g hg' => Below.heap_setCell _ _ _ _ (by show g ≠ vb; exact (hkb g hg').2.2.2)) (Nat.le_refl _)) (fun y hy => by rcases List.mem_append.1 hy with h | h; exact hk y h; rw [List.mem_singleton.1 h]; exact hs) (by rw [List.length_append, List.length_singleton]; omega) hkb
  refine ⟨⟨hvar, hlow.2.2, hlow.1, hlow.2.1, h.rw, hwv⟩, build_of i1 i2 i3 hst ?_⟩
  have hsame : Same (fun b => FreshV w w4 vb b ∧ kv.ownBlock ≠ some b) w4 (w6.setCell ⟨vb, 3, none⟩ kv') := fun b hb => hbl3 b hb.1.2.2.2 hb.1.2.1 hb.2
  have hin : ∀ b, (FreshV w w4 vb b ∧ kv.ownBlock ≠ some b) → FreshV w (w6.setCell ⟨vb, 3, none⟩ kv') vb b := fun b hb => ⟨hb.1.1, by rw [hz3]; have := hb.1.2.1; omega, hb.1.2.2.1.of_block (hsame b hb), hb.1.2.2.2⟩
  exact hl.moved hsame hin (fun x u hx => ValAt.moved hsame hin d x u hx)

theorem blk_set1 {w : World} {b : Nat} {T : TypeId} {c0 c1 c2 c3 c4 : Value} (h : Blk5 w b T c0 c1 c2 c3 c4) (u : Value) : Blk5 (w.setCell ⟨b, 1, none⟩ u) b T c0 u c2 c3 c4 := by
  unfold Blk5 at h ⊢
  simp [World.setCell, Array.getElem?_modify, h]
theorem blk_set2 {w : World} {b : Nat} {T : TypeId} {c0 c1 c2 c3 c4 : Value} (h : Blk5 w b T c0 c1 c2 c3 c4) (u : Value) : Blk5 (w.setCell ⟨b, 2, none⟩ u) b T c0 c1 u c3 c4 := by
  unfold Blk5 at h ⊢
  simp [World.setCell, Array.getElem?_modify, h]
theorem blk_set5 {w : World} {b : Nat} {T : TypeId} {c0 c1 c2 c3 c4 : Value} (h : Blk5 w b T c0 c1 c2 c3 c4) (v0 v1 v2 v3 v4 : Value) : Blk5 (set5 w b 0 v0 v1 v2 v3 v4) b T v0 v1 v2 v3 v4 := by
  unfold Blk5 at h ⊢
  simp [set5, World.setCell, Array.getElem?_modify, h]
theorem turn_set5 {S : Nat → Prop} {w : World} {b : Nat} (hb : S b) (v0 v1 v2 v3 v4 : Value) : Turn S w (set5 w b 0 v0 v1 v2 v3 v4) := by
  unfold set5
  exact (((((Turn.refl S w).set (a := ⟨b, 0, none⟩) hb v0).set (a := ⟨b, 0 + 1, none⟩) hb v1).set (a := ⟨b, 0 + 2, none⟩) hb v2).set (a := ⟨b, 0 + 3, none⟩) hb v3).set (a := ⟨b, 0 + 4, none⟩) hb v4

/-- A row of it alone. -/
theorem bent_wrap {w wr : World} {r p' vb d : Nat} {c0 c1 c2 c3 c4 : Value} {t : Tr d} (h : Bent w wr r p' vb c0 c1 c2 c3 c4) (hV : ValAt (FreshV w wr vb) wr d t (.agg #[c0, c1, c2, c3, c4])) :
    Bent w ((set5 wr vb 0 (.int .i64 5) (.int .i64 0) (.string { data := #[] }) (.slice none 0 0) (.slice (some ⟨wr.heap.size, 0, none⟩) 1 1)).alloc (.cells #[c0, c1, c2, c3, c4] 29)) r p' vb (.int .i64 5) (.int .i64 0) (.string { data := #[] }) (.slice none 0 0) (.slice (some ⟨wr.heap.size, 0, none⟩) 1 1) ∧
    ValAt (FreshV w ((set5 wr vb 0 (.int .i64 5) (.int .i64 0) (.string { data := #[] }) (.slice none 0 0) (.slice (some ⟨wr.heap.size, 0, none⟩) 1 1)).alloc (.cells #[c0, c1, c2, c3, c4] 29)) vb) ((set5 wr vb 0 (.int .i64 5) (.int .i64 0) (.string { data := #[] }) (.slice none 0 0) (.slice (some ⟨wr.heap.size, 0, none⟩) 1 1)).alloc (.cells #[c0, c1, c2, c3, c4] 29)) (d + 1) ({ kind := 5, num := 0, str := ⟨#[]⟩, keys := [], list := [t] } : Nd (Tr d)) (.agg #[.int .i64 5, .int .i64 0, .string { data := #[] }, .slice none 0 0, .slice (some ⟨wr.heap.size, 0, none⟩) 1 1]) := by
  obtain ⟨wS, hS⟩ : ∃ wS, wS = set5 wr vb 0 (.int .i64 5) (.int .i64 0) (.string { data := #[] }) (.slice none 0 0) (.slice (some ⟨wr.heap.size, 0, none⟩) 1 1) := ⟨_, rfl⟩
  have hz : wS.heap.size = wr.heap.size := by rw [hS]; exact set5_size _ _ _ _ _ _ _ _
  have hvl := h.var.lt
  have hwv := h.wv
  have ht : Turn (fun b => b = vb) wr wS := by rw [hS]; exact turn_set5 (S := fun b => b = vb) rfl _ _ _ _ _
  have hvar : Blk5 wS vb 29 (.int .i64 5) (.int .i64 0) (.string { data := #[] }) (.slice none 0 0) (.slice (some ⟨wr.heap.size, 0, none⟩) 1 1) := by rw [hS]; exact blk_set5 h.var _ _ _ _ _
  have h1 := h.low ht hvar
  have hV1 := FreshV.low hV ht
  rw [← hS]
  obtain ⟨wF, hF⟩ : ∃ wF, wF = wS.alloc (.cells #[c0, c1, c2, c3, c4] 29) := ⟨_, rfl⟩
  have ha : Below wS.heap.size wS wF := by rw [hF]; exact below_alloc1 _ _
  have hzF : wF.heap.size = wS.heap.size + 1 := by rw [hF]; simp
  have hnF : Blk5 wF wr.heap.size 29 c0 c1 c2 c3 c4 := by
    have := Blk5.new wS 29 c0 c1 c2 c3 c4
    rw [hz] at this
    rw [hF]
    exact this
  have hB := h1.go (But.of_below ha) (h1.rd.below ha)
  have hV2 := FreshV.go hV1 (But.of_below ha) h.rw
  rw [← hF]
  have hws : w.heap.size < wr.heap.size := by omega
  refine ⟨hB, build_of ⟨by omega, by omega⟩ ⟨by omega, by omega⟩ (by show (0 : Nat) < _; omega) ⟨by show (0 : Nat) < _; omega, (fun s hs => by cases hs), none, 0, rfl, Or.inl rfl⟩ ⟨by show (1 : Nat) < _; omega, some ⟨wr.heap.size, 0, none⟩, 1, rfl, Or.inr ⟨wr.heap.size, 0, ⟨by omega, by omega, ⟨_, _, hnF⟩, by omega⟩, rfl, fun i x hx => ?_⟩⟩⟩
  obtain ⟨e0, e1, e2, e3, e4⟩ := hnF.cell
  match i, hx with
  | 0, hx => cases hx; exact ⟨c0, c1, c2, c3, c4, e0, e1, e2, e3, e4, hV2⟩
  | i + 1, hx => simp at hx
end Go.Proofs.YtilgbnnjecpneaaGreatDoor

/- Drawn trees: l1Bent of the model. (written by genbent.py) -/
namespace Go.Proofs.YtilgbnnjecpneaaGreatDoor
open Go.RowKit Go.Deep

def bentKinds : List Int := [-1, 7, 5, 6, 3]
def bentNums : List Int := [1, 1000001, -1000001]
def bentTexts : List ByteArray := [⟨#[65]⟩, ⟨#[97, 98, 99, 100, 101, 102, 103, 104, 105, 106, 107, 108, 109]⟩, ⟨#[97]⟩]

set_option maxRecDepth 100000 in
set_option maxHeartbeats 2000000 in
theorem l1Bent_any (r p : Nat) (w : World) (h : Rd w r p) (hp : p + 380 ≤ 1000000) :
    Calls Tryz.prog 58 #[.pointer (some ⟨r, 0, none⟩)] w (DrawnV r p 380 10 360 w) := by
  have hr := h.lt
  have hb0 := below_alloc1 w (.cells #[.int .i64 0, .int .i64 0, .string { data := #[] }, .slice none 0 0, .slice none 0 0] 29)
  have kr := res_new w
  have hR0 := h.below hb0
  obtain ⟨W0, HW⟩ : ∃ W0, Hid (W0 = w.alloc (.cells #[.int .i64 0, .int .i64 0, .string { data := #[] }, .slice none 0 0, .slice none 0 0] 29)) := ⟨_, rfl⟩
  have hz0 : w.heap.size < W0.heap.size := by rw [HW.out]; simp
  rw [← HW.out] at hb0 kr hR0
  go_enter Tryz.func58, Tryz.ntmps58
  go_wp2_with fail
  rw [← HW.out]
  refine (l1Some_any r p W0 hR0 (by omega)).mono ?_
  rintro e w2 ⟨u, t, p2, rfl, hv, hw, hR2, hp2, hb2⟩
  obtain ⟨v0, v1, v2, v3, v4, v5, v6, v7, v8, rfl⟩ := hv.at.shape
  have hz2 : W0.heap.size ≤ w2.heap.size := hb2.size
  have kr2 := kr.butr hb2 (by omega)
  have hB2 := (But.of_below hb0).trans hb2
  have ha := below_alloc1 w2 (.cells #[.int .i64 v0, .int .i64 v1, .string v2, .slice v3 v4 v5, .slice v6 v7 v8] 29)
  have hBt : Bent w (w2.alloc (.cells #[.int .i64 v0, .int .i64 v1, .string v2, .slice v3 v4 v5, .slice v6 v7 v8] 29)) r p2 w2.heap.size (.int .i64 v0) (.int .i64 v1) (.string v2) (.slice v3 v4 v5) (.slice v6 v7 v8) :=
    ⟨Blk5.new w2 _ _ _ _ _ _, kr2.below ha, hR2.below ha, hB2.trans (But.of_below ha), hr, by omega⟩
  have hVt : KeyTop (w.heap.size + 1) (FreshV w (w2.alloc (.cells #[.int .i64 v0, .int .i64 v1, .string v2, .slice v3 v4 v5, .slice v6 v7 v8] 29)) w2.heap.size) (w2.alloc (.cells #[.int .i64 v0, .int .i64 v1, .string v2, .slice v3 v4 v5, .slice v6 v7 v8] 29)) 4 t (.agg #[.int .i64 v0, .int .i64 v1, .string v2, .slice v3 v4 v5, .slice v6 v7 v8]) :=
    hv.moved (fun b hb => ha.block b hb.1.2) (fun b hb => ⟨by have := hb.1.1; omega, by have := hb.1.2; simp; omega, hb.2.of_block (ha.block b hb.1.2), by have := hb.1.2; omega⟩) (by omega)
  obtain ⟨W3, HW3⟩ : ∃ W3, Hid (W3 = w2.alloc (.cells #[.int .i64 v0, .int .i64 v1, .string v2, .slice v3 v4 v5, .slice v6 v7 v8] 29)) := ⟨_, rfl⟩
  rw [← HW3.out] at hBt hVt
  have hVB := hide hVt
  clear hv hR2 hb2 kr hR0 hb0 hB2 kr2 ha h HW hz0 hVt
  go_wp2_with fail
  rw [← HW3.out]
  clear HW3
  refine (pick_any r p2 60 W3 hBt.rd (by omega) (by omega) (by omega)).mono ?_
  rintro e w4 ⟨k, rfl, k0, k1, h4, b4, z4⟩
  have hB4 := hBt.go b4 h4
  have hV4 := keyV_go hVB.out b4 hr
  have HB := hide hB4
  have HV := hide hV4
  have hvl := hB4.var.lt
  have hrl := hB4.rd.lt
  clear hB4 hV4 hBt hVB h4 b4 z4
  by_cases hk0 : k = 0
  · subst hk0
    go_wp2_with fail
    have ha := below_alloc1 w4 (.cells (bentKinds.map (Value.int .i64)).toArray 3)
    have hza : (w4.alloc (.cells (bentKinds.map (Value.int .i64)).toArray 3)).heap.size = w4.heap.size + 1 := by simp
    refine (num_any r (p2 + 1) w4.heap.size 0 5 bentKinds (w4.alloc (.cells (bentKinds.map (Value.int .i64)).toArray 3)) (HB.out.rd.below ha) (by omega) (by omega) (by omega) (ints_new w4 3 bentKinds) (by decide) (by decide)).mono ?_
    rintro e w5 ⟨x, rfl, hx, h5, b5, z5⟩
    have hxs : I64 x := by
      have : ∀ y ∈ bentKinds, -1 ≤ y ∧ y ≤ 1000000 := by decide
      have := this x hx
      exact ⟨by omega, by omega⟩
    have hB5 := (HB.out.go (But.of_below ha) (HB.out.rd.below ha)).go b5 h5
    have hV5 := (keyV_go (keyV_go HV.out (But.of_below ha) hr) b5 hr).at
    obtain ⟨e0, e1, e2, i0, i1, i2, hks, hls⟩ := parts_of (d := 3) hV5
    have hsh : v0 = Nd.kind t ∧ v1 = Nd.num t ∧ v2 = Nd.str t := by cases e0; cases e1; cases e2; exact ⟨rfl, rfl, rfl⟩
    obtain ⟨rfl, rfl, rfl⟩ := hsh
    have hN := build_of (d := 3) hxs i1 i2 hks hls
    have ht := turn_one w5 w2.heap.size 0 (.int .i64 x)
    have hB6 := hB5.low ht (hB5.var.set0 (.int .i64 x))
    have hF := hB6.final (p := p) (c := 380) (B := 360) ((FreshV.low hN ht).upN 6) (Nat.le_trans (Nat.le_of_eq (wtT_upN 4 6 _)) (Nat.le_trans (wt_new (d := 3) hw (Nat.le_succ _)) (by omega))) (by omega)
    have HF := hide hF
    obtain ⟨y0, y1, y2, y3, y4⟩ := hB5.var.cell
    have yf := hB5.var.frozen 0
    obtain ⟨u0, u1, u2, u3, u4⟩ := hB5.res.cell
    have uf := hB5.res.frozen
    have hvr := hB5.res.lt
    have hvl5 := hB5.var.lt
    have hwv := hB6.wv
    clear hF hB6 ht hN hB5 hV5 e0 e1 e2 i0 i1 i2 hks hls HB HV ha hza h5 b5 z5 hx hw
    go_wp2_with fail
    exact bodyPost_ret (v := .agg #[.int .i64 x, .int .i64 (Nd.num (α := Tr 3) t), .string (Nd.str (α := Tr 3) t), .slice v3 v4 v5, .slice v6 v7 v8]) (by simp [results, Tryz.results58, go_sem, u0, u1, u2, u3, u4]) rfl (HF.out _ rfl)
  have hk0' : (k == 0) = false := by simpa using hk0
  by_cases hk1 : k = 1
  · subst hk1
    go_wp2_with fail
    have ha := below_alloc1 w4 (.cells (bentNums.map (Value.int .i64)).toArray 3)
    have hza : (w4.alloc (.cells (bentNums.map (Value.int .i64)).toArray 3)).heap.size = w4.heap.size + 1 := by simp
    refine (num_any r (p2 + 1) w4.heap.size 0 3 bentNums (w4.alloc (.cells (bentNums.map (Value.int .i64)).toArray 3)) (HB.out.rd.below ha) (by omega) (by omega) (by omega) (ints_new w4 3 bentNums) (by decide) (by decide)).mono ?_
    rintro e w5 ⟨x, rfl, hx, h5, b5, z5⟩
    have hxs : I64 x := by
      have : ∀ y ∈ bentNums, -1000001 ≤ y ∧ y ≤ 1000001 := by decide
      have := this x hx
      exact ⟨by omega, by omega⟩
    have hB5 := (HB.out.go (But.of_below ha) (HB.out.rd.below ha)).go b5 h5
    have hV5 := (keyV_go (keyV_go HV.out (But.of_below ha) hr) b5 hr).at
    obtain ⟨e0, e1, e2, i0, i1, i2, hks, hls⟩ := parts_of (d := 3) hV5
    have hsh : v0 = Nd.kind t ∧ v1 = Nd.num t ∧ v2 = Nd.str t := by cases e0; cases e1; cases e2; exact ⟨rfl, rfl, rfl⟩
    obtain ⟨rfl, rfl, rfl⟩ := hsh
    have hN := build_of (d := 3) i0 hxs i2 hks hls
    have ht := turn_one w5 w2.heap.size 1 (.int .i64 x)
    have hB6 := hB5.low ht (blk_set1 hB5.var (.int .i64 x))
    have hF := hB6.final (p := p) (c := 380) (B := 360) ((FreshV.low hN ht).upN 6) (Nat.le_trans (Nat.le_of_eq (wtT_upN 4 6 _)) (Nat.le_trans (wt_new (d := 3) hw (Nat.le_succ _)) (by omega))) (by omega)
    have HF := hide hF
    obtain ⟨y0, y1, y2, y3, y4⟩ := hB5.var.cell
    have yf := hB5.var.frozen 1
    obtain ⟨u0, u1, u2, u3, u4⟩ := hB5.res.cell
    have uf := hB5.res.frozen
    have hvr := hB5.res.lt
    have hvl5 := hB5.var.lt
    have hwv := hB6.wv
    clear hF hB6 ht hN hB5 hV5 e0 e1 e2 i0 i1 i2 hks hls HB HV ha hza h5 b5 z5 hx hw
    go_wp2_with fail
    exact bodyPost_ret (v := .agg #[.int .i64 (Nd.kind (α := Tr 3) t), .int .i64 x, .string (Nd.str (α := Tr 3) t), .slice v3 v4 v5, .slice v6 v7 v8]) (by simp [results, Tryz.results58, go_sem, u0, u1, u2, u3, u4]) rfl (HF.out _ rfl)
  have hk1' : (k == 1) = false := by simpa using hk1
  by_cases hk2 : k = 2
  · subst hk2
    go_wp2_with fail
    have ha := below_alloc1 w4 (.cells (bentTexts.map Value.string).toArray 9)
    have hza : (w4.alloc (.cells (bentTexts.map Value.string).toArray 9)).heap.size = w4.heap.size + 1 := by simp
    refine (of_any r (p2 + 1) w4.heap.size 0 3 bentTexts (w4.alloc (.cells (bentTexts.map Value.string).toArray 9)) (HB.out.rd.below ha) (by omega) (by omega) (by omega) (texts_new w4 9 bentTexts) (by decide) (by decide)).mono ?_
    rintro e w5 ⟨x, rfl, hx, h5, b5, z5⟩
    have hxs : x.size < 281474976710656 := by
      have : ∀ y ∈ bentTexts, y.size ≤ 13 := by decide
      have := this x hx
      omega
    have hB5 := (HB.out.go (But.of_below ha) (HB.out.rd.below ha)).go b5 h5
    have hV5 := (keyV_go (keyV_go HV.out (But.of_below ha) hr) b5 hr).at
    obtain ⟨e0, e1, e2, i0, i1, i2, hks, hls⟩ := parts_of (d := 3) hV5
    have hsh : v0 = Nd.kind t ∧ v1 = Nd.num t ∧ v2 = Nd.str t := by cases e0; cases e1; cases e2; exact ⟨rfl, rfl, rfl⟩
    obtain ⟨rfl, rfl, rfl⟩ := hsh
    have hN := build_of (d := 3) i0 i1 hxs hks hls
    have ht := turn_one w5 w2.heap.size 2 (.string x)
    have hB6 := hB5.low ht (blk_set2 hB5.var (.string x))
    have hF := hB6.final (p := p) (c := 380) (B := 360) ((FreshV.low hN ht).upN 6) (Nat.le_trans (Nat.le_of_eq (wtT_upN 4 6 _)) (Nat.le_trans (wt_new (d := 3) hw (Nat.le_succ _)) (by omega))) (by omega)
    have HF := hide hF
    obtain ⟨y0, y1, y2, y3, y4⟩ := hB5.var.cell
    have yf := hB5.var.frozen 2
    obtain ⟨u0, u1, u2, u3, u4⟩ := hB5.res.cell
    have uf := hB5.res.frozen
    have hvr := hB5.res.lt
    have hvl5 := hB5.var.lt
    have hwv := hB6.wv
    clear hF hB6 ht hN hB5 hV5 e0 e1 e2 i0 i1 i2 hks hls HB HV ha hza h5 b5 z5 hx hw
    go_wp2_with fail
    exact bodyPost_ret (v := .agg #[.int .i64 (Nd.kind (α := Tr 3) t), .int .i64 (Nd.num (α := Tr 3) t), .string x, .slice v3 v4 v5, .slice v6 v7 v8]) (by simp [results, Tryz.results58, go_sem, u0, u1, u2, u3, u4]) rfl (HF.out _ rfl)
  have hk2' : (k == 2) = false := by simpa using hk2
  by_cases hk3 : k = 3
  · subst hk3
    obtain ⟨kv0, lv0, hu, i1, i2, i3, hks, hkl, ho, hob, hl⟩ := HV.out
    obtain ⟨rfl, rfl, rfl, rfl, rfl⟩ : v0 = Nd.kind t ∧ v1 = Nd.num t ∧ v2 = Nd.str t ∧ kv0 = .slice v3 v4 v5 ∧ lv0 = .slice v6 v7 v8 := by cases hu; exact ⟨rfl, rfl, rfl, rfl, rfl⟩
    have hkn : (Nd.keys t).length < 900 := by
      have e : wtT 4 t = 3 + (Nd.keys t).length + ((Nd.list t).map (wtT 3)).sum := rfl
      omega
    obtain ⟨j1, hj1, hz0', hz1', hz2'⟩ := info_parts Tryz.infoS2
    have hi := hide hj1
    have hown1 := ho.alloc (.cells #[.string ⟨#[97]⟩] 9)
    have hnb : ∀ g, (Value.slice v3 v4 v5).ownBlock = some g → w.heap.size + 1 ≤ g := fun g hg => (ho.lt g hg).1
    have hnv : ∀ g, (Value.slice v3 v4 v5).ownBlock = some g → g ≠ w2.heap.size := fun g hg => (hob g hg).2.2.2
    have hwv := HB.out.wv
    have hvr := HB.out.res.lt
    have hstep : Hid (∀ ty, ∃ v' w', (Builtin.append_ #[22, 22] ty #[.slice v3 v4 v5, .slice (some ⟨w4.heap.size, 0, none⟩) 1 1]).run Tryz.prog (w4.alloc (.cells #[.string ⟨#[97]⟩] 9)) = .ok v' w' ∧ Hid (∃ va vn vc, v' = .slice va vn vc ∧ w2.heap.size < w'.heap.size ∧ Blk5 w' w2.heap.size 29 (.int .i64 (Nd.kind (α := Tr 3) t)) (.int .i64 (Nd.num (α := Tr 3) t)) (.string (Nd.str (α := Tr 3) t)) (.slice v3 v4 v5) (.slice v6 v7 v8) ∧ Blk5 w' w.heap.size 29 (.int .i64 0) (.int .i64 0) (.string { data := #[] }) (.slice none 0 0) (.slice none 0 0) ∧
        ∀ wF, wF = set5 (w'.setCell ⟨w2.heap.size, 3, none⟩ (.slice va vn vc)) w.heap.size 0 (.int .i64 (Nd.kind (α := Tr 3) t)) (.int .i64 (Nd.num (α := Tr 3) t)) (.string (Nd.str (α := Tr 3) t)) (.slice va vn vc) (.slice v6 v7 v8) → DrawnV r p 380 10 360 w (.returned (.agg #[.int .i64 (Nd.kind (α := Tr 3) t), .int .i64 (Nd.num (α := Tr 3) t), .string (Nd.str (α := Tr 3) t), .slice va vn vc, .slice v6 v7 v8])) wF)) := by
      intro ty
      obtain ⟨v', w6, hrn, o1, o2, _, o3⟩ := run_append_own_at (P := Tryz.prog) (w4.alloc (.cells #[.string ⟨#[97]⟩] 9)) (w.heap.size + 1) 22 ty 9 j1 (.string ByteArray.empty) 1 16 Tryz.underlying22 hi.out hz0' hz1' hz2' rfl (by decide) _ _ _ hown1 ⟨w4.heap.size, 0, none⟩ 1 1 [.string ⟨#[97]⟩] rfl (cell_one_new _ _ _) (by intro y hy; simp at hy; rcases hy with rfl; rfl) (by unfold maxLen; omega) (by omega) (by rw [World.size_alloc]; omega)
      obtain ⟨va, vn, vc, rfl⟩ := row_slice o1
      have hbk := bent_key (d := 3) (s := ⟨#[97]⟩) HB.out HV.out hkn (by show (1 : Nat) < _; omega) o1 o2 o3
      have hF := hbk.1.final (p := p) (c := 380) (B := 360) (hbk.2.upN 6) (Nat.le_trans (Nat.le_of_eq (wtT_upN 4 6 _)) (Nat.le_trans (wt_new (d := 3) hw (by rw [List.length_append, List.length_singleton]; exact Nat.le_refl _)) (by omega))) (by omega)
      have hz6 := o2.size
      rw [World.size_alloc] at hz6
      refine ⟨_, w6, hrn, va, vn, vc, rfl, by omega, (HB.out.var.alloc _).of_block (o2.block w2.heap.size (by rw [World.size_alloc]; omega) (fun e => hnv _ e.symm rfl)), (HB.out.res.alloc _).of_block (o2.block w.heap.size (by rw [World.size_alloc]; omega) (fun e => by have := hnb _ e.symm; omega)), hF⟩
    obtain ⟨y0, y1, y2, y3, y4⟩ := HB.out.var.cell
    clear hj1 ho hob hl hu hown1 HB HV hnb hnv hi
    go_wp2_with (at_builtin; refine wpList_append_phi (fun v' w' => Hid (∃ va vn vc, v' = .slice va vn vc ∧ w2.heap.size < w'.heap.size ∧ Blk5 w' w2.heap.size 29 (.int .i64 (Nd.kind (α := Tr 3) t)) (.int .i64 (Nd.num (α := Tr 3) t)) (.string (Nd.str (α := Tr 3) t)) (.slice v3 v4 v5) (.slice v6 v7 v8) ∧ Blk5 w' w.heap.size 29 (.int .i64 0) (.int .i64 0) (.string { data := #[] }) (.slice none 0 0) (.slice none 0 0) ∧
        ∀ wF, wF = set5 (w'.setCell ⟨w2.heap.size, 3, none⟩ (.slice va vn vc)) w.heap.size 0 (.int .i64 (Nd.kind (α := Tr 3) t)) (.int .i64 (Nd.num (α := Tr 3) t)) (.string (Nd.str (α := Tr 3) t)) (.slice va vn vc) (.slice v6 v7 v8) → DrawnV r p 380 10 360 w (.returned (.agg #[.int .i64 (Nd.kind (α := Tr 3) t), .int .i64 (Nd.num (α := Tr 3) t), .string (Nd.str (α := Tr 3) t), .slice va vn vc, .slice v6 v7 v8])) wF)) rfl _ _ 22 rfl (.slice v3 v4 v5) (.slice (some ⟨w4.heap.size, 0, none⟩) 1 1) rfl rfl (hstep.out 22) ?_)
    rintro v' w6 hph
    obtain ⟨va, vn, vc, hvv, hz6, kv6, kr6, hF⟩ := hph.out
    have hVV : Hid (v' = .slice va vn vc) := hvv
    rw [hVV.out]
    have HF := hide hF
    obtain ⟨x0, x1, x2, x3, x4⟩ := kv6.cell
    have xf := kv6.frozen 3
    obtain ⟨u0, u1, u2, u3, u4⟩ := kr6.cell
    have uf := kr6.frozen
    have hvr6 := kr6.lt
    clear hph hstep kv6 kr6 hF hvv hVV y0 y1 y2 y3 y4
    go_wp2_with fail
    exact bodyPost_ret (v := .agg #[.int .i64 (Nd.kind (α := Tr 3) t), .int .i64 (Nd.num (α := Tr 3) t), .string (Nd.str (α := Tr 3) t), .slice va vn vc, .slice v6 v7 v8]) (by simp [results, Tryz.results58, go_sem, u0, u1, u2, u3, u4]) rfl HF.out
  have hk3' : (k == 3) = false := by simpa using hk3
  by_cases hk4 : k = 4
  · subst hk4
    have hL0 : Hid (∃ t' : Tr (4 + 0), ValAt (FreshV w w4 w2.heap.size) w4 (4 + 0) t' (.agg #[.int .i64 v0, .int .i64 v1, .string v2, .slice v3 v4 v5, .slice v6 v7 v8]) ∧ wtT (4 + 0) t' ≤ 339 + 3 * 0) := ⟨t, HV.out.at, hw⟩
    obtain ⟨y0, y1, y2, y3, y4⟩ := HB.out.var.cell
    clear HV
    go_wp2_with fail
    go_loopw [4] (fun i wr => ∃ (m : Nat) (q0 q1 : Int) (q2 : ByteArray) (q3 : Option Addr) (q4 q5 : Nat) (q6 : Option Addr) (q7 q8 : Nat), m ≤ 6 ∧ i = .int .i64 (m : Int) ∧ Hid (Bent w wr r (p2 + 1) w2.heap.size (.int .i64 q0) (.int .i64 q1) (.string q2) (.slice q3 q4 q5) (.slice q6 q7 q8)) ∧ Hid (∃ t' : Tr (4 + m), ValAt (FreshV w wr w2.heap.size) wr (4 + m) t' (.agg #[.int .i64 q0, .int .i64 q1, .string q2, .slice q3 q4 q5, .slice q6 q7 q8]) ∧ wtT (4 + m) t' ≤ 339 + 3 * m)) (fun i _ => 6 - (intOf i).toNat)
    case atStart => exact ⟨0, _, _, _, _, _, _, _, _, _, Nat.zero_le _, rfl, HB, hL0⟩
    case round =>
      clear hL0 y0 y1 y2 y3 y4 HB hvl hrl
      obtain ⟨m, q0, q1, q2, q3, q4, q5, q6, q7, q8, hm, rfl, HB, HT⟩ := hrel
      obtain ⟨y0, y1, y2, y3, y4⟩ := HB.out.var.cell
      have yf := HB.out.var.frozen
      have hvl := HB.out.var.lt
      by_cases hm6 : m < 6
      · have hm6' : (m : Int) < 6 := by omega
        obtain ⟨t', hV', hw'⟩ := HT.out
        have hwr := bent_wrap HB.out hV'
        have HB' := hide hwr.1
        have HT' : Hid (∃ t'' : Tr (4 + (m + 1)), ValAt (FreshV w ((set5 wr w2.heap.size 0 (.int .i64 5) (.int .i64 0) (.string { data := #[] }) (.slice none 0 0) (.slice (some ⟨wr.heap.size, 0, none⟩) 1 1)).alloc (.cells #[.int .i64 q0, .int .i64 q1, .string q2, .slice q3 q4 q5, .slice q6 q7 q8] 29)) w2.heap.size) ((set5 wr w2.heap.size 0 (.int .i64 5) (.int .i64 0) (.string { data := #[] }) (.slice none 0 0) (.slice (some ⟨wr.heap.size, 0, none⟩) 1 1)).alloc (.cells #[.int .i64 q0, .int .i64 q1, .string q2, .slice q3 q4 q5, .slice q6 q7 q8] 29)) (4 + (m + 1)) t'' (.agg #[.int .i64 5, .int .i64 0, .string { data := #[] }, .slice none 0 0, .slice (some ⟨wr.heap.size, 0, none⟩) 1 1]) ∧ wtT (4 + (m + 1)) t'' ≤ 339 + 3 * (m + 1)) :=
          ⟨_, hwr.2, by show 3 + 0 + (wtT (4 + m) t' + 0) ≤ _; omega⟩
        clear hwr hV' HT HB
        go_wp2_with fail
        go_roundw
        case rel => exact ⟨m + 1, _, _, _, _, _, _, _, _, _, by omega, by go_num, HB', HT'⟩
        case measure => simp [intOf]; omega
      · obtain rfl : m = 6 := by omega
        obtain ⟨t', hV', hw'⟩ := HT.out
        have HF := hide (HB.out.final (p := p) (c := 380) (B := 360) hV' (by omega) (by omega))
        obtain ⟨u0, u1, u2, u3, u4⟩ := HB.out.res.cell
        have uf := HB.out.res.frozen
        have hvr := HB.out.res.lt
        clear hV' HT HB
        go_wp2_with fail
        exact bodyPost_ret (v := .agg #[.int .i64 q0, .int .i64 q1, .string q2, .slice q3 q4 q5, .slice q6 q7 q8]) (by simp [results, Tryz.results58, go_sem, u0, u1, u2, u3, u4]) rfl (HF.out _ rfl)
  have hk4' : (k == 4) = false := by simpa using hk4
  have HF := hide (HB.out.final (p := p) (c := 380) (B := 360) (HV.out.at.upN 6) (Nat.le_trans (Nat.le_of_eq (wtT_upN 4 6 _)) (by omega)) (by omega))
  obtain ⟨y0, y1, y2, y3, y4⟩ := HB.out.var.cell
  obtain ⟨u0, u1, u2, u3, u4⟩ := HB.out.res.cell
  have uf := HB.out.res.frozen
  have hvr := HB.out.res.lt
  clear HB HV
  go_wp2_with fail
  exact bodyPost_ret (v := .agg #[.int .i64 v0, .int .i64 v1, .string v2, .slice v3 v4 v5, .slice v6 v7 v8]) (by simp [results, Tryz.results58, go_sem, u0, u1, u2, u3, u4]) rfl (HF.out _ rfl)
end Go.Proofs.YtilgbnnjecpneaaGreatDoor
