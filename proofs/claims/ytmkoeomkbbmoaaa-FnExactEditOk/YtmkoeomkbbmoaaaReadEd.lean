/- Edits that came in, read as data, lie in memory as edits. -/
import Derived.Test.YtmkoeomkbbmoaaaReadSt
import Derived.Test.YtmkoeomkbbmoaaaWEd
namespace Go.Proofs.Ytmkoeomkbbmoaaa
open Go.RowKit Go.Deep

section
variable {H : Type} {enc : TypeId × Value → H} {W : World}

theorem cells13 {a : Addr} {cs : List Value} (h : W.cells? 0 a 13 = some cs) : ∃ c0 c1 c2 c3 c4 c5 c6 c7 c8 c9 c10 c11 c12, cs = [c0, c1, c2, c3, c4, c5, c6, c7, c8, c9, c10, c11, c12] ∧ W.cell? (a.add 0) = some c0 ∧ W.cell? (a.add 1) = some c1 ∧ W.cell? (a.add 2) = some c2 ∧ W.cell? (a.add 3) = some c3 ∧ W.cell? (a.add 4) = some c4 ∧ W.cell? (a.add 5) = some c5 ∧ W.cell? (a.add 6) = some c6 ∧ W.cell? (a.add 7) = some c7 ∧ W.cell? (a.add 8) = some c8 ∧ W.cell? (a.add 9) = some c9 ∧ W.cell? (a.add 10) = some c10 ∧ W.cell? (a.add 11) = some c11 ∧ W.cell? (a.add 12) = some c12 := by
  unfold World.cells? at h
  rw [if_pos (Nat.zero_le _)] at h
  simp only [show List.range 13 = [0, 1, 2, 3, 4, 5, 6, 7, 8, 9, 10, 11, 12] from rfl, List.mapM_cons, List.mapM_nil, Option.pure_def, Option.bind_eq_bind, Option.bind_eq_some_iff, Option.some.injEq] at h
  obtain ⟨c0, h0, r0, ⟨c1, h1, r1, ⟨c2, h2, r2, ⟨c3, h3, r3, ⟨c4, h4, r4, ⟨c5, h5, r5, ⟨c6, h6, r6, ⟨c7, h7, r7, ⟨c8, h8, r8, ⟨c9, h9, r9, ⟨c10, h10, r10, ⟨c11, h11, r11, ⟨c12, h12, r12, e13, e12⟩, e11⟩, e10⟩, e9⟩, e8⟩, e7⟩, e6⟩, e5⟩, e4⟩, e3⟩, e2⟩, e1⟩, e0⟩ := h
  subst e13 e12 e11 e10 e9 e8 e7 e6 e5 e4 e3 e2 e1 e0
  exact ⟨c0, c1, c2, c3, c4, c5, c6, c7, c8, c9, c10, c11, c12, rfl, h0, h1, h2, h3, h4, h5, h6, h7, h8, h9, h10, h11, h12⟩

set_option maxRecDepth 100000 in
theorem read_edit {N fuel : Nat} (hN : fuel ≤ N) {cs : List Value} {x : DataW H × List MemPlace} (h : DataW.trod enc Try.prog W 0 (fun _ => true) true fuel 36 cs = some x) (hz : Fits 36 x.1) :
    ∃ e : Ed N, ∃ a0 a1 p0 p1 p2 p3 p4 p5 p6 p7 p8 q0 q1 q2 q3 q4 q5 q6 q7 q8, cs = [.slice a0 e.path.length a1, .int .i64 p0, .int .i64 p1, .string p2, .slice p3 p4 p5, .slice p6 p7 p8, .bool e.had, .int .i64 q0, .int .i64 q1, .string q2, .slice q3 q4 q5, .slice q6 q7 q8, .bool e.has] ∧ EdParts (fun b => b < W.heap.size) W e (.slice a0 e.path.length a1) (.agg #[.int .i64 p0, .int .i64 p1, .string p2, .slice p3 p4 p5, .slice p6 p7 p8]) (.agg #[.int .i64 q0, .int .i64 q1, .string q2, .slice q3 q4 q5, .slice q6 q7 q8]) := by
  obtain ⟨xs, n, hn, rfl, hl, hlen, hf⟩ := DataW.trod_struct Try.underlying36 h
  have hcs : Try.prog.cellsOf 36 = 13 := by kernel_rfl
  have cb : Try.prog.cellsOf 4 = 1 := by kernel_rfl
  have cp : Try.prog.cellsOf 30 = 1 := by kernel_rfl
  have cv : Try.prog.cellsOf 34 = 5 := by kernel_rfl
  rw [hcs] at hl
  match cs, hl with
  | [c0, c1, c2, c3, c4, c5, c6, c7, c8, c9, c10, c11, c12], _ =>
    match xs, hlen with
    | [y0, y1, y2, y3, y4], _ =>
      have f0 := hf 0 _ rfl
      have f1 := hf 1 _ rfl
      have f2 := hf 2 _ rfl
      have f3 := hf 3 _ rfl
      have f4 := hf 4 _ rfl
      simp [cb, cp, cv] at f0 f1 f2 f3 f4
      have z0 := agg_weight Try.underlying36 hz (i := 0) rfl rfl
      have z1 := agg_weight Try.underlying36 hz (i := 1) rfl rfl
      have z3 := agg_weight Try.underlying36 hz (i := 3) rfl rfl
      clear hf h hz
      obtain ⟨v, ps, e0, hps⟩ := read_steps f0 z0
      obtain ⟨t1, ht1⟩ := read_val (N + 1) _ (by omega) _ _ f1 z1
      obtain ⟨b2, e2, _⟩ := DataW.trod_bool Try.underlying4 f2
      obtain ⟨t3, ht3⟩ := read_val (N + 1) _ (by omega) _ _ f3 z3
      obtain ⟨b4, e4, _⟩ := DataW.trod_bool Try.underlying4 f4
      cases e0
      cases e2
      cases e4
      obtain ⟨a0, a1, rfl, _⟩ := hps.open'
      obtain ⟨p0, p1, p2, p3, p4, p5, p6, p7, p8, hp⟩ := ht1.shape
      obtain ⟨q0, q1, q2, q3, q4, q5, q6, q7, q8, hq⟩ := ht3.shape
      cases hp
      cases hq
      exact ⟨⟨ps, t1, b2, t3, b4⟩, a0, a1, p0, p1, p2, p3, p4, p5, p6, p7, p8, q0, q1, q2, q3, q4, q5, q6, q7, q8, rfl, hps, ht1, ht3⟩

set_option maxRecDepth 100000 in
theorem read_edits {fuel : Nat} {cs : List Value} {x : DataW H × List MemPlace} (h : DataW.trod enc Try.prog W 0 (fun _ => true) true fuel 22 cs = some x) (hz : Fits 22 x.1) :
    ∃ v, ∃ es : List (Ed fuel), cs = [v] ∧ EdsAt (fun b => b < W.heap.size) W v es := by
  have hcs : Try.prog.cellsOf 36 = 13 := by kernel_rfl
  have hby : Try.prog.bytesOf 36 = 200 := by kernel_rfl
  rcases DataW.trod_slice Try.underlying22 h with ⟨e4, _⟩ | ⟨a, len, cap, elems, rest, q, hq, e4, e4', _, hlc, _, hel, hels, hsp, _⟩
  · cases e4
    exact ⟨_, [], rfl, by simp, none, 0, rfl, Or.inl rfl⟩
  · cases e4
    subst e4'
    obtain ⟨hrl, _⟩ := hsp rfl
    have hw : ∀ n ∈ ((elems.map (·.1)).length + (rest.map (·.1)).length) * 200 :: (DataW.weightsAll Try.prog 36 (elems.map (·.1)) ++ DataW.weightsAll Try.prog 36 (rest.map (·.1))), n ≤ reachBytes := by
      intro n hn
      have z4' : Fits 22 (DataW.slice (elems.map (·.1)) (rest.map (·.1))) := hz
      refine z4' n ?_
      simp only [DataW.weights, Try.underlying22, hby]
      exact hn
    have hwl := hw _ (List.mem_cons_self ..)
    simp only [List.length_map] at hwl
    unfold reachBytes at hwl
    rw [hcs] at hels
    have each : ∀ i, i < len → ∃ e : Ed fuel, ∃ a0 a1 p0 p1 p2 p3 p4 p5 p6 p7 p8 q0 q1 q2 q3 q4 q5 q6 q7 q8, (W.cell? ((a.add (i * 13)).add 0) = some (.slice a0 e.path.length a1) ∧ W.cell? ((a.add (i * 13)).add 1) = some (.int .i64 p0) ∧ W.cell? ((a.add (i * 13)).add 2) = some (.int .i64 p1) ∧ W.cell? ((a.add (i * 13)).add 3) = some (.string p2) ∧ W.cell? ((a.add (i * 13)).add 4) = some (.slice p3 p4 p5) ∧ W.cell? ((a.add (i * 13)).add 5) = some (.slice p6 p7 p8) ∧ W.cell? ((a.add (i * 13)).add 6) = some (.bool e.had) ∧ W.cell? ((a.add (i * 13)).add 7) = some (.int .i64 q0) ∧ W.cell? ((a.add (i * 13)).add 8) = some (.int .i64 q1) ∧ W.cell? ((a.add (i * 13)).add 9) = some (.string q2) ∧ W.cell? ((a.add (i * 13)).add 10) = some (.slice q3 q4 q5) ∧ W.cell? ((a.add (i * 13)).add 11) = some (.slice q6 q7 q8) ∧ W.cell? ((a.add (i * 13)).add 12) = some (.bool e.has)) ∧ EdParts (fun b => b < W.heap.size) W e (.slice a0 e.path.length a1) (.agg #[.int .i64 p0, .int .i64 p1, .string p2, .slice p3 p4 p5, .slice p6 p7 p8]) (.agg #[.int .i64 q0, .int .i64 q1, .string q2, .slice q3 q4 q5, .slice q6 q7 q8]) := by
      intro i hi
      have h1 := hels i hi
      rw [List.getElem?_eq_getElem (by omega)] at h1
      obtain ⟨cs', h2, h3⟩ := Option.bind_eq_some_iff.1 h1
      obtain ⟨c0, c1, c2, c3, c4, c5, c6, c7, c8, c9, c10, c11, c12, rfl, g0, g1, g2, g3, g4, g5, g6, g7, g8, g9, g10, g11, g12⟩ := cells13 h2
      obtain ⟨e, a0, a1, p0, p1, p2, p3, p4, p5, p6, p7, p8, q0, q1, q2, q3, q4, q5, q6, q7, q8, hc, hp⟩ := read_edit (N := fuel) (by omega) h3 (fun n hn => hw n (List.mem_cons_of_mem _ (List.mem_append_left _ (each_weight (List.mem_map.2 ⟨_, List.getElem_mem (by omega), rfl⟩) n hn))))
      cases hc
      exact ⟨e, a0, a1, p0, p1, p2, p3, p4, p5, p6, p7, p8, q0, q1, q2, q3, q4, q5, q6, q7, q8, ⟨g0, g1, g2, g3, g4, g5, g6, g7, g8, g9, g10, g11, g12⟩, hp⟩
    obtain ⟨es, htl, hts⟩ := choose_list len each
    refine ⟨_, es, rfl, by omega, some a, cap, by rw [htl], ?_⟩
    by_cases h0 : len = 0
    · exact Or.inl (List.eq_nil_of_length_eq_zero (by omega))
    · obtain ⟨_, _, _, _, _, _, _, _, _, _, _, _, _, _, _, _, _, _, _, _, _, ⟨g0, _⟩, _⟩ := each 0 (by omega)
      have hsp := cell_spot g0
      have e : ((a.add (0 * 13)).add 0) = a := by simp [Addr.add]
      rw [e] at hsp
      refine Or.inr ⟨a.block, a.off, hsp.2, ?_, fun i x hi => ?_⟩
      · obtain ⟨b, o, sp⟩ := a
        have := hsp.1
        simp only at this
        subst this
        rfl
      · obtain ⟨a0, a1, p0, p1, p2, p3, p4, p5, p6, p7, p8, q0, q1, q2, q3, q4, q5, q6, q7, q8, ⟨g0, g1, g2, g3, g4, g5, g6, g7, g8, g9, g10, g11, g12⟩, hp⟩ := hts i x hi
        rw [addr_add hsp.1, addr_add rfl] at g0 g1 g2 g3 g4 g5 g6 g7 g8 g9 g10 g11 g12
        exact ⟨a0, a1, p0, p1, p2, p3, p4, p5, p6, p7, p8, q0, q1, q2, q3, q4, q5, q6, q7, q8, g0, g1, g2, g3, g4, g5, g6, g7, g8, g9, g10, g11, g12, hp⟩

/-- An argument that is edits. -/
theorem read_edits_arg {v : Value} {d : DataW H} {p : List MemPlace} (hs : ∃ a n c, v = .slice a n c) (h : DataW.Trod enc Try.prog W 0 (fun _ => true) true 22 v d p) (hz : Fits 22 d) :
    ∃ (N : Nat) (es : List (Ed N)), EdsAt (fun b => b < W.heap.size) W v es := by
  obtain ⟨a, n, c, rfl⟩ := hs
  obtain ⟨fuel, hf⟩ := h
  obtain ⟨v, es, hv, hes⟩ := read_edits hf hz
  cases hv
  exact ⟨fuel, es, hes⟩
end
end Go.Proofs.Ytmkoeomkbbmoaaa
