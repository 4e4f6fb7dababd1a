/- Steps that came in, read as data, lie in memory as steps. -/
import Derived.Test.YtmkoeomkbbmoaaaRead
import Derived.Test.YtmkoeomkbbmoaaaWStep
import Derived.ChangeArms
namespace Go.Proofs.Ytmkoeomkbbmoaaa
open Go.RowKit Go.Deep

section
variable {H : Type} {enc : TypeId × Value → H} {W : World}

theorem cells3 {a : Addr} {cs : List Value} (h : W.cells? 0 a 3 = some cs) : ∃ c0 c1 c2, cs = [c0, c1, c2] ∧ W.cell? (a.add 0) = some c0 ∧ W.cell? (a.add 1) = some c1 ∧ W.cell? (a.add 2) = some c2 := by
  unfold World.cells? at h
  rw [if_pos (Nat.zero_le _)] at h
  simp only [show List.range 3 = [0, 1, 2] from rfl, List.mapM_cons, List.mapM_nil, Option.pure_def, Option.bind_eq_bind, Option.bind_eq_some_iff, Option.some.injEq] at h
  obtain ⟨c0, h0, r0, ⟨c1, h1, r1, ⟨c2, h2, r2, e3, e2⟩, e1⟩, e0⟩ := h
  subst e3 e2 e1 e0
  exact ⟨c0, c1, c2, rfl, h0, h1, h2⟩

set_option maxRecDepth 100000 in
theorem read_step {fuel : Nat} {cs : List Value} {x : DataW H × List MemPlace} (h : DataW.trod enc Try.prog W 0 (fun _ => true) true fuel 66 cs = some x) (hz : Fits 66 x.1) :
    ∃ p : Stp, StpFit p ∧ cs = [.bool p.map, .string p.key, .int .i64 p.place] := by
  obtain ⟨xs, n, hn, rfl, hl, hlen, hf⟩ := DataW.trod_struct Try.underlying66 h
  have hcs : Try.prog.cellsOf 66 = 3 := by kernel_rfl
  have c4 : Try.prog.cellsOf 4 = 1 := by kernel_rfl
  have c9 : Try.prog.cellsOf 9 = 1 := by kernel_rfl
  have c3 : Try.prog.cellsOf 3 = 1 := by kernel_rfl
  rw [hcs] at hl
  match cs, hl with
  | [v0, v1, v2], _ =>
    match xs, hlen with
    | [y0, y1, y2], _ =>
      have f0 := hf 0 _ rfl
      have f1 := hf 1 _ rfl
      have f2 := hf 2 _ rfl
      simp [c3, c9, c4] at f0 f1 f2
      have z1 := agg_weight Try.underlying66 hz (i := 1) rfl rfl
      obtain ⟨b, e0, _⟩ := DataW.trod_bool Try.underlying4 f0
      obtain ⟨s, e1, e1', _⟩ := DataW.trod_string Try.underlying9 f1
      obtain ⟨k, e2, _, w2⟩ := DataW.trod_int Try.underlying3 f2
      cases e0
      cases e1
      cases e2
      refine ⟨⟨b, s, k⟩, ⟨?_, wf_i64 w2⟩, rfl⟩
      subst e1'
      have := z1 s.size (by simp [DataW.weights])
      unfold reachBytes at this
      show s.size < _
      omega

set_option maxRecDepth 100000 in
theorem read_steps {fuel : Nat} {cs : List Value} {x : DataW H × List MemPlace} (h : DataW.trod enc Try.prog W 0 (fun _ => true) true fuel 30 cs = some x) (hz : Fits 30 x.1) :
    ∃ v ps, cs = [v] ∧ StepsAt (fun b => b < W.heap.size) W v ps := by
  have hcs : Try.prog.cellsOf 66 = 3 := by kernel_rfl
  have hby : Try.prog.bytesOf 66 = 32 := by kernel_rfl
  rcases DataW.trod_slice Try.underlying30 h with ⟨e4, _⟩ | ⟨a, len, cap, elems, rest, q, hq, e4, e4', _, hlc, _, hel, hels, hsp, _⟩
  · cases e4
    exact ⟨_, [], rfl, by simp, by simp, none, 0, rfl, Or.inl rfl⟩
  · cases e4
    subst e4'
    obtain ⟨hrl, _⟩ := hsp rfl
    have hw : ∀ n ∈ ((elems.map (·.1)).length + (rest.map (·.1)).length) * 32 :: (DataW.weightsAll Try.prog 66 (elems.map (·.1)) ++ DataW.weightsAll Try.prog 66 (rest.map (·.1))), n ≤ reachBytes := by
      intro n hn
      have z4' : Fits 30 (DataW.slice (elems.map (·.1)) (rest.map (·.1))) := hz
      refine z4' n ?_
      simp only [DataW.weights, Try.underlying30, hby]
      exact hn
    have hwl := hw _ (List.mem_cons_self ..)
    simp only [List.length_map] at hwl
    unfold reachBytes at hwl
    rw [hcs] at hels
    have each : ∀ i, i < len → ∃ p : Stp, StpFit p ∧ W.cell? ((a.add (i * 3)).add 0) = some (.bool p.map) ∧ W.cell? ((a.add (i * 3)).add 1) = some (.string p.key) ∧ W.cell? ((a.add (i * 3)).add 2) = some (.int .i64 p.place) := by
      intro i hi
      have h1 := hels i hi
      rw [List.getElem?_eq_getElem (by omega)] at h1
      obtain ⟨cs', h2, h3⟩ := Option.bind_eq_some_iff.1 h1
      obtain ⟨c0, c1, c2, rfl, g0, g1, g2⟩ := cells3 h2
      obtain ⟨p, hp, hc⟩ := read_step h3 (fun n hn => hw n (List.mem_cons_of_mem _ (List.mem_append_left _ (each_weight (List.mem_map.2 ⟨_, List.getElem_mem (by omega), rfl⟩) n hn))))
      cases hc
      exact ⟨p, hp, g0, g1, g2⟩
    obtain ⟨ps, htl, hts⟩ := choose_list len each
    refine ⟨_, ps, rfl, by omega, fun p hp => ?_, some a, cap, by rw [htl], ?_⟩
    · obtain ⟨i, hi⟩ := List.getElem?_of_mem hp
      exact (hts i p hi).1
    · by_cases h0 : len = 0
      · exact Or.inl (List.eq_nil_of_length_eq_zero (by omega))
      · obtain ⟨_, _, g0, _⟩ := each 0 (by omega)
        have hsp := cell_spot g0
        have e : ((a.add (0 * 3)).add 0) = a := by simp [Addr.add]
        rw [e] at hsp
        refine Or.inr ⟨a.block, a.off, hsp.2, ?_, fun i x hi => ?_⟩
        · obtain ⟨b, o, sp⟩ := a
          have := hsp.1
          simp only at this
          subst this
          rfl
        · obtain ⟨_, g0, g1, g2⟩ := hts i x hi
          rw [addr_add hsp.1, addr_add rfl] at g0 g1 g2
          exact ⟨g0, g1, g2⟩

/-- An argument that is steps. -/
theorem read_steps_arg {v : Value} {d : DataW H} {p : List MemPlace} (hs : ∃ a n c, v = .slice a n c) (h : DataW.Trod enc Try.prog W 0 (fun _ => true) true 30 v d p) (hz : Fits 30 d) :
    ∃ ps, StepsAt (fun b => b < W.heap.size) W v ps := by
  obtain ⟨a, n, c, rfl⟩ := hs
  obtain ⟨fuel, hf⟩ := h
  obtain ⟨v, ps, hv, hps⟩ := read_steps hf hz
  cases hv
  exact ⟨ps, hps⟩
end
end Go.Proofs.Ytmkoeomkbbmoaaa
