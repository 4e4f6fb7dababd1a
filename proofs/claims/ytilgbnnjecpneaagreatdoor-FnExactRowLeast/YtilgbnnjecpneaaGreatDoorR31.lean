/- Texts of the proof, put together by program: Read, WDeep, RLaid. -/
import Derived.Test.YtilgbnnjecpneaaGreatDoorR1
import Derived.Test.YtilgbnnjecpneaaGreatDoorRows
import Derived.Deep.Slices
import Derived.Deep.Strs
import Derived.SizedLaws
import Derived.OpenShut
import Derived.Lib.SmallJoins
import Derived.Carry
import Derived.Test.YtilgbnnjecpneaaGreatDoorR18
import Derived.Test.YtilgbnnjecpneaaGreatDoorR14
import Derived.ChangeSame
import Derived.ChangeVars
import Derived.JoinedOf
import Derived.RowKit
import Derived.RowKitTokens
import Derived.LaidLaws
import Derived.LaidHandle
import Derived.Stop.Joined
/- A tree that came in, read as data, lies in memory as a tree. -/
namespace Go.Proofs.YtilgbnnjecpneaaGreatDoor
open Go.RowKit Go.Deep

section
variable {H : Type} {enc : TypeId × Value → H} {W : World}

theorem addr_add {a : Addr} {n : Nat} (h : a.spot = none) : a.add n = ⟨a.block, a.off + n, none⟩ := by
  obtain ⟨b, o, s⟩ := a
  simp only at h
  subst h
  unfold Addr.add
  split
  · rename_i h0
    subst h0
    rfl
  · rfl
theorem cell_spot {a : Addr} {v : Value} (h : W.cell? a = some v) : a.spot = none ∧ a.block < W.heap.size := by
  refine ⟨?_, World.block_lt_of_cell? W a h⟩
  unfold World.cell? at h
  split at h
  · split at h
    · cases h
    · rename_i hs
      cases hs2 : a.spot with
      | none => rfl
      | some x => rw [hs2] at hs; simp at hs
  · cases h

theorem each_weight {e : TypeId} : ∀ {ds : List (DataW H)} {d : DataW H}, d ∈ ds → ∀ n ∈ d.weights Tryz.prog e, n ∈ DataW.weightsAll Tryz.prog e ds
  | _ :: r, d, h, n, hn => by
    rw [DataW.weightsAll]
    cases h with
    | head => exact List.mem_append_left _ hn
    | tail _ h => exact List.mem_append_right _ (each_weight h n hn)

/-- What the form's own reach says of a reading. -/
def Fits (t : TypeId) (d : DataW H) : Prop := ∀ n ∈ d.weights Tryz.prog t, n ≤ reachBytes

theorem read_strs {fuel : Nat} {cs : List Value} {x : DataW H × List MemPlace} (h : DataW.trod enc Tryz.prog W 0 (fun _ => true) true fuel 22 cs = some x) (hz : Fits 22 x.1) :
    ∃ v ss, cs = [v] ∧ StrsAt (fun b => b < W.heap.size) W v ss := by
  rcases open_strs Tryz.underlying22 Tryz.underlying9 (by kernel_rfl) h with ⟨rfl, _⟩ | ⟨a, len, cap, m, Sx, rfl, _, hl, hm, hmm, rfl, hc⟩
  · exact ⟨_, [], rfl, by simp, by simp, none, 0, rfl, Or.inl rfl⟩
  · simp only [if_true] at hmm
    subst hmm
    have hb : Tryz.prog.bytesOf 9 = 16 := by kernel_rfl
    have hw : ∀ n ∈ (((List.range len).map (fun i => (DataW.lit (.string (Sx i).data.toList) : DataW H))).length + ((List.range (m - len)).map (fun j => (DataW.lit (.string (Sx (len + j)).data.toList) : DataW H))).length) * 16 ::
        (DataW.weightsAll Tryz.prog 9 ((List.range len).map (fun i => (DataW.lit (.string (Sx i).data.toList) : DataW H))) ++ DataW.weightsAll Tryz.prog 9 ((List.range (m - len)).map (fun j => (DataW.lit (.string (Sx (len + j)).data.toList) : DataW H)))), n ≤ reachBytes := by
      intro n hn
      refine hz n ?_
      simp only [DataW.weights, Tryz.underlying22, hb]
      exact hn
    have h1 := hw _ (List.mem_cons_self ..)
    simp only [List.length_map, List.length_range] at h1
    unfold reachBytes at h1 hw
    refine ⟨_, (List.range len).map Sx, rfl, ?_, ?_, some a, m, by simp, ?_⟩
    · simp
      omega
    · intro s hs
      obtain ⟨i, hi, rfl⟩ := List.mem_map.1 hs
      have h2 := hw (Sx i).size (List.mem_cons_of_mem _ (List.mem_append_left _ (each_weight (List.mem_map.2 ⟨i, hi, rfl⟩) _ (by simp [DataW.weights]))))
      omega
    · by_cases h0 : len = 0
      · subst h0
        exact Or.inl rfl
      · have hsp := cell_spot (hc 0 (by omega)).1
        have hsp2 : a.spot = none := by
          have e : (a.add 0) = a := by simp [Addr.add]
          rw [e] at hsp
          exact hsp.1
        have hblk : a.block < W.heap.size := by
          have e : (a.add 0) = a := by simp [Addr.add]
          rw [e] at hsp
          exact hsp.2
        refine Or.inr ⟨a.block, a.off, hblk, ?_, fun i s hi => ?_⟩
        · obtain ⟨b, o, sp⟩ := a
          simp only at hsp2
          subst hsp2
          rfl
        · obtain ⟨hi1, hi2⟩ := List.getElem?_eq_some_iff.1 hi
          simp only [List.length_map, List.length_range] at hi1
          simp only [List.getElem_map, List.getElem_range] at hi2
          subst hi2
          have := (hc i (by omega)).1
          rwa [addr_add hsp2] at this

theorem wf_i64 {n : Int} (h : (Lit.int .i64 n).wf = true) : I64 n := by
  simp [Lit.wf, IntKind.min, IntKind.max, IntKind.signed, IntKind.bits] at h
  exact h

/-- The weights of a struct's parts. -/
theorem agg_weight {t : TypeId} {fs : Array Field} (ht : Tryz.prog.underlying t = some (.struct fs)) {parts : List (DataW H)} (hz : Fits t (.agg parts)) {i : Nat} {f : Field} {d : DataW H} (hf : fs[i]? = some f) (hd : parts[i]? = some d) : Fits f.type d := by
  intro n hn
  refine hz n ?_
  simp only [DataW.weights, ht]
  exact DataW.weights_mem_each (ts := fs.toList.map (·.type)) (by rw [List.getElem?_map, Array.getElem?_toList, hf]; rfl) hd n hn

theorem choose_list {α : Type} {p : Nat → α → Prop} : ∀ (n : Nat), (∀ i, i < n → ∃ x, p i x) → ∃ xs : List α, xs.length = n ∧ ∀ i x, xs[i]? = some x → p i x
  | 0, _ => ⟨[], rfl, fun i x h => by simp at h⟩
  | n + 1, h => by
    obtain ⟨xs, hl, hx⟩ := choose_list n (fun i hi => h i (by omega))
    obtain ⟨y, hy⟩ := h n (by omega)
    refine ⟨xs ++ [y], by simp [hl], fun i x hi => ?_⟩
    by_cases e : i < n
    · rw [List.getElem?_append_left (by omega)] at hi
      exact hx i x hi
    · have hlt := (List.getElem?_eq_some_iff.1 hi).1
      simp [hl] at hlt
      obtain rfl : i = n := by omega
      rw [List.getElem?_append_right (by omega), hl, Nat.sub_self] at hi
      cases hi
      exact hy

theorem cells5 {a : Addr} {cs : List Value} (h : W.cells? 0 a 5 = some cs) : ∃ c0 c1 c2 c3 c4, cs = [c0, c1, c2, c3, c4] ∧ W.cell? (a.add 0) = some c0 ∧ W.cell? (a.add 1) = some c1 ∧ W.cell? (a.add 2) = some c2 ∧ W.cell? (a.add 3) = some c3 ∧ W.cell? (a.add 4) = some c4 := by
  unfold World.cells? at h
  rw [if_pos (Nat.zero_le _)] at h
  simp only [show List.range 5 = [0, 1, 2, 3, 4] from rfl, List.mapM_cons, List.mapM_nil, Option.pure_def, Option.bind_eq_bind, Option.bind_eq_some_iff, Option.some.injEq] at h
  obtain ⟨c0, h0, r0, ⟨c1, h1, r1, ⟨c2, h2, r2, ⟨c3, h3, r3, ⟨c4, h4, r4, e5, e4⟩, e3⟩, e2⟩, e1⟩, e0⟩ := h
  subst e5 e4 e3 e2 e1 e0
  exact ⟨c0, c1, c2, c3, c4, rfl, h0, h1, h2, h3, h4⟩

set_option maxRecDepth 100000 in
theorem read_val : ∀ (N fuel : Nat), fuel ≤ N → ∀ (cs : List Value) (x : DataW H × List MemPlace), DataW.trod enc Tryz.prog W 0 (fun _ => true) true fuel 25 cs = some x → Fits 25 x.1 →
    ∃ t : Tr N, ValAt (fun b => b < W.heap.size) W N t (.agg cs.toArray)
  | 0, fuel, hN, cs, x, h, _ => by
    obtain rfl : fuel = 0 := by omega
    simp [DataW.trod] at h
  | N + 1, fuel, hN, cs, x, h, hz => by
    have ih := read_val N
    obtain ⟨xs, n, hn, rfl, hl, hlen, hf⟩ := DataW.trod_struct Tryz.underlying25 h
    have hcs : Tryz.prog.cellsOf 25 = 5 := by kernel_rfl
    have c3 : Tryz.prog.cellsOf 3 = 1 := by kernel_rfl
    have c9 : Tryz.prog.cellsOf 9 = 1 := by kernel_rfl
    have c22 : Tryz.prog.cellsOf 22 = 1 := by kernel_rfl
    have c23 : Tryz.prog.cellsOf 23 = 1 := by kernel_rfl
    have hby : Tryz.prog.bytesOf 25 = 80 := by kernel_rfl
    rw [hcs] at hl
    match cs, hl with
    | [v0, v1, v2, v3, v4], _ =>
      match xs, hlen with
      | [y0, y1, y2, y3, y4], _ =>
        have f0 := hf 0 _ rfl
        have f1 := hf 1 _ rfl
        have f2 := hf 2 _ rfl
        have f3 := hf 3 _ rfl
        have f4 := hf 4 _ rfl
        simp [c3, c9, c22, c23] at f0 f1 f2 f3 f4
        have z2 := agg_weight Tryz.underlying25 hz (i := 2) rfl rfl
        have z3 := agg_weight Tryz.underlying25 hz (i := 3) rfl rfl
        have z4 := agg_weight Tryz.underlying25 hz (i := 4) rfl rfl
        clear hf h hz
        obtain ⟨k, e0, _, w0⟩ := DataW.trod_int Tryz.underlying3 f0
        obtain ⟨m, e1, _, w1⟩ := DataW.trod_int Tryz.underlying3 f1
        obtain ⟨s, e2, e2', _⟩ := DataW.trod_string Tryz.underlying9 f2
        obtain ⟨v, ss, e3, hss⟩ := read_strs f3 z3
        cases e0
        cases e1
        cases e2
        cases e3
        have hs : s.size < 281474976710656 := by
          subst e2'
          have := z2 s.size (by simp [DataW.weights])
          unfold reachBytes at this
          omega
        rcases DataW.trod_slice Tryz.underlying23 f4 with ⟨e4, _⟩ | ⟨a, len, cap, elems, rest, q, hq, e4, e4', _, hlc, _, hel, hels, hsp, _⟩
        · cases e4
          exact ⟨Nd.mk k m s ss [], _, _, rfl, wf_i64 w0, wf_i64 w1, hs, hss, by simp, none, 0, rfl, Or.inl rfl⟩
        · cases e4
          subst e4'
          obtain ⟨hrl, _⟩ := hsp rfl
          have hw : ∀ n ∈ ((elems.map (·.1)).length + (rest.map (·.1)).length) * 80 :: (DataW.weightsAll Tryz.prog 25 (elems.map (·.1)) ++ DataW.weightsAll Tryz.prog 25 (rest.map (·.1))), n ≤ reachBytes := by
            intro n hn
            have z4' : Fits 23 (DataW.slice (elems.map (·.1)) (rest.map (·.1))) := z4
            refine z4' n ?_
            simp only [DataW.weights, Tryz.underlying23, hby]
            exact hn
          have hwl := hw _ (List.mem_cons_self ..)
          simp only [List.length_map] at hwl
          unfold reachBytes at hwl
          rw [hcs] at hels
          have each : ∀ i, i < len → ∃ t : Tr N, ∃ c0 c1 c2 c3 c4, (W.cell? ((a.add (i * 5)).add 0) = some c0 ∧ W.cell? ((a.add (i * 5)).add 1) = some c1 ∧ W.cell? ((a.add (i * 5)).add 2) = some c2 ∧ W.cell? ((a.add (i * 5)).add 3) = some c3 ∧ W.cell? ((a.add (i * 5)).add 4) = some c4) ∧
              ValAt (fun b => b < W.heap.size) W N t (.agg #[c0, c1, c2, c3, c4]) := by
            intro i hi
            have h1 := hels i hi
            rw [List.getElem?_eq_getElem (by omega)] at h1
            obtain ⟨cs', h2, h3⟩ := Option.bind_eq_some_iff.1 h1
            obtain ⟨c0, c1, c2, c3, c4, rfl, g0, g1, g2, g3, g4⟩ := cells5 h2
            obtain ⟨t, ht⟩ := ih q (by omega) _ _ h3 (fun n hn => hw n (List.mem_cons_of_mem _ (List.mem_append_left _ (each_weight (List.mem_map.2 ⟨_, List.getElem_mem (by omega), rfl⟩) n hn))))
            exact ⟨t, c0, c1, c2, c3, c4, ⟨g0, g1, g2, g3, g4⟩, ht⟩
          obtain ⟨ts, htl, hts⟩ := choose_list len each
          refine ⟨Nd.mk k m s ss ts, _, _, rfl, wf_i64 w0, wf_i64 w1, hs, hss, by show ts.length < 3518437208883; omega, some a, cap, by show _ = Value.slice (some a) ts.length cap; rw [htl], ?_⟩
          by_cases h0 : len = 0
          · exact Or.inl (List.eq_nil_of_length_eq_zero (by show ts.length = 0; omega))
          · obtain ⟨_, c0, _, _, _, _, ⟨g0, _⟩, _⟩ := each 0 (by omega)
            have hsp := cell_spot g0
            have e : ((a.add (0 * 5)).add 0) = a := by simp [Addr.add]
            rw [e] at hsp
            refine Or.inr ⟨a.block, a.off, hsp.2, ?_, fun i x hi => ?_⟩
            · obtain ⟨b, o, sp⟩ := a
              have := hsp.1
              simp only at this
              subst this
              rfl
            · obtain ⟨c0, c1, c2, c3, c4, ⟨g0, g1, g2, g3, g4⟩, hv⟩ := hts i x hi
              rw [addr_add hsp.1, addr_add rfl] at g0 g1 g2 g3 g4
              exact ⟨c0, c1, c2, c3, c4, g0, g1, g2, g3, g4, hv⟩

/-- An argument that is a tree. -/
theorem read_arg {v : Value} {d : DataW H} {p : List MemPlace} (hs : ∃ cs, v = .agg cs) (h : DataW.Trod enc Tryz.prog W 0 (fun _ => true) true 25 v d p) (hz : Fits 25 d) :
    ∃ (N : Nat) (t : Tr N), ValAt (fun b => b < W.heap.size) W N t v := by
  obtain ⟨cs, rfl⟩ := hs
  obtain ⟨fuel, hf⟩ := h
  obtain ⟨t, ht⟩ := read_val fuel fuel (Nat.le_refl _) _ _ hf hz
  exact ⟨fuel, t, by simpa [Value.cells] using ht⟩
end
end Go.Proofs.YtilgbnnjecpneaaGreatDoor

/- A tree that lies in memory, as one that may be as deep as one likes. -/
namespace Go.Proofs.YtilgbnnjecpneaaGreatDoor

theorem deepTo {S : Nat → Prop} {w : World} {v : Value} {N : Nat} {t : Tr N} (h : ValAt S w N t v) (M : Nat) (hM : N ≤ M) : ∃ t' : Tr M, ValAt S w M t' v := by
  induction hM with
  | refl => exact ⟨t, h⟩
  | step _ ih =>
    obtain ⟨t', h'⟩ := ih
    exact ⟨up _ t', ValAt.up _ _ _ h'⟩
end Go.Proofs.YtilgbnnjecpneaaGreatDoor

/- The one variable that the rows list: what it holds when a call begins. -/
namespace Go.Proofs.YtilgbnnjecpneaaGreatDoor
open Go.ChangeShapes Go.WideShapes Go.RowKit

theorem Tryz.own : ownKnob Tryz.prog.godebug = none := by kernel_rfl
theorem Tryz.laidOut : laidOutB Tryz.prog = true := by kernel_rfl
/-- The listed variable, with its datum. -/
def laidV : List (String × DataW Unit) := [("errors.errorType", Rows.laid_errors_errorType)]
/-- The name of the type that stands for a type. -/
def rtName : String := match (Rows.laid_errors_errorType : DataW Unit) with | .iface s _ => s | _ => ""
theorem Tryz.et : Tryz.prog.globalNamed "errors.errorType" = some 0 := by kernel_rfl
theorem Tryz.rt : (Tryz.prog.cutTypes.find? (·.1 == rtName)).map (·.2) = some 161 := by kernel_rfl
theorem Tryz.oneRow : ((List.range Tryz.prog.types.size).filter fun t => Tryz.prog.rowNamed t [101, 114, 114, 111, 114]) = [66] := by kernel_rfl

theorem errType_of_laid {W : World} (h : laidMetH Tryz.prog laidV W) : ErrType W := by
  have h' : laidMet Tryz.prog [] W ∧ handlesMet Tryz.prog laidV W := h
  obtain ⟨name, u, ty, e1, e2, e3, e4, e5⟩ := h'.2 _ (List.mem_singleton.2 rfl)
  have en : name = [101, 114, 114, 111, 114] := (Option.some.inj e1).symm
  subst en
  obtain rfl := Option.some.inj (Tryz.rt.symm.trans e2)
  have hm : ty ∈ (List.range Tryz.prog.types.size).filter fun t => Tryz.prog.rowNamed t [101, 114, 114, 111, 114] := List.mem_filter.2 ⟨List.mem_range.2 e3, e4⟩
  rw [Tryz.oneRow] at hm
  obtain rfl := List.mem_singleton.1 hm
  have hh : typeHandle Tryz.prog 66 = .pointer (some ⟨1, 66, none⟩) := by kernel_rfl
  rw [hh] at e5
  exact World.var?_cell Tryz.et e5 0
end Go.Proofs.YtilgbnnjecpneaaGreatDoor
