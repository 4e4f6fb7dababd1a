/- Texts of the proof, put together by program: Read, RLaid, WTop, WGTo, WPutL, WPutP, WTopR, WSetP, PPathQ, WMapS, WPutR. -/
import Derived.Test.YtmibjmipndffmaaGreatDoorQ1
import Derived.Test.YtmibjmipndffmaaGreatDoorRows
import Derived.Deep.Slices
import Derived.Deep.Strs
import Derived.SizedLaws
import Derived.OpenShut
import Derived.Lib.SmallJoins
import Derived.Carry
import Derived.Test.YtmibjmipndffmaaGreatDoorQ5
import Derived.ChangeSame
import Derived.ChangeVars
import Derived.JoinedOf
import Derived.RowKit
import Derived.RowKitTokens
import Derived.LaidLaws
import Derived.LaidHandle
import Derived.Stop.Joined
import Derived.Test.YtmibjmipndffmaaGreatDoorQ7
import Derived.Test.YtmibjmipndffmaaGreatDoorQ4
import Derived.Test.YtmibjmipndffmaaGreatDoorQ9
import Derived.Test.YtmibjmipndffmaaGreatDoorQ2
/- A tree that came in, read as data, lies in memory as a tree. -/
namespace Go.Proofs.YtmibjmipndffmaaGreatDoor
open Go.RowKit Go.Deep

section
variable {H : Type} {enc : TypeId × Value → H} {W : World}

theorem addr_add {a : Addr} {n : Nat} (h : a.spot = none) : a.add n = ⟨a.block, a.off + n, none⟩ := by
  obtain ⟨b, o, s⟩ := a
  simp only at h
  subst h
  unfold Addr.add
  split
  · rename_i h0
    subst h0
    rfl
  · rfl
theorem cell_spot {a : Addr} {v : Value} (h : W.cell? a = some v) : a.spot = none ∧ a.block < W.heap.size := by
  refine ⟨?_, World.block_lt_of_cell? W a h⟩
  unfold World.cell? at h
  split at h
  · split at h
    · cases h
    · rename_i hs
      cases hs2 : a.spot with
      | none => rfl
      | some x => rw [hs2] at hs; simp at hs
  · cases h

theorem each_weight {e : TypeId} : ∀ {ds : List (DataW H)} {d : DataW H}, d ∈ ds → ∀ n ∈ d.weights Tryz.prog e, n ∈ DataW.weightsAll Tryz.prog e ds
  | _ :: r, d, h, n, hn => by
    rw [DataW.weightsAll]
    cases h with
    | head => exact List.mem_append_left _ hn
    | tail _ h => exact List.mem_append_right _ (each_weight h n hn)

/-- What the form's own reach says of a reading. -/
def Fits (t : TypeId) (d : DataW H) : Prop := ∀ n ∈ d.weights Tryz.prog t, n ≤ reachBytes

theorem read_strs {fuel : Nat} {cs : List Value} {x : DataW H × List MemPlace} (h : DataW.trod enc Tryz.prog W 0 (fun _ => true) true fuel 23 cs = some x) (hz : Fits 23 x.1) :
    ∃ v ss, cs = [v] ∧ StrsAt (fun b => b < W.heap.size) W v ss := by
  rcases open_strs Tryz.underlying23 Tryz.underlying9 (by kernel_rfl) h with ⟨rfl, _⟩ | ⟨a, len, cap, m, Sx, rfl, _, hl, hm, hmm, rfl, hc⟩
  · exact ⟨_, [], rfl, by simp, by simp, none, 0, rfl, Or.inl rfl⟩
  · simp only [if_true] at hmm
    subst hmm
    have hb : Tryz.prog.bytesOf 9 = 16 := by kernel_rfl
    have hw : ∀ n ∈ (((List.range len).map (fun i => (DataW.lit (.string (Sx i).data.toList) : DataW H))).length + ((List.range (m - len)).map (fun j => (DataW.lit (.string (Sx (len + j)).data.toList) : DataW H))).length) * 16 ::
        (DataW.weightsAll Tryz.prog 9 ((List.range len).map (fun i => (DataW.lit (.string (Sx i).data.toList) : DataW H))) ++ DataW.weightsAll Tryz.prog 9 ((List.range (m - len)).map (fun j => (DataW.lit (.string (Sx (len + j)).data.toList) : DataW H)))), n ≤ reachBytes := by
      intro n hn
      refine hz n ?_
      simp only [DataW.weights, Tryz.underlying23, hb]
      exact hn
    have h1 := hw _ (List.mem_cons_self ..)
    simp only [List.length_map, List.length_range] at h1
    unfold reachBytes at h1 hw
    refine ⟨_, (List.range len).map Sx, rfl, ?_, ?_, some a, m, by simp, ?_⟩
    · simp
      omega
    · intro s hs
      obtain ⟨i, hi, rfl⟩ := List.mem_map.1 hs
      have h2 := hw (Sx i).size (List.mem_cons_of_mem _ (List.mem_append_left _ (each_weight (List.mem_map.2 ⟨i, hi, rfl⟩) _ (by simp [DataW.weights]))))
      omega
    · by_cases h0 : len = 0
      · subst h0
        exact Or.inl rfl
      · have hsp := cell_spot (hc 0 (by omega)).1
        have hsp2 : a.spot = none := by
          have e : (a.add 0) = a := by simp [Addr.add]
          rw [e] at hsp
          exact hsp.1
        have hblk : a.block < W.heap.size := by
          have e : (a.add 0) = a := by simp [Addr.add]
          rw [e] at hsp
          exact hsp.2
        refine Or.inr ⟨a.block, a.off, hblk, ?_, fun i s hi => ?_⟩
        · obtain ⟨b, o, sp⟩ := a
          simp only at hsp2
          subst hsp2
          rfl
        · obtain ⟨hi1, hi2⟩ := List.getElem?_eq_some_iff.1 hi
          simp only [List.length_map, List.length_range] at hi1
          simp only [List.getElem_map, List.getElem_range] at hi2
          subst hi2
          have := (hc i (by omega)).1
          rwa [addr_add hsp2] at this

theorem wf_i64 {n : Int} (h : (Lit.int .i64 n).wf = true) : I64 n := by
  simp [Lit.wf, IntKind.min, IntKind.max, IntKind.signed, IntKind.bits] at h
  exact h

/-- The weights of a struct's parts. -/
theorem agg_weight {t : TypeId} {fs : Array Field} (ht : Tryz.prog.underlying t = some (.struct fs)) {parts : List (DataW H)} (hz : Fits t (.agg parts)) {i : Nat} {f : Field} {d : DataW H} (hf : fs[i]? = some f) (hd : parts[i]? = some d) : Fits f.type d := by
  intro n hn
  refine hz n ?_
  simp only [DataW.weights, ht]
  exact DataW.weights_mem_each (ts := fs.toList.map (·.type)) (by rw [List.getElem?_map, Array.getElem?_toList, hf]; rfl) hd n hn

theorem choose_list {α : Type} {p : Nat → α → Prop} : ∀ (n : Nat), (∀ i, i < n → ∃ x, p i x) → ∃ xs : List α, xs.length = n ∧ ∀ i x, xs[i]? = some x → p i x
  | 0, _ => ⟨[], rfl, fun i x h => by simp at h⟩
  | n + 1, h => by
    obtain ⟨xs, hl, hx⟩ := choose_list n (fun i hi => h i (by omega))
    obtain ⟨y, hy⟩ := h n (by omega)
    refine ⟨xs ++ [y], by simp [hl], fun i x hi => ?_⟩
    by_cases e : i < n
    · rw [List.getElem?_append_left (by omega)] at hi
      exact hx i x hi
    · have hlt := (List.getElem?_eq_some_iff.1 hi).1
      simp [hl] at hlt
      obtain rfl : i = n := by omega
      rw [List.getElem?_append_right (by omega), hl, Nat.sub_self] at hi
      cases hi
      exact hy

theorem cells5 {a : Addr} {cs : List Value} (h : W.cells? 0 a 5 = some cs) : ∃ c0 c1 c2 c3 c4, cs = [c0, c1, c2, c3, c4] ∧ W.cell? (a.add 0) = some c0 ∧ W.cell? (a.add 1) = some c1 ∧ W.cell? (a.add 2) = some c2 ∧ W.cell? (a.add 3) = some c3 ∧ W.cell? (a.add 4) = some c4 := by
  unfold World.cells? at h
  rw [if_pos (Nat.zero_le _)] at h
  simp only [show List.range 5 = [0, 1, 2, 3, 4] from rfl, List.mapM_cons, List.mapM_nil, Option.pure_def, Option.bind_eq_bind, Option.bind_eq_some_iff, Option.some.injEq] at h
  obtain ⟨c0, h0, r0, ⟨c1, h1, r1, ⟨c2, h2, r2, ⟨c3, h3, r3, ⟨c4, h4, r4, e5, e4⟩, e3⟩, e2⟩, e1⟩, e0⟩ := h
  subst e5 e4 e3 e2 e1 e0
  exact ⟨c0, c1, c2, c3, c4, rfl, h0, h1, h2, h3, h4⟩

set_option maxRecDepth 100000 in
theorem read_val : ∀ (N fuel : Nat), fuel ≤ N → ∀ (cs : List Value) (x : DataW H × List MemPlace), DataW.trod enc Tryz.prog W 0 (fun _ => true) true fuel 51 cs = some x → Fits 51 x.1 →
    ∃ t : Tr N, ValAt (fun b => b < W.heap.size) W N t (.agg cs.toArray)
  | 0, fuel, hN, cs, x, h, _ => by
    obtain rfl : fuel = 0 := by omega
    simp [DataW.trod] at h
  | N + 1, fuel, hN, cs, x, h, hz => by
    have ih := read_val N
    obtain ⟨xs, n, hn, rfl, hl, hlen, hf⟩ := DataW.trod_struct Tryz.underlying51 h
    have hcs : Tryz.prog.cellsOf 51 = 5 := by kernel_rfl
    have c3 : Tryz.prog.cellsOf 3 = 1 := by kernel_rfl
    have c9 : Tryz.prog.cellsOf 9 = 1 := by kernel_rfl
    have c22 : Tryz.prog.cellsOf 23 = 1 := by kernel_rfl
    have c23 : Tryz.prog.cellsOf 49 = 1 := by kernel_rfl
    have hby : Tryz.prog.bytesOf 51 = 80 := by kernel_rfl
    rw [hcs] at hl
    match cs, hl with
    | [v0, v1, v2, v3, v4], _ =>
      match xs, hlen with
      | [y0, y1, y2, y3, y4], _ =>
        have f0 := hf 0 _ rfl
        have f1 := hf 1 _ rfl
        have f2 := hf 2 _ rfl
        have f3 := hf 3 _ rfl
        have f4 := hf 4 _ rfl
        simp [c3, c9, c22, c23] at f0 f1 f2 f3 f4
        have z2 := agg_weight Tryz.underlying51 hz (i := 2) rfl rfl
        have z3 := agg_weight Tryz.underlying51 hz (i := 3) rfl rfl
        have z4 := agg_weight Tryz.underlying51 hz (i := 4) rfl rfl
        clear hf h hz
        obtain ⟨k, e0, _, w0⟩ := DataW.trod_int Tryz.underlying3 f0
        obtain ⟨m, e1, _, w1⟩ := DataW.trod_int Tryz.underlying3 f1
        obtain ⟨s, e2, e2', _⟩ := DataW.trod_string Tryz.underlying9 f2
        obtain ⟨v, ss, e3, hss⟩ := read_strs f3 z3
        cases e0
        cases e1
        cases e2
        cases e3
        have hs : s.size < 281474976710656 := by
          subst e2'
          have := z2 s.size (by simp [DataW.weights])
          unfold reachBytes at this
          omega
        rcases DataW.trod_slice Tryz.underlying49 f4 with ⟨e4, _⟩ | ⟨a, len, cap, elems, rest, q, hq, e4, e4', _, hlc, _, hel, hels, hsp, _⟩
        · cases e4
          exact ⟨Nd.mk k m s ss [], _, _, rfl, wf_i64 w0, wf_i64 w1, hs, hss, by simp, none, 0, rfl, Or.inl rfl⟩
        · cases e4
          subst e4'
          obtain ⟨hrl, _⟩ := hsp rfl
          have hw : ∀ n ∈ ((elems.map (·.1)).length + (rest.map (·.1)).length) * 80 :: (DataW.weightsAll Tryz.prog 51 (elems.map (·.1)) ++ DataW.weightsAll Tryz.prog 51 (rest.map (·.1))), n ≤ reachBytes := by
            intro n hn
            have z4' : Fits 49 (DataW.slice (elems.map (·.1)) (rest.map (·.1))) := z4
            refine z4' n ?_
            simp only [DataW.weights, Tryz.underlying49, hby]
            exact hn
          have hwl := hw _ (List.mem_cons_self ..)
          simp only [List.length_map] at hwl
          unfold reachBytes at hwl
          rw [hcs] at hels
          have each : ∀ i, i < len → ∃ t : Tr N, ∃ c0 c1 c2 c3 c4, (W.cell? ((a.add (i * 5)).add 0) = some c0 ∧ W.cell? ((a.add (i * 5)).add 1) = some c1 ∧ W.cell? ((a.add (i * 5)).add 2) = some c2 ∧ W.cell? ((a.add (i * 5)).add 3) = some c3 ∧ W.cell? ((a.add (i * 5)).add 4) = some c4) ∧
              ValAt (fun b => b < W.heap.size) W N t (.agg #[c0, c1, c2, c3, c4]) := by
            intro i hi
            have h1 := hels i hi
            rw [List.getElem?_eq_getElem (by omega)] at h1
            obtain ⟨cs', h2, h3⟩ := Option.bind_eq_some_iff.1 h1
            obtain ⟨c0, c1, c2, c3, c4, rfl, g0, g1, g2, g3, g4⟩ := cells5 h2
            obtain ⟨t, ht⟩ := ih q (by omega) _ _ h3 (fun n hn => hw n (List.mem_cons_of_mem _ (List.mem_append_left _ (each_weight (List.mem_map.2 ⟨_, List.getElem_mem (by omega), rfl⟩) n hn))))
            exact ⟨t, c0, c1, c2, c3, c4, ⟨g0, g1, g2, g3, g4⟩, ht⟩
          obtain ⟨ts, htl, hts⟩ := choose_list len each
          refine ⟨Nd.mk k m s ss ts, _, _, rfl, wf_i64 w0, wf_i64 w1, hs, hss, by show ts.length < 3518437208883; omega, some a, cap, by show _ = Value.slice (some a) ts.length cap; rw [htl], ?_⟩
          by_cases h0 : len = 0
          · exact Or.inl (List.eq_nil_of_length_eq_zero (by show ts.length = 0; omega))
          · obtain ⟨_, c0, _, _, _, _, ⟨g0, _⟩, _⟩ := each 0 (by omega)
            have hsp := cell_spot g0
            have e : ((a.add (0 * 5)).add 0) = a := by simp [Addr.add]
            rw [e] at hsp
            refine Or.inr ⟨a.block, a.off, hsp.2, ?_, fun i x hi => ?_⟩
            · obtain ⟨b, o, sp⟩ := a
              have := hsp.1
              simp only at this
              subst this
              rfl
            · obtain ⟨c0, c1, c2, c3, c4, ⟨g0, g1, g2, g3, g4⟩, hv⟩ := hts i x hi
              rw [addr_add hsp.1, addr_add rfl] at g0 g1 g2 g3 g4
              exact ⟨c0, c1, c2, c3, c4, g0, g1, g2, g3, g4, hv⟩

/-- An argument that is a tree. -/
theorem read_arg {v : Value} {d : DataW H} {p : List MemPlace} (hs : ∃ cs, v = .agg cs) (h : DataW.Trod enc Tryz.prog W 0 (fun _ => true) true 51 v d p) (hz : Fits 51 d) :
    ∃ (N : Nat) (t : Tr N), ValAt (fun b => b < W.heap.size) W N t v := by
  obtain ⟨cs, rfl⟩ := hs
  obtain ⟨fuel, hf⟩ := h
  obtain ⟨t, ht⟩ := read_val fuel fuel (Nat.le_refl _) _ _ hf hz
  exact ⟨fuel, t, by simpa [Value.cells] using ht⟩
end
end Go.Proofs.YtmibjmipndffmaaGreatDoor

/- The one variable that the rows list: what it holds when a call begins. -/
namespace Go.Proofs.YtmibjmipndffmaaGreatDoor
open Go.ChangeShapes Go.WideShapes Go.RowKit

theorem Tryz.own : ownKnob Tryz.prog.godebug = none := by kernel_rfl
theorem Tryz.laidOut : laidOutB Tryz.prog = true := by kernel_rfl
/-- The listed variable, with its datum. -/
def laidV : List (String × DataW Unit) := [("errors.errorType", Rows.laid_errors_errorType)]
/-- The name of the type that stands for a type. -/
def rtName : String := match (Rows.laid_errors_errorType : DataW Unit) with | .iface s _ => s | _ => ""
theorem Tryz.et : Tryz.prog.globalNamed "errors.errorType" = some 0 := by kernel_rfl
theorem Tryz.rt : (Tryz.prog.cutTypes.find? (·.1 == rtName)).map (·.2) = some 197 := by kernel_rfl
theorem Tryz.oneRow : ((List.range Tryz.prog.types.size).filter fun t => Tryz.prog.rowNamed t [101, 114, 114, 111, 114]) = [72] := by kernel_rfl

theorem errType_of_laid {W : World} (h : laidMetH Tryz.prog laidV W) : ErrType W := by
  have h' : laidMet Tryz.prog [] W ∧ handlesMet Tryz.prog laidV W := h
  obtain ⟨name, u, ty, e1, e2, e3, e4, e5⟩ := h'.2 _ (List.mem_singleton.2 rfl)
  have en : name = [101, 114, 114, 111, 114] := (Option.some.inj e1).symm
  subst en
  obtain rfl := Option.some.inj (Tryz.rt.symm.trans e2)
  have hm : ty ∈ (List.range Tryz.prog.types.size).filter fun t => Tryz.prog.rowNamed t [101, 114, 114, 111, 114] := List.mem_filter.2 ⟨List.mem_range.2 e3, e4⟩
  rw [Tryz.oneRow] at hm
  obtain rfl := List.mem_singleton.1 hm
  have hh : typeHandle Tryz.prog 72 = .pointer (some ⟨1, 72, none⟩) := by kernel_rfl
  rw [hh] at e5
  exact World.var?_cell Tryz.et e5 0
end Go.Proofs.YtmibjmipndffmaaGreatDoor

/- treeOf, given: what is topmost owns its memory. -/
namespace Go.Proofs.YtmibjmipndffmaaGreatDoor
open Go.RowKit Go.Deep

theorem TopOwn.moved {d N M : Nat} {w w' : World} {t : Nd (Tr d)} {u : Value} (h : TopOwn N w t u) (hb : Below w.heap.size w w') (hM : M ≤ N) : TopOwn M w' t u := by
  refine ⟨fun h5 => ?_, fun h6 => ?_⟩
  · obtain ⟨sv, vs, e, ht⟩ := h.1 h5
    exact ⟨sv, vs, e, ht.moved hb hM⟩
  · obtain ⟨r, es, e, h1, h2, h3, hm⟩ := h.2 h6
    have hz := hb.size
    exact ⟨r, es, e, by omega, by omega, (hb.block r h2).trans h3, hm.moved (fun x u hx => TreeAt.moved (fun b hb' => hb.block b hb'.2.1) (fun b hb' => ⟨by have := hb'.1; omega, by have := hb'.2.1; omega, hb'.2.2⟩) d x u hx)⟩

set_option maxHeartbeats 1000000 in
theorem treeOf_own (d : Nat) (S : Nat → Prop) (t : Nd (Tr d)) (v : Value) (w : World) (hv : ValAt S w (d + 1) t v) (hS : Within S w) :
    Calls Tryz.prog 51 #[v] w fun e w' => ∃ u, e = .returned (.tuple #[u, .bool (treeP (d + 1) t 60 1).1]) ∧ ((treeP (d + 1) t 60 1).1 = true → TreeAt (Fresh w w') w' (d + 1) t u ∧ TopOwn w.heap.size w' t u) ∧ Below w.heap.size w w' := by
  obtain ⟨k, n, s, ak, lk, ck, al, ll, cl, rfl⟩ := hv.shape
  have hA : Below w.heap.size w ((w.alloc (.cells #[.int .i64 k, .int .i64 n, .string s, .slice ak lk ck, .slice al ll cl] 26)).alloc (.cells #[.int .i64 60] 135)) := below_trans (below_alloc1 _ _) (below_alloc1 _ _)
  have hr : Room ((w.alloc (.cells #[.int .i64 k, .int .i64 n, .string s, .slice ak lk ck, .slice al ll cl] 26)).alloc (.cells #[.int .i64 60] 135)) (w.heap.size + 1) 60 := by
    have := heap_alloc_new (w.alloc (.cells #[.int .i64 k, .int .i64 n, .string s, .slice ak lk ck, .slice al ll cl] 26)) (.cells #[.int .i64 60] 135)
    simpa [Room] using this
  go_enter Tryz.func51, Tryz.ntmps51
  go_wp2_with fail
  refine (tree_own d S t _ 60 1 (w.heap.size + 1) _ (hv.same (hS.same hA)) (hS.later hA.size) (fun h => by have := hS _ h; omega) hr (by omega) (by omega) (by omega) (by omega)).mono ?_
  rintro e w1 ⟨u, rfl, hu, _, hb1⟩
  have HB : Hid (Below w.heap.size w w1) := by
    refine ⟨hb1.os.trans hA.os, hb1.tape.trans hA.tape, hb1.output.trans hA.output, Nat.le_trans hA.size hb1.size, fun i hi => ?_⟩
    exact (hb1.block i (Nat.lt_of_lt_of_le hi hA.size) (fun e => by cases e; omega)).trans (hA.block i hi)
  have hin : ∀ b, Fresh ((w.alloc (.cells #[.int .i64 k, .int .i64 n, .string s, .slice ak lk ck, .slice al ll cl] 26)).alloc (.cells #[.int .i64 60] 135)) w1 b → Fresh w w1 b := fun b hb => ⟨Nat.le_trans hA.size hb.1, hb.2⟩
  have HU : Hid ((treeP (d + 1) t 60 1).1 = true → TreeAt (Fresh w w1) w1 (d + 1) t u ∧ TopOwn w.heap.size w1 t u) := fun h => ⟨TreeAt.moved (Same.refl _ _) hin (d + 1) t u (hu h).1, (hu h).2.moved (Below.refl _ _) hA.size⟩
  clear hu hb1 hr hA hv hin
  go_wp2_with fail
  go_ret2
  exact ⟨u, rfl, HU.out, HB.out⟩


/-- A tree whose topmost list or map is its own, or why there is none. -/
def GivenQ (d : Nat) (t : Nd (Tr d)) (w : World) (e : Ending) (w' : World) : Prop :=
  Below w.heap.size w w' ∧ ((okT (d + 1) t = true ∧ ∃ u, e = .returned (.tuple #[u, .nilIface]) ∧ TreeG (Fresh w w') w' (d + 1) t u ∧ TopOwn w.heap.size w' t u) ∨ (okT (d + 1) t = false ∧ ∃ why, e = .returned (.tuple #[.nilIface, faultV why])))

set_option maxRecDepth 100000 in
set_option maxHeartbeats 1000000 in
theorem given_own (d : Nat) (S : Nat → Prop) (t : Nd (Tr d)) (v : Value) (w : World) (hv : ValAt S w (d + 1) t v) (hS : Within S w) :
    Calls Tryz.prog 45 #[v] w (GivenQ d t w) := by
  obtain ⟨k, n, s, ak, lk, ck, al, ll, cl, rfl⟩ := hv.shape
  have hA := below_alloc1 w (.cells #[.int .i64 k, .int .i64 n, .string s, .slice ak lk ck, .slice al ll cl] 26)
  go_enter Tryz.func45, Tryz.ntmps45
  go_wp2_with fail
  refine (treeOf_own d S t _ _ (hv.same (hS.same hA)) (hS.later hA.size)).mono ?_
  rintro e w1 ⟨u, rfl, hu, hb1⟩
  have hpo : (treeP (d + 1) t 60 1).1 = okT (d + 1) t := treeP_okT (d := d + 1) (t := t)
  rw [hpo] at hu ⊢
  have HB := hide (below_trans hA hb1)
  have hsz := hA.size
  cases hf : okT (d + 1) t with
  | false =>
    clear hu hb1 hA hv
    go_wp2_with fail
    go_ret2
    exact ⟨HB.out, Or.inr ⟨hf, _, rfl⟩⟩
  | true =>
    have hG : TreeG (Fresh w w1) w1 (d + 1) t u := (treeG_of (d + 1) t 6 u (okT_form hf).1 (okT_form hf).2 (hu hf).1).mono (fun b hb => ⟨by have := hb.1; omega, hb.2⟩)
    obtain ⟨T, u', rfl⟩ := hG.iface
    have HG := hide hG
    have HO := hide ((hu hf).2.moved (Below.refl _ _) hA.size)
    clear hu hb1 hA hv hG
    go_wp2_with fail
    go_ret2
    exact ⟨HB.out, Or.inl ⟨hf, _, rfl, HG.out, HO.out⟩⟩

end Go.Proofs.YtmibjmipndffmaaGreatDoor

/- A row of the program's own trees that owns its memory. -/
namespace Go.Proofs.YtmibjmipndffmaaGreatDoor
open Go.RowKit Go.Deep

/-- A row as a tree. -/
def rowT (d : Nat) (xs : List (Tr d)) : Tr (d + 1) := (Nd.mk 5 0 ByteArray.empty [] xs : Nd (Tr d))
/-- A row of the program's own trees that owns its memory: its trees lie in blocks from N on, not in the row's own. -/
def GTo {d : Nat} (N : Nat) (w : World) (sv : Value) (xs : List (Tr d)) (vs : List Value) : Prop :=
  w.ownsRow N 70 1 sv xs.length vs ∧ ∀ (j : Nat) (x : Tr d) (u : Value), xs[j]? = some x → vs[j]? = some u → TreeG (Aside N w sv) w d x u

theorem gto_nil {d : Nat} (N : Nat) (w : World) : GTo (d := d) N w (.slice none 0 0) [] [] := ⟨World.ownsRow_nil _ _ _ _, fun j x u h => by simp at h⟩
theorem gto_of {d N : Nat} {w : World} {sv : Value} {xs : List (Tr d)} {vs : List Value} (h : TreesTo N w sv xs xs.length vs) (hf : ∀ x ∈ xs, formT d x 5 = true ∧ manyT d x 5 ≤ 60) : GTo N w sv xs vs :=
  ⟨h.1, fun j x u hx hu => treeG_of d x 5 u (hf x (List.mem_of_getElem? hx)).1 (hf x (List.mem_of_getElem? hx)).2 (h.2 j x u (List.getElem?_eq_some_iff.1 hx).1 hx hu)⟩
theorem okT_row {d : Nat} {xs : List (Tr d)} (h : okT (d + 1) (Nd.mk 5 0 ByteArray.empty [] xs : Nd (Tr d)) = true) : ∀ x ∈ xs, formT d x 5 = true ∧ manyT d x 5 ≤ 60 := by
  obtain ⟨hf, hm⟩ := okT_form h
  have hmm : manyT (d + 1) (Nd.mk 5 0 ByteArray.empty [] xs : Nd (Tr d)) 6 = 1 + (xs.map (fun x => manyT d x (6 - 1))).sum := rfl
  rw [hmm] at hm
  cases hb : headBad 5 0 ByteArray.empty ([] : List ByteArray).length xs.length 6 with
  | true => rw [formT_bad hb] at hf; cases hf
  | false =>
    rw [formT_good hb] at hf
    have hall : xs.all (fun x => formT d x (6 - 1)) = true := by simpa using hf
    intro x hx
    have h1 := many_mem (d := d) (deep := 6 - 1) hx
    exact ⟨List.all_eq_true.1 hall x hx, by have h2 : manyT d x 5 = manyT d x (6 - 1) := rfl; omega⟩

/-- The trees of a row, wherever it lies. -/
theorem GTo.row {d N : Nat} {w : World} {sv : Value} {xs : List (Tr d)} {vs : List Value} (h : GTo N w sv xs vs) (hl : xs.length < 17592186044416) : Row1At (fun b => N ≤ b ∧ b < w.heap.size) w (TreeG (fun b => N ≤ b ∧ b < w.heap.size) w d) sv xs := by
  obtain ⟨h1, h2⟩ := h
  refine ⟨hl, ?_⟩
  have hlen := h1.1
  rw [Nat.mul_one] at hlen
  rcases h1.2 with ⟨rfl, h0⟩ | ⟨g, cap, cur, rfl, hg, hh, _, _, _, _⟩
  · exact ⟨none, 0, by rw [h0], Or.inl (List.eq_nil_of_length_eq_zero h0)⟩
  · refine ⟨some ⟨g, 0, none⟩, cap, rfl, Or.inr ⟨g, 0, ⟨by omega, (Array.getElem?_eq_some_iff.1 hh).1⟩, rfl, fun i x hx => ?_⟩⟩
    have hi := (List.getElem?_eq_some_iff.1 hx).1
    have hvi : vs[i]? = some vs[i] := List.getElem?_eq_getElem (by omega)
    have hc := h1.cells (g := g) rfl i _ hvi
    have hadd : (⟨g, 0, none⟩ : Addr).add i = ⟨g, 0 + i, none⟩ := by unfold Addr.add; split <;> simp_all
    rw [hadd] at hc
    exact ⟨vs[i], hc, (h2 i x _ hx hvi).mono (fun b hb => ⟨hb.1, hb.2.1⟩)⟩

end Go.Proofs.YtmibjmipndffmaaGreatDoor

/- Keys and trees, one more put at its place. -/
namespace Go.Proofs.YtmibjmipndffmaaGreatDoor
open Go.RowKit Go.Deep

/-- Keys and what lies at them, in order, when x is put at key s. -/
def putL {α : Type} : List ByteArray → List α → ByteArray → α → List (ByteArray × α)
  | k :: ks, y :: ys, s, x => if ltB k s = true then (k, y) :: putL ks ys s x else if (k == s) = true then (s, x) :: ks.zip ys else (s, x) :: (k, y) :: ks.zip ys
  | [], _, s, x => [(s, x)]
  | _ :: _, [], s, x => [(s, x)]

theorem ltB_total {a b : ByteArray} (h : ltB a b = false) (hn : (a == b) = false) : ltB b a = true := by
  have ht := bytesLess_total a.toList b.toList
  unfold ltB at h ⊢
  have hne : (a.toList == b.toList) = false := by
    cases hb : (a.toList == b.toList)
    · rfl
    · have e := beq_iff_eq.1 hb
      rw [ByteArray.toList_eq, ByteArray.toList_eq] at e
      have : a = b := by
        cases a with
        | mk a =>
          cases b with
          | mk b =>
            have e : a.toList = b.toList := e
            cases a; cases b
            simp at e
            rw [e]
      rw [(MapKept.bytes_beq a b).2 this] at hn
      cases hn
  rw [h, hne] at ht
  simpa using ht.symm
theorem ltB_ne {a b : ByteArray} (h : ltB a b = true) : a ≠ b := fun e => by
  subst e
  have := bytesLess_irrefl a.toList
  unfold ltB at h
  rw [h] at this
  cases this

theorem zip_cons {α : Type} (k : ByteArray) (ks : List ByteArray) (y : α) (ys : List α) : (k :: ks).zip (y :: ys) = (k, y) :: ks.zip ys := rfl
theorem putL_length {α : Type} : ∀ (ks : List ByteArray) (xs : List α) (s : ByteArray) (x : α), (putL ks xs s x).length ≤ ks.length + 1
  | [], _, _, _ => by rw [putL]; simp
  | _ :: _, [], _, _ => by rw [putL]; simp
  | k :: ks, y :: ys, s, x => by
    have := putL_length ks ys s x
    rw [putL]
    split
    · simp; omega
    · split
      · simp; omega
      · simp; omega

/-- A key that is new comes in at its place. -/
theorem putL_new {α : Type} : ∀ {ks : List ByteArray} {xs : List α} {s : ByteArray} {x : α}, ks.length = xs.length → s ∉ ks → ((ks.zip xs) ++ [(s, x)]).Perm (putL ks xs s x)
  | [], [], _, _, _, _ => by rw [putL]; exact List.Perm.refl _
  | [], _ :: _, _, _, h, _ => by simp at h
  | _ :: _, [], _, _, h, _ => by simp at h
  | k :: ks, y :: ys, s, x, h, hn => by
    have hks : (k == s) = false := by
      cases hb : (k == s)
      · rfl
      · exact absurd (by rw [(MapKept.bytes_beq k s).1 hb]; simp) hn
    rw [putL, zip_cons, List.cons_append]
    split
    · exact List.Perm.cons _ (putL_new (by simpa using h) (fun hm => hn (by simp [hm])))
    · rw [if_neg (by rw [hks]; simp)]
      have hp := List.perm_middle (l₁ := (k, y) :: ks.zip ys) (l₂ := []) (a := (s, x))
      rw [List.append_nil] at hp
      exact hp

/-- A key that is there keeps its place. -/
theorem putL_there {α : Type} {s : ByteArray} {x : α} : ∀ {ks : List ByteArray} {xs : List α} {p : Option ByteArray} {j : Nat}, ks.length = xs.length → keysGo p ks = true → ks[j]? = some s → putL ks xs s x = (ks.zip xs).set j (s, x)
  | [], _, _, _, _, _, h => by simp at h
  | _ :: _, [], _, _, h, _, _ => by simp at h
  | k :: ks, y :: ys, p, 0, _, _, hj => by
    simp at hj
    subst hj
    rw [putL, if_neg (by have := bytesLess_irrefl k.toList; unfold ltB; rw [this]; simp), if_pos ((MapKept.bytes_beq k k).2 rfl)]
    rfl
  | k :: ks, y :: ys, p, j + 1, h, hk, hj => by
    have hj' : ks[j]? = some s := by simpa using hj
    have hgo : keysGo (some k) ks = true := by
      cases p with
      | none => simp only [keysGo, Bool.and_eq_true] at hk; exact hk.2
      | some q => simp only [keysGo, Bool.and_eq_true] at hk; exact hk.2.2
    rw [putL, if_pos (keysGo_all ks k hgo s (List.mem_of_getElem? hj')), zip_cons, List.set_cons_succ, putL_there (by simpa using h) hgo hj']

/-- The keys stay in order. -/
theorem putL_keys {α : Type} {s : ByteArray} {x : α} (hs : strOk s = true) : ∀ {ks : List ByteArray} {xs : List α} {p : Option ByteArray}, ks.length = xs.length → keysGo p ks = true → (∀ q, p = some q → ltB q s = true) → keysGo p ((putL ks xs s x).map Prod.fst) = true
  | [], _, none, _, _, _ => by rw [putL]; simp [keysGo, hs]
  | [], _, some q, _, _, hq => by rw [putL]; simp [keysGo, hs, hq q rfl]
  | _ :: _, [], _, h, _, _ => by simp at h
  | k :: ks, y :: ys, p, h, hk, hq => by
    have hlen : ks.length = ys.length := by simpa using h
    have hgo : strOk k = true ∧ keysGo (some k) ks = true ∧ (∀ q, p = some q → ltB q k = true) := by
      cases p with
      | none =>
        simp only [keysGo, Bool.and_eq_true] at hk
        exact ⟨hk.1, hk.2, fun q e => by cases e⟩
      | some q =>
        simp only [keysGo, Bool.and_eq_true] at hk
        exact ⟨hk.1, hk.2.2, fun q' e => by cases e; exact hk.2.1⟩
    have hfirst : ∀ (a : ByteArray) (r : List ByteArray), strOk a = true → (∀ q, p = some q → ltB q a = true) → keysGo (some a) r = true → keysGo p (a :: r) = true := fun a r h1 h2 h3 => by
      cases p with
      | none => simp [keysGo, h1, h3]
      | some q => simp [keysGo, h1, h2 q rfl, h3]
    rw [putL]
    split
    · rename_i hlt
      rw [List.map_cons]
      exact hfirst _ _ hgo.1 hgo.2.2 (putL_keys hs hlen hgo.2.1 (fun q e => by cases e; exact hlt))
    · rename_i hlt
      split
      · rename_i he
        have := (MapKept.bytes_beq k s).1 he
        subst this
        rw [List.map_cons, zip_fst _ _ hlen]
        exact hfirst _ _ hgo.1 hgo.2.2 hgo.2.1
      · rename_i he
        rw [List.map_cons, List.map_cons, zip_fst _ _ hlen]
        refine hfirst _ _ hs hq ?_
        have hsk : ltB s k = true := ltB_total (by simpa using hlt) (by simpa using he)
        simp [keysGo, hgo.1, hsk, hgo.2.1]

/-- A map as a tree. -/
def mapT (d : Nat) (ps : List (ByteArray × Tr d)) : Tr (d + 1) := (Nd.mk 6 0 ByteArray.empty (ps.map Prod.fst) (ps.map Prod.snd) : Nd (Tr d))
theorem zip_unzip {α : Type} : ∀ ps : List (ByteArray × α), (ps.map Prod.fst).zip (ps.map Prod.snd) = ps
  | [] => rfl
  | (k, x) :: r => by rw [List.map_cons, List.map_cons, zip_cons, zip_unzip r]
end Go.Proofs.YtmibjmipndffmaaGreatDoor

/- A tree put at a key of a map. -/
namespace Go.Proofs.YtmibjmipndffmaaGreatDoor
open Go.RowKit Go.Deep

/-- What PartPut tells. -/
def partPutT (d : Nat) (t : Tr (d + 2)) (s : ByteArray) (x : Tr (d + 1)) : Tr (d + 2) × Bool :=
  match mapL (d + 1) t s with
  | none => (zeroT (d + 1), false)
  | some (keys, xs) =>
    if okT (d + 1) x = true then (toldT (d + 1) (mapT (d + 1) (putL keys xs s x)), okT (d + 2) (mapT (d + 1) (putL keys xs s x)))
    else (zeroT (d + 1), false)
theorem okT_partPut (d : Nat) (t : Tr (d + 2)) (s : ByteArray) (x : Tr (d + 1)) : okT (d + 2) (partPutT d t s x).1 = true := by
  unfold partPutT
  split
  · exact okT_zero _
  · split
    · exact okT_told _ _
    · exact okT_zero _
end Go.Proofs.YtmibjmipndffmaaGreatDoor

/- partsInRow: the row owns its memory. -/
namespace Go.Proofs.YtmibjmipndffmaaGreatDoor
open Go.RowKit Go.Deep

/-- What partsInRow is asked to give. -/
def RowOQ (d : Nat) (t : Tr (d + 1)) (w : World) (e : Ending) (w' : World) : Prop :=
  Below w.heap.size w w' ∧ ((∃ xs a cap vs, rowL d t = some xs ∧ e = .returned (.tuple #[.slice a xs.length cap, .nilIface]) ∧ GTo w.heap.size w' (.slice a xs.length cap) xs vs) ∨ (rowL d t = none ∧ ∃ why, e = .returned (.tuple #[.slice none 0 0, faultV why])))

set_option maxRecDepth 100000 in
set_option maxHeartbeats 4000000 in
theorem partsInRow_own (d : Nat) (S : Nat → Prop) (t : Tr (d + 1)) (v : Value) (w : World) (hv : ValAt S w (d + 1) t v) (hS : Within S w) :
    Calls Tryz.prog 59 #[v] w (RowOQ d t w) := by
  obtain ⟨k, n, s, ak, lk, ck, al, ll, cl, rfl⟩ := hv.shape
  have hA := below_alloc1 w (.cells #[.int .i64 k, .int .i64 n, .string s, .slice ak lk ck, .slice al ll cl] 26)
  have hAs := hA.size
  go_enter Tryz.func59, Tryz.ntmps59
  go_wp2_with fail
  refine (given_own d S t _ _ (hv.same (hS.same hA)) (hS.later hA.size)).mono ?_
  rintro e w1 ⟨hb1, hq⟩
  have hB := below_trans hA hb1
  clear hb1 hA hv
  rcases hq with ⟨hok, u, rfl, hu, htop⟩ | ⟨hok, why, rfl⟩
  · rcases hu with ⟨k', h1, rfl, rfl⟩ | ⟨n', h1, rfl, rfl⟩ | ⟨s', h1, rfl, rfl⟩ | ⟨xs, sv, h1, rfl, rfl, hr⟩ | ⟨keys, xs, ps, r, es, h1, h2, h3, h4, rfl, rfl, hr, hm, he⟩
    · have a3 := Tryz.asR_B
      go_wp2_with fail
      refine (isNothing_bare k' w1).mono ?_
      rintro e w2 ⟨rfl, hb2⟩
      have HB2 := hide (below_trans hB hb2)
      clear hb2 hB
      by_cases hk0 : k' = 0
      · have hkb : (k' == 0) = true := by simpa using hk0
        have hq : Hid (rowL d (Nd.mk k' 0 ByteArray.empty [] [] : Nd (Tr d)) = some []) := by
          refine (rowL_ok hok).trans ?_
          show (if k' = 0 then _ else _) = _
          rw [if_pos hk0]
        clear hk0
        go_wp2_with fail
        go_ret2
        exact ⟨HB2.out, Or.inl ⟨[], none, 0, [], hq.out, rfl, gto_nil _ _⟩⟩
      · have hkb : (k' == 0) = false := by simpa using hk0
        have hq : Hid (rowL d (Nd.mk k' 0 ByteArray.empty [] [] : Nd (Tr d)) = none) := by
          refine (rowL_ok hok).trans ?_
          show (if k' = 0 then _ else if k' = 5 then _ else _) = _
          rw [if_neg hk0, if_neg (by omega)]
        clear hk0
        go_wp2_with fail
        go_ret2
        exact ⟨below_trans HB2.out (below_alloc1 _ _), Or.inr ⟨hq.out, _, rfl⟩⟩
    · have a3 := Tryz.asR_N
      have hq : Hid (rowL d (Nd.mk 3 n' ByteArray.empty [] [] : Nd (Tr d)) = none) := by
        exact (rowL_ok hok).trans rfl
      go_wp2_with fail
      refine (isNothing_num _ w1).mono ?_
      rintro e w2 ⟨rfl, hb2⟩
      have HB2 := hide (below_trans hB hb2)
      clear hb2 hB
      go_wp2_with fail
      go_ret2
      exact ⟨below_trans HB2.out (below_alloc1 _ _), Or.inr ⟨hq.out, _, rfl⟩⟩
    · have a3 := Tryz.asR_S
      have hq : Hid (rowL d (Nd.mk 4 0 s' [] [] : Nd (Tr d)) = none) := by
        exact (rowL_ok hok).trans rfl
      go_wp2_with fail
      refine (isNothing_str _ w1).mono ?_
      rintro e w2 ⟨rfl, hb2⟩
      have HB2 := hide (below_trans hB hb2)
      clear hb2 hB
      go_wp2_with fail
      go_ret2
      exact ⟨below_trans HB2.out (below_alloc1 _ _), Or.inr ⟨hq.out, _, rfl⟩⟩
    · have a3 := Tryz.asR_R
      obtain ⟨sa, sc, rfl, _⟩ := hr.open'
      have hq : Hid (rowL d (Nd.mk 5 0 ByteArray.empty [] xs : Nd (Tr d)) = some xs) := by
        exact (rowL_ok hok).trans rfl
      go_wp2_with fail
      refine (isNothing_row _ w1).mono ?_
      rintro e w2 ⟨rfl, hb2⟩
      have hA2 := below_alloc1 w2 (.cells #[.slice sa xs.length sc] 148)
      have hb3 := below_trans hb2 hA2
      have HB2 := hide (below_trans hB hb3)
      have hsz := hb3.size
      have HR : Hid (∃ vs, GTo w.heap.size (w2.alloc (.cells #[.slice sa xs.length sc] 148)) (.slice sa xs.length sc) xs vs) := by
        obtain ⟨sv', vs, he, hto⟩ := htop.1 rfl
        cases he
        exact ⟨vs, (gto_of (hto.moved hb3 (by omega)) (okT_row hok))⟩
      clear hb2 hB hb3 hA2 hr htop
      go_wp2_with fail
      go_ret2
      obtain ⟨vs, hvs⟩ := HR.out
      exact ⟨HB2.out, Or.inl ⟨xs, sa, sc, vs, hq.out, rfl, hvs⟩⟩
    · have a3 := Tryz.asR_M
      have hq : Hid (rowL d (Nd.mk 6 0 ByteArray.empty keys xs : Nd (Tr d)) = none) := by
        exact (rowL_ok hok).trans rfl
      clear he hm hr h4 h3 h2
      go_wp2_with fail
      refine (isNothing_map _ w1).mono ?_
      rintro e w2 ⟨rfl, hb2⟩
      have HB2 := hide (below_trans hB hb2)
      clear hb2 hB
      go_wp2_with fail
      go_ret2
      exact ⟨below_trans HB2.out (below_alloc1 _ _), Or.inr ⟨hq.out, _, rfl⟩⟩
  · unfold faultV
    go_wp2_with fail
    go_ret2
    refine ⟨hB, Or.inr ⟨?_, why, rfl⟩⟩
    rw [rowL, if_neg (by rw [hok]; simp)]

end Go.Proofs.YtmibjmipndffmaaGreatDoor

/- A tree put at a place of a row. -/
namespace Go.Proofs.YtmibjmipndffmaaGreatDoor
open Go.RowKit Go.Deep

/-- A row of at least n, with z at those that are not there. -/
def padL {α : Type} (xs : List α) (z : α) (n : Nat) : List α := xs ++ List.replicate (n - xs.length) z
/-- What becomes of a row when x is put at place k. -/
def setL {α : Type} (xs : List α) (z : α) (k : Nat) (x : α) : List α := (padL xs z (k + 1)).set k x

theorem padL_length {α : Type} (xs : List α) (z : α) (n : Nat) : (padL xs z n).length = max xs.length n := by
  unfold padL
  rw [List.length_append, List.length_replicate]
  omega
theorem setL_length {α : Type} (xs : List α) (z : α) (k : Nat) (x : α) : (setL xs z k x).length = max xs.length (k + 1) := by
  unfold setL
  rw [List.length_set, padL_length]
theorem padL_step {α : Type} (xs : List α) (z : α) (m : Nat) : xs ++ List.replicate (m + 1) z = (xs ++ List.replicate m z) ++ [z] := by
  rw [List.replicate_succ', List.append_assoc]

/-- What PartSet tells. -/
def partSetT (d : Nat) (t : Tr (d + 2)) (i : Int) (x : Tr (d + 1)) : Tr (d + 2) × Bool :=
  match rowL (d + 1) t with
  | none => (zeroT (d + 1), false)
  | some xs =>
    if okT (d + 1) x = true ∧ -(xs.length : Int) ≤ i ∧ i < 60 then
      (toldT (d + 1) (rowT (d + 1) (setL xs (zeroT d) (if i < 0 then i + xs.length else i).toNat x)), okT (d + 2) (rowT (d + 1) (setL xs (zeroT d) (if i < 0 then i + xs.length else i).toNat x)))
    else (zeroT (d + 1), false)

theorem okT_partSet (d : Nat) (t : Tr (d + 2)) (i : Int) (x : Tr (d + 1)) : okT (d + 2) (partSetT d t i x).1 = true := by
  unfold partSetT
  split
  · exact okT_zero _
  · split
    · exact okT_told _ _
    · exact okT_zero _

/-- One tree more at the end of a row, which lies in no block. -/
theorem GTo.step {d N : Nat} {wr w2 : World} {sv sv' u : Value} {xs : List (Tr d)} {vs : List Value} {x : Tr d} {o : Obj} (h : GTo N wr sv xs vs) (hu : TreeG (fun _ => False) wr d x u) (hown : w2.ownsRow N 70 1 sv' (xs.length + 1) (vs ++ [u]))
    (hg : (wr.alloc o).grownBy w2 sv.ownBlock) (hw : sv'.ownBlock = sv.ownBlock ∨ sv'.ownBlock = some (wr.alloc o).heap.size) : GTo N w2 sv' (xs ++ [x]) (vs ++ [u]) := by
  obtain ⟨h1, h2⟩ := h
  have hlen : vs.length = xs.length := by have := h1.1; omega
  have hs3 := hg.size
  have hz : (wr.alloc o).heap.size = wr.heap.size + 1 := by simp
  rw [hz] at hs3 hw
  have hlast : ∀ b, b < wr.heap.size → some b ≠ sv.ownBlock → w2.heap[b]? = wr.heap[b]? := fun b hb1 hb2 =>
    (hg.block b (by omega) hb2).trans (Below.heap_alloc _ _ _ hb1)
  have hne : ∀ b, b < wr.heap.size → some b ≠ sv.ownBlock → some b ≠ sv'.ownBlock := fun b hb1 hb2 => by
    rcases hw with e | e
    · rw [e]; exact hb2
    · rw [e]; intro e2; cases e2; omega
  refine ⟨by rw [List.length_append]; exact hown, fun j y v hy hv => ?_⟩
  by_cases e : j < xs.length
  · rw [List.getElem?_append_left e] at hy
    rw [List.getElem?_append_left (by omega)] at hv
    refine TreeG.moved (fun b hB => hlast b hB.2.1 hB.2.2) (fun b hB => ⟨hB.1, by have := hB.2.1; omega, hne b hB.2.1 hB.2.2⟩) d y v (h2 j y v hy hv)
  · have hj : j = xs.length := by
      have := (List.getElem?_eq_some_iff.1 hy).1
      rw [List.length_append, List.length_singleton] at this
      omega
    subst hj
    rw [List.getElem?_append_right (Nat.le_refl _), Nat.sub_self] at hy
    rw [List.getElem?_append_right (by omega), hlen, Nat.sub_self] at hv
    cases hy
    cases hv
    exact TreeG.moved (fun b hB => hB.elim) (fun b hB => hB.elim) d x u hu

/-- Another tree at a place of a row. -/
theorem GTo.put {d N g n cap k : Nat} {w : World} {u : Value} {xs : List (Tr d)} {vs : List Value} {x : Tr d} {S : Nat → Prop} (h : GTo N w (.slice (some ⟨g, 0, none⟩) n cap) xs vs) (hn : n = xs.length) (hk : k < xs.length) (hu : TreeG S w d x u) (hS : ∀ b, S b → N ≤ b ∧ b < w.heap.size ∧ b ≠ g) :
    GTo N (w.setCell ⟨g, k, none⟩ u) (.slice (some ⟨g, 0, none⟩) n cap) (xs.set k x) (vs.set k u) ∧ Below N w (w.setCell ⟨g, k, none⟩ u) := by
  subst hn
  obtain ⟨h1, h2⟩ := h
  have hlen : vs.length = xs.length := by have := h1.1; omega
  obtain ⟨ho, hgr⟩ := h1.stored k u
  have hsame : ∀ b, b ≠ g → (w.setCell ⟨g, k, none⟩ u).heap[b]? = w.heap[b]? := fun b hb => Below.heap_setCell _ _ _ _ hb
  have hz : (w.setCell ⟨g, k, none⟩ u).heap.size = w.heap.size := size_setCell1 _ _ _
  have hgN := (h1.lt g rfl).1
  refine ⟨⟨by rw [List.length_set]; exact ho, fun j y v hy hv => ?_⟩, (Below.refl _ _).setCell hgN _⟩
  by_cases e : k = j
  · subst e
    rw [List.getElem?_set_self hk] at hy
    rw [List.getElem?_set_self (by omega)] at hv
    cases hy
    cases hv
    exact TreeG.moved (fun b hb => hsame b (hS b hb).2.2) (fun b hb => ⟨(hS b hb).1, by rw [hz]; exact (hS b hb).2.1, fun e => (hS b hb).2.2 (by cases e; rfl)⟩) d x u hu
  · rw [List.getElem?_set_ne e] at hy hv
    exact TreeG.moved (fun b hb => hsame b (fun e => hb.2.2 (by rw [e]; rfl))) (fun b hb => ⟨hb.1, by rw [hz]; exact hb.2.1, hb.2.2⟩) d y v (h2 j y v hy hv)
end Go.Proofs.YtmibjmipndffmaaGreatDoor

/- What comes of a tree that is put at the end of a way: plain facts. -/
namespace Go.Proofs.YtmibjmipndffmaaGreatDoor
open Go.RowKit Go.Deep

/-- A tree at some depths more. -/
def up2 (d : Nat) : (k : Nat) → Tr (d + 2) → Tr (d + k + 2)
  | 0, t => t
  | k + 1, t => up (d + k + 2) (up2 d k t)
theorem okT_up2 (d : Nat) (t : Tr (d + 2)) : ∀ k, okT (d + k + 2) (up2 d k t) = okT (d + 2) t
  | 0 => rfl
  | k + 1 => (okT_lift (d + k + 2) (up2 d k t)).trans (okT_up2 d t k)
theorem ValAt.up2 {S : Nat → Prop} {w : World} {d : Nat} {t : Tr (d + 2)} {v : Value} (h : ValAt S w (d + 2) t v) : ∀ k, ValAt S w (d + k + 2) (up2 d k t) v
  | 0 => h
  | k + 1 => ValAt.up (d + k + 2) _ _ (ValAt.up2 h k)
/-- One step back: what is put where a step leads to. -/
def backT (e : Nat) (t : Tr (e + 2)) (p : Stp) (y : Tr (e + 1)) : Tr (e + 2) × Bool := if p.map = true then partPutT e t p.key y else partSetT e t p.place y
theorem backT_map {e : Nat} {t : Tr (e + 2)} {p : Stp} {y : Tr (e + 1)} (h : p.map = true) : backT e t p y = partPutT e t p.key y := if_pos h
theorem backT_place {e : Nat} {t : Tr (e + 2)} {p : Stp} {y : Tr (e + 1)} (h : p.map = false) : backT e t p y = partSetT e t p.place y := if_neg (by rw [h]; simp)
theorem okT_back (e : Nat) (t : Tr (e + 2)) (p : Stp) (y : Tr (e + 1)) : okT (e + 2) (backT e t p y).1 = true := by
  unfold backT
  split
  · exact okT_partPut e t p.key y
  · exact okT_partSet e t p.place y
theorem told_off {d : Nat} {t : Tr (d + 1)} (h : okT (d + 1) t = false) : toldT d t = zeroT d := by rw [toldT, if_neg (by rw [h]; simp)]
theorem back_off {e : Nat} {t : Tr (e + 2)} {p : Stp} {y : Tr (e + 1)} (h : (backT e t p y).2 = false) : (backT e t p y).1 = zeroT (e + 1) := by
  unfold backT at h ⊢
  split at h
  · rename_i hm
    rw [if_pos hm]
    unfold partPutT at h ⊢
    split at h
    · rfl
    · rename_i h1
      split at h
      · rename_i h2
        rw [if_pos h2]
        exact told_off h
      · rename_i h2
        rw [if_neg h2]
  · rename_i hm
    rw [if_neg hm]
    unfold partSetT at h ⊢
    split at h
    · rfl
    · rename_i h1
      split at h
      · rename_i h2
        rw [if_pos h2]
        exact told_off h
      · rename_i h2
        rw [if_neg h2]
/-- What is put at the end of a way of k steps. -/
def putT (d : Nat) (x : Tr (d + 2)) : (k : Nat) → Tr (d + 2) → List Stp → Tr (d + k + 2) × Bool
  | 0, _, _ => (x, true)
  | k + 1, _, [] => (zeroT (d + k + 2), false)
  | k + 1, t, p :: r => if (stepT d t p).2 = true ∧ (putT d x k (stepT d t p).1 r).2 = true then backT (d + k + 1) (up2 d (k + 1) t) p (putT d x k (stepT d t p).1 r).1 else (zeroT (d + k + 2), false)
theorem okT_putT {d : Nat} {x : Tr (d + 2)} (hx : okT (d + 2) x = true) : ∀ (k : Nat) (t : Tr (d + 2)) (ps : List Stp), okT (d + k + 2) (putT d x k t ps).1 = true
  | 0, _, _ => hx
  | k + 1, _, [] => okT_zero (d + k + 2)
  | k + 1, t, p :: r => by
    unfold putT
    split
    · exact okT_back (d + k + 1) _ p _
    · exact okT_zero (d + k + 2)
theorem putT_off {d : Nat} {x : Tr (d + 2)} {k : Nat} {t : Tr (d + 2)} {p : Stp} {r : List Stp} (h : (stepT d t p).2 = false) : putT d x (k + 1) t (p :: r) = (zeroT (d + k + 2), false) := by
  unfold putT
  rw [if_neg (by rw [h]; simp)]
theorem putT_stop {d : Nat} {x : Tr (d + 2)} {k : Nat} {t : Tr (d + 2)} {p : Stp} {r : List Stp} (h : (putT d x k (stepT d t p).1 r).2 = false) : putT d x (k + 1) t (p :: r) = (zeroT (d + k + 2), false) := by
  rw [putT]
  rw [if_neg (by rw [h]; simp)]
theorem putT_on {d : Nat} {x : Tr (d + 2)} {k : Nat} {t : Tr (d + 2)} {p : Stp} {r : List Stp} (h1 : (stepT d t p).2 = true) (h2 : (putT d x k (stepT d t p).1 r).2 = true) : putT d x (k + 1) t (p :: r) = backT (d + k + 1) (up2 d (k + 1) t) p (putT d x k (stepT d t p).1 r).1 := by
  rw [putT, if_pos ⟨h1, h2⟩]
/-- PathPut, as a plain function. -/
def pathPutT (d : Nat) (t : Tr (d + 2)) (ps : List Stp) (x : Tr (d + 2)) : Tr (d + ps.length + 2) × Bool :=
  if okT (d + 2) t = true ∧ pathOk ps = true ∧ okT (d + 2) x = true then putT d x ps.length t ps else (zeroT (d + ps.length + 1), false)
theorem okT_pathPut (d : Nat) (t : Tr (d + 2)) (ps : List Stp) (x : Tr (d + 2)) : okT (d + ps.length + 2) (pathPutT d t ps x).1 = true := by
  unfold pathPutT
  split
  · rename_i h
    exact okT_putT h.2.2 _ _ _
  · exact okT_zero (d + ps.length + 1)
/-- The tree that a way comes to behind some steps. -/
def afterT (d : Nat) : Tr (d + 2) → List Stp → Nat → Tr (d + 2)
  | t, _, 0 => t
  | t, [], _ + 1 => t
  | t, p :: r, i + 1 => afterT d (stepT d t p).1 r i
theorem passT_at {d : Nat} : ∀ (t : Tr (d + 2)) (ps : List Stp) (i : Nat) (p : Stp), ps[i]? = some p → (passT d t ps)[i]? = some (afterT d t ps i, p)
  | _, [], _, _, h => by simp at h
  | t, q :: r, 0, p, h => by
    simp at h
    subst h
    rfl
  | t, q :: r, i + 1, p, h => by
    rw [passT]
    exact passT_at (stepT d t q).1 r i p (by simpa using h)
theorem afterT_step {d : Nat} : ∀ (t : Tr (d + 2)) (ps : List Stp) (i : Nat) (p : Stp), ps[i]? = some p → afterT d t ps (i + 1) = (stepT d (afterT d t ps i) p).1
  | _, [], _, _, h => by simp at h
  | t, q :: r, 0, p, h => by
    simp at h
    subst h
    cases r <;> rfl
  | t, q :: r, i + 1, p, h => afterT_step (stepT d t q).1 r i p (by simpa using h)
theorem along_all {d : Nat} : ∀ (t : Tr (d + 2)) (ps : List Stp), (alongT d t ps).2 = true → ∀ (i : Nat) (p : Stp), ps[i]? = some p → (stepT d (afterT d t ps i) p).2 = true
  | _, [], _, i, p, h => by simp at h
  | t, q :: r, ha, i, p, h => by
    rw [alongT] at ha
    split at ha
    · rename_i hs
      cases i with
      | zero =>
        simp at h
        subst h
        exact hs
      | succ i => exact along_all (stepT d t q).1 r ha i p (by simpa using h)
    · cases ha
theorem putT_along {d : Nat} {x : Tr (d + 2)} : ∀ (ps : List Stp) (t : Tr (d + 2)), (alongT d t ps).2 = false → putT d x ps.length t ps = (match ps with | [] => (x, true) | _ :: r => (zeroT (d + r.length + 2), false))
  | [], _, _ => rfl
  | p :: r, t, h => by
    rw [alongT] at h
    by_cases hs : (stepT d t p).2 = true
    · rw [if_pos hs] at h
      have ih := putT_along (x := x) r (stepT d t p).1 h
      cases r with
      | nil => rw [alongT] at h; cases h
      | cons q r =>
        exact putT_stop (by rw [ih])
    · exact putT_off (by simpa using hs)
/-- One round back along a way. -/
theorem putT_round {d : Nat} {x t : Tr (d + 2)} {ps : List Stp} {i m : Nat} {p : Stp} (hp : ps[i]? = some p) (ha : (alongT d t ps).2 = true) (h : (putT d x m (afterT d t ps (i + 1)) (ps.drop (i + 1))).2 = true) :
    putT d x (m + 1) (afterT d t ps i) (ps.drop i) = backT (d + m + 1) (up2 d (m + 1) (afterT d t ps i)) p (putT d x m (afterT d t ps (i + 1)) (ps.drop (i + 1))).1 := by
  obtain ⟨hk, e⟩ := List.getElem?_eq_some_iff.1 hp
  rw [afterT_step t ps i p hp] at h ⊢
  rw [List.drop_eq_getElem_cons hk, e]
  exact putT_on (along_all t ps ha i p hp) h
theorem putT_round_off {d : Nat} {x t : Tr (d + 2)} {ps : List Stp} {i m : Nat} {p : Stp} (hp : ps[i]? = some p) (h : (putT d x m (afterT d t ps (i + 1)) (ps.drop (i + 1))).2 = false) :
    putT d x (m + 1) (afterT d t ps i) (ps.drop i) = (zeroT (d + m + 2), false) := by
  obtain ⟨hk, e⟩ := List.getElem?_eq_some_iff.1 hp
  rw [afterT_step t ps i p hp] at h
  rw [List.drop_eq_getElem_cons hk, e]
  exact putT_stop h
end Go.Proofs.YtmibjmipndffmaaGreatDoor

/- A map, turned at a key that is there. -/
namespace Go.Proofs.YtmibjmipndffmaaGreatDoor
open Go.RowKit Go.Deep

theorem run_mapSet (w : World) (r clock j : Nat) (es : Array MapEntry) (s : ByteArray) (u v : Value) (b : Nat) (hb : w.heap[r]? = some (.map es clock)) (hj : es[j]? = some ⟨.string s, v, b⟩)
    (hn : ∀ i' e', i' < j → es[i']? = some e' → ∃ k, e'.key = .string k ∧ k ≠ s) :
    (Instr.mapUpdate 87 (.map (some r)) (.string s) u).run Tryz.prog w = .ok () (withObj w r (.map (es.modify j fun e => { e with key := .string s, val := u }) clock)) := by
  have hf := findNow_at s es.toList j 0 ⟨.string s, v, b⟩ (by rw [Array.getElem?_toList]; exact hj) rfl (fun i' e' hi he => hn i' e' hi (by rw [Array.getElem?_toList] at he; exact he))
  have hk : (Instr.checkKey false 10000 9 (.string s)).run Tryz.prog w = .ok () w :=
    MapKept.run_checkKey (P := Tryz.prog) (w := w) (k := .string s) Tryz.underlying9 trivial false 9999
  have hfk := MapKept.run_findKey (P := Tryz.prog) (w := w) Tryz.underlying9 hf
  have hst : (Instr.keyThatStays (.string s) (.string s)).run Tryz.prog w = .ok (.string s) w := MapKept.run_keyThatStays (P := Tryz.prog) (w := w) (d := .string) (k := .string s) trivial
  simp [Instr.mapUpdate, run_underlying Tryz.underlying87, getObj, setObj, Sem.run, hb, hk, hfk, hj, hst, withObj]

theorem below_withObj {N r : Nat} (w : World) (o : Obj) (h : N ≤ r) : Below N w (withObj w r o) :=
  ⟨rfl, rfl, rfl, by simp [withObj], fun b hb => withObj_block w r o b (by omega)⟩
end Go.Proofs.YtmibjmipndffmaaGreatDoor

/- partsByKeys: the map owns its memory; a map's update. -/
namespace Go.Proofs.YtmibjmipndffmaaGreatDoor
open Go.RowKit Go.Deep

/-- A map of the program's own trees that owns its memory: its trees lie in blocks from N on, not in the map's own. -/
structure MapO {d : Nat} (N : Nat) (w : World) (r : Nat) (es : Array MapEntry) (keys : List ByteArray) (xs : List (Tr d)) : Prop where
  len : xs.length ≤ 60
  good : keysB keys = true
  same : keys.length = xs.length
  ge : N ≤ r
  obj : w.heap[r]? = some (.map es keys.length)
  ent : MapG (TreeG (fun b => N ≤ b ∧ b < w.heap.size ∧ b ≠ r) w d) es (keys.zip xs)

theorem okT_map {d : Nat} {keys : List ByteArray} {xs : List (Tr d)} (h : okT (d + 1) (Nd.mk 6 0 ByteArray.empty keys xs : Nd (Tr d)) = true) : ∀ x ∈ xs, formT d x 5 = true ∧ manyT d x 5 ≤ 60 := by
  obtain ⟨hf, hm⟩ := okT_form h
  have hmm : manyT (d + 1) (Nd.mk 6 0 ByteArray.empty keys xs : Nd (Tr d)) 6 = 1 + (xs.map (fun x => manyT d x (6 - 1))).sum := rfl
  rw [hmm] at hm
  cases hb : headBad 6 0 ByteArray.empty keys.length xs.length 6 with
  | true => rw [formT_bad hb] at hf; cases hf
  | false =>
    rw [formT_good hb] at hf
    rw [if_neg (by omega), if_neg (by omega), if_neg (by omega), if_pos rfl] at hf
    simp only [Bool.and_eq_true] at hf
    intro x hx
    have h1 := many_mem (d := d) (deep := 6 - 1) hx
    exact ⟨List.all_eq_true.1 hf.2 x hx, by have h2 : manyT d x 5 = manyT d x (6 - 1) := rfl; omega⟩
theorem mapG_of {d : Nat} {S : Nat → Prop} {w : World} {es : Array MapEntry} {keys : List ByteArray} {xs : List (Tr d)} (hf : ∀ x ∈ xs, formT d x 5 = true ∧ manyT d x 5 ≤ 60) (h : MapIs (TreeAt S w d) es keys xs) : MapG (TreeG S w d) es (keys.zip xs) := by
  obtain ⟨h1, h2, h3⟩ := h
  refine ⟨by rw [List.length_zip, ← h2, Nat.min_self]; exact h1, fun i k x hp => ?_⟩
  have hp' := List.getElem?_zip_eq_some.1 hp
  obtain ⟨u, e1, e2⟩ := h3 i k x hp'.1 hp'.2
  exact ⟨u, e1, treeG_of d x 5 u (hf x (List.mem_of_getElem? hp'.2)).1 (hf x (List.mem_of_getElem? hp'.2)).2 e2⟩
theorem MapO.moved {d N r : Nat} {w w' : World} {es : Array MapEntry} {keys : List ByteArray} {xs : List (Tr d)} (h : MapO N w r es keys xs) (hb : Below w.heap.size w w') : MapO N w' r es keys xs := by
  have hz := hb.size
  exact ⟨h.len, h.good, h.same, h.ge, (hb.block r (Array.getElem?_eq_some_iff.1 h.obj).1).trans h.obj, h.ent.moved (fun x u hx => TreeG.moved (fun b hb' => hb.block b hb'.2.1) (fun b hb' => ⟨hb'.1, by have := hb'.2.1; omega, hb'.2.2⟩) d x u hx)⟩

/-- What partsByKeys is asked to give. -/
def MapOQ (d : Nat) (t : Tr (d + 1)) (s : ByteArray) (w : World) (e : Ending) (w' : World) : Prop :=
  Below w.heap.size w w' ∧ ((∃ keys xs r es, mapL d t s = some (keys, xs) ∧ e = .returned (.tuple #[.map (some r), .nilIface]) ∧ MapO w.heap.size w' r es keys xs) ∨ (mapL d t s = none ∧ ∃ why, e = .returned (.tuple #[.map none, faultV why])))

set_option maxRecDepth 100000 in
set_option maxHeartbeats 4000000 in
theorem partsByKeys_own (d : Nat) (S : Nat → Prop) (t : Tr (d + 1)) (v : Value) (s : ByteArray) (hs : s.size < 281474976710656) (w : World) (hv : ValAt S w (d + 1) t v) (hS : Within S w) :
    Calls Tryz.prog 58 #[v, .string s] w (MapOQ d t s w) := by
  obtain ⟨k, n, z, ak, lk, ck, al, ll, cl, rfl⟩ := hv.shape
  have hA := below_alloc1 w (.cells #[.int .i64 k, .int .i64 n, .string z, .slice ak lk ck, .slice al ll cl] 26)
  have hAs := hA.size
  go_enter Tryz.func58, Tryz.ntmps58
  go_wp2_with fail
  refine (given_own d S t _ _ (hv.same (hS.same hA)) (hS.later hA.size)).mono ?_
  rintro e w1 ⟨hb1, hq⟩
  have hB := below_trans hA hb1
  clear hb1 hA hv
  rcases hq with ⟨hok, u, rfl, hu, htop⟩ | ⟨hok, why, rfl⟩
  · obtain ⟨T, u', rfl⟩ := hu.iface
    go_wp2_with fail
    refine (textOk_any s w1 hs).mono ?_
    rintro e w2 ⟨rfl, hb2⟩
    have hB2 := below_trans hB hb2
    have hsz := hb2.size
    have HT := hide (htop.moved hb2 hAs)
    clear htop
    have hu2 := hu.moved ((Fresh.within (w.alloc (.cells #[.int .i64 k, .int .i64 n, .string z, .slice ak lk ck, .slice al ll cl] 26)) w1).same hb2) (S' := Fresh w w2) (fun b hb => ⟨by have := hb.1; omega, by have := hb.2; omega⟩)
    clear hu hb2 hB
    cases hstr : strOk s with
    | false =>
      have HB := hide hB2
      clear hu2 hB2
      go_wp2_with fail
      go_ret2
      exact ⟨HB.out, Or.inr ⟨mapL_no (Or.inr hstr), _, rfl⟩⟩
    | true =>
      rcases hu2 with ⟨k', h1, rfl, hT⟩ | ⟨n', h1, rfl, hT⟩ | ⟨s', h1, rfl, hT⟩ | ⟨xs, sv, h1, rfl, hT, hr⟩ | ⟨keys, xs, ps, r, es, h1, h2, h3, h4, rfl, hT, hr, hm, he⟩
      · cases hT
        have a3 := Tryz.asM_B
        go_wp2_with fail
        refine (isNothing_bare k' w2).mono ?_
        rintro e w3 ⟨rfl, hb3⟩
        have hB3 := below_trans hB2 hb3
        clear hb3 hB2
        by_cases hk0 : k' = 0
        · have hkb : (k' == 0) = true := by simpa using hk0
          have hq : Hid (mapL d (Nd.mk k' 0 ByteArray.empty [] [] : Nd (Tr d)) s = some ([], [])) := by
            refine (mapL_ok hok hstr).trans ?_
            show (if k' = 0 then _ else _) = _
            rw [if_pos hk0]
          have hA4 := below_alloc1 w3 (.map #[] 0)
          have HB := hide (below_trans hB3 hA4)
          have HM : Hid (MapO (d := d) w.heap.size (w3.alloc (.map #[] 0)) w3.heap.size #[] [] []) := ⟨by show (0 : Nat) ≤ 60; omega, rfl, rfl, hB3.size, heap_alloc_new _ _, rfl, fun i k x h => by simp at h⟩
          have hmk := fun w => run_makeMap (P := Tryz.prog) 87 w
          clear hk0 hB3 hA4
          go_wp2_with fail
          go_ret2
          exact ⟨HB.out, Or.inl ⟨[], [], _, _, hq.out, rfl, HM.out⟩⟩
        · have hkb : (k' == 0) = false := by simpa using hk0
          have hq : Hid (mapL d (Nd.mk k' 0 ByteArray.empty [] [] : Nd (Tr d)) s = none) := by
            refine (mapL_ok hok hstr).trans ?_
            show (if k' = 0 then _ else if k' = 6 then _ else _) = _
            rw [if_neg hk0, if_neg (by omega)]
          have HB := hide hB3
          clear hk0 hB3
          go_wp2_with fail
          go_ret2
          exact ⟨below_trans HB.out (below_alloc1 _ _), Or.inr ⟨hq.out, _, rfl⟩⟩
      · cases hT
        have a3 := Tryz.asM_N
        have hq : Hid (mapL d (Nd.mk 3 n' ByteArray.empty [] [] : Nd (Tr d)) s = none) := by
          exact (mapL_ok hok hstr).trans rfl
        go_wp2_with fail
        refine (isNothing_num _ w2).mono ?_
        rintro e w3 ⟨rfl, hb3⟩
        have HB := hide (below_trans hB2 hb3)
        clear hb3 hB2
        go_wp2_with fail
        go_ret2
        exact ⟨below_trans HB.out (below_alloc1 _ _), Or.inr ⟨hq.out, _, rfl⟩⟩
      · cases hT
        have a3 := Tryz.asM_S
        have hq : Hid (mapL d (Nd.mk 4 0 s' [] [] : Nd (Tr d)) s = none) := by
          exact (mapL_ok hok hstr).trans rfl
        go_wp2_with fail
        refine (isNothing_str _ w2).mono ?_
        rintro e w3 ⟨rfl, hb3⟩
        have HB := hide (below_trans hB2 hb3)
        clear hb3 hB2
        go_wp2_with fail
        go_ret2
        exact ⟨below_trans HB.out (below_alloc1 _ _), Or.inr ⟨hq.out, _, rfl⟩⟩
      · cases hT
        have a3 := Tryz.asM_R
        have hq : Hid (mapL d (Nd.mk 5 0 ByteArray.empty [] xs : Nd (Tr d)) s = none) := by
          exact (mapL_ok hok hstr).trans rfl
        go_wp2_with fail
        refine (isNothing_row _ w2).mono ?_
        rintro e w3 ⟨rfl, hb3⟩
        have HB := hide (below_trans hB2 hb3)
        clear hb3 hB2
        go_wp2_with fail
        go_ret2
        exact ⟨below_trans HB.out (below_alloc1 _ _), Or.inr ⟨hq.out, _, rfl⟩⟩
      · cases hT
        have a3 := Tryz.asM_M
        have hq : Hid (mapL d (Nd.mk 6 0 ByteArray.empty keys xs : Nd (Tr d)) s = some (keys, xs)) := by
          exact (mapL_ok hok hstr).trans rfl
        go_wp2_with fail
        refine (isNothing_map _ w2).mono ?_
        rintro e w3 ⟨rfl, hb3⟩
        have hA3 := below_alloc1 w3 (.cells #[.map (some r)] 145)
        have hb4 := below_trans hb3 hA3
        have HB := hide (below_trans hB2 hb4)
        have hmv := (Fresh.within w w2).same hb4
        have hsz4 := hb4.size
        have hfr : ∀ b, Fresh w w2 b → Fresh w (w3.alloc (.cells #[.map (some r)] 145)) b := fun b hb => ⟨hb.1, by have := hb.2; omega⟩
        have HM : Hid (∃ es', MapO w.heap.size (w3.alloc (.cells #[.map (some r)] 145)) r es' keys xs) := by
          obtain ⟨r', es', he', q1, q2, q3, q4⟩ := (HT.out.moved hb4 (Nat.le_refl _)).2 rfl
          cases he'
          exact ⟨es', (okT_kinds hok).2.1, h2, h3, q1, q3, mapG_of (okT_map hok) q4⟩
        clear hb3 hB2 hb4 hA3 hmv hfr he hm hr h4 h3 h2
        go_wp2_with fail
        go_ret2
        obtain ⟨es', hm'⟩ := HM.out
        exact ⟨HB.out, Or.inl ⟨keys, xs, r, es', hq.out, rfl, hm'⟩⟩
  · unfold faultV
    go_wp2_with fail
    go_ret2
    exact ⟨hB, Or.inr ⟨mapL_no (Or.inl hok), why, rfl⟩⟩
end Go.Proofs.YtmibjmipndffmaaGreatDoor
