/- Texts of the proof, put together by program: Read, RLaid, WTop, WPartP, WGTo, WGetP, WPutL, WPutF. -/
import Derived.Test.YtoangpfmjohhmaaGreatDoorP1
import Derived.Test.YtoangpfmjohhmaaGreatDoorRows
import Derived.Deep.Slices
import Derived.Deep.Strs
import Derived.SizedLaws
import Derived.OpenShut
import Derived.Lib.SmallJoins
import Derived.Carry
import Derived.Test.YtoangpfmjohhmaaGreatDoorP7
import Derived.ChangeSame
import Derived.ChangeVars
import Derived.JoinedOf
import Derived.RowKit
import Derived.RowKitTokens
import Derived.LaidLaws
import Derived.LaidHandle
import Derived.Stop.Joined
import Derived.Test.YtoangpfmjohhmaaGreatDoorP8
import Derived.Test.YtoangpfmjohhmaaGreatDoorP9
import Derived.Test.YtoangpfmjohhmaaGreatDoorP6
/- A tree that came in, read as data, lies in memory as a tree. -/
namespace Go.Proofs.YtoangpfmjohhmaaGreatDoor
open Go.RowKit Go.Deep

section
variable {H : Type} {enc : TypeId × Value → H} {W : World}

theorem addr_add {a : Addr} {n : Nat} (h : a.spot = none) : a.add n = ⟨a.block, a.off + n, none⟩ := by
  obtain ⟨b, o, s⟩ := a
  simp only at h
  subst h
  unfold Addr.add
  split
  · rename_i h0
    subst h0
    rfl
  · rfl
theorem cell_spot {a : Addr} {v : Value} (h : W.cell? a = some v) : a.spot = none ∧ a.block < W.heap.size := by
  refine ⟨?_, World.block_lt_of_cell? W a h⟩
  unfold World.cell? at h
  split at h
  · split at h
    · cases h
    · rename_i hs
      cases hs2 : a.spot with
      | none => rfl
      | some x => rw [hs2] at hs; simp at hs
  · cases h

theorem each_weight {e : TypeId} : ∀ {ds : List (DataW H)} {d : DataW H}, d ∈ ds → ∀ n ∈ d.weights Tryz.prog e, n ∈ DataW.weightsAll Tryz.prog e ds
  | _ :: r, d, h, n, hn => by
    rw [DataW.weightsAll]
    cases h with
    | head => exact List.mem_append_left _ hn
    | tail _ h => exact List.mem_append_right _ (each_weight h n hn)

/-- What the form's own reach says of a reading. -/
def Fits (t : TypeId) (d : DataW H) : Prop := ∀ n ∈ d.weights Tryz.prog t, n ≤ reachBytes

theorem read_strs {fuel : Nat} {cs : List Value} {x : DataW H × List MemPlace} (h : DataW.trod enc Tryz.prog W 0 (fun _ => true) true fuel 23 cs = some x) (hz : Fits 23 x.1) :
    ∃ v ss, cs = [v] ∧ StrsAt (fun b => b < W.heap.size) W v ss := by
  rcases open_strs Tryz.underlying23 Tryz.underlying9 (by kernel_rfl) h with ⟨rfl, _⟩ | ⟨a, len, cap, m, Sx, rfl, _, hl, hm, hmm, rfl, hc⟩
  · exact ⟨_, [], rfl, by simp, by simp, none, 0, rfl, Or.inl rfl⟩
  · simp only [if_true] at hmm
    subst hmm
    have hb : Tryz.prog.bytesOf 9 = 16 := by kernel_rfl
    have hw : ∀ n ∈ (((List.range len).map (fun i => (DataW.lit (.string (Sx i).data.toList) : DataW H))).length + ((List.range (m - len)).map (fun j => (DataW.lit (.string (Sx (len + j)).data.toList) : DataW H))).length) * 16 ::
        (DataW.weightsAll Tryz.prog 9 ((List.range len).map (fun i => (DataW.lit (.string (Sx i).data.toList) : DataW H))) ++ DataW.weightsAll Tryz.prog 9 ((List.range (m - len)).map (fun j => (DataW.lit (.string (Sx (len + j)).data.toList) : DataW H)))), n ≤ reachBytes := by
      intro n hn
      refine hz n ?_
      simp only [DataW.weights, Tryz.underlying23, hb]
      exact hn
    have h1 := hw _ (List.mem_cons_self ..)
    simp only [List.length_map, List.length_range] at h1
    unfold reachBytes at h1 hw
    refine ⟨_, (List.range len).map Sx, rfl, ?_, ?_, some a, m, by simp, ?_⟩
    · simp
      omega
    · intro s hs
      obtain ⟨i, hi, rfl⟩ := List.mem_map.1 hs
      have h2 := hw (Sx i).size (List.mem_cons_of_mem _ (List.mem_append_left _ (each_weight (List.mem_map.2 ⟨i, hi, rfl⟩) _ (by simp [DataW.weights]))))
      omega
    · by_cases h0 : len = 0
      · subst h0
        exact Or.inl rfl
      · have hsp := cell_spot (hc 0 (by omega)).1
        have hsp2 : a.spot = none := by
          have e : (a.add 0) = a := by simp [Addr.add]
          rw [e] at hsp
          exact hsp.1
        have hblk : a.block < W.heap.size := by
          have e : (a.add 0) = a := by simp [Addr.add]
          rw [e] at hsp
          exact hsp.2
        refine Or.inr ⟨a.block, a.off, hblk, ?_, fun i s hi => ?_⟩
        · obtain ⟨b, o, sp⟩ := a
          simp only at hsp2
          subst hsp2
          rfl
        · obtain ⟨hi1, hi2⟩ := List.getElem?_eq_some_iff.1 hi
          simp only [List.length_map, List.length_range] at hi1
          simp only [List.getElem_map, List.getElem_range] at hi2
          subst hi2
          have := (hc i (by omega)).1
          rwa [addr_add hsp2] at this

theorem wf_i64 {n : Int} (h : (Lit.int .i64 n).wf = true) : I64 n := by
  simp [Lit.wf, IntKind.min, IntKind.max, IntKind.signed, IntKind.bits] at h
  exact h

/-- The weights of a struct's parts. -/
theorem agg_weight {t : TypeId} {fs : Array Field} (ht : Tryz.prog.underlying t = some (.struct fs)) {parts : List (DataW H)} (hz : Fits t (.agg parts)) {i : Nat} {f : Field} {d : DataW H} (hf : fs[i]? = some f) (hd : parts[i]? = some d) : Fits f.type d := by
  intro n hn
  refine hz n ?_
  simp only [DataW.weights, ht]
  exact DataW.weights_mem_each (ts := fs.toList.map (·.type)) (by rw [List.getElem?_map, Array.getElem?_toList, hf]; rfl) hd n hn

theorem choose_list {α : Type} {p : Nat → α → Prop} : ∀ (n : Nat), (∀ i, i < n → ∃ x, p i x) → ∃ xs : List α, xs.length = n ∧ ∀ i x, xs[i]? = some x → p i x
  | 0, _ => ⟨[], rfl, fun i x h => by simp at h⟩
  | n + 1, h => by
    obtain ⟨xs, hl, hx⟩ := choose_list n (fun i hi => h i (by omega))
    obtain ⟨y, hy⟩ := h n (by omega)
    refine ⟨xs ++ [y], by simp [hl], fun i x hi => ?_⟩
    by_cases e : i < n
    · rw [List.getElem?_append_left (by omega)] at hi
      exact hx i x hi
    · have hlt := (List.getElem?_eq_some_iff.1 hi).1
      simp [hl] at hlt
      obtain rfl : i = n := by omega
      rw [List.getElem?_append_right (by omega), hl, Nat.sub_self] at hi
      cases hi
      exact hy

theorem cells5 {a : Addr} {cs : List Value} (h : W.cells? 0 a 5 = some cs) : ∃ c0 c1 c2 c3 c4, cs = [c0, c1, c2, c3, c4] ∧ W.cell? (a.add 0) = some c0 ∧ W.cell? (a.add 1) = some c1 ∧ W.cell? (a.add 2) = some c2 ∧ W.cell? (a.add 3) = some c3 ∧ W.cell? (a.add 4) = some c4 := by
  unfold World.cells? at h
  rw [if_pos (Nat.zero_le _)] at h
  simp only [show List.range 5 = [0, 1, 2, 3, 4] from rfl, List.mapM_cons, List.mapM_nil, Option.pure_def, Option.bind_eq_bind, Option.bind_eq_some_iff, Option.some.injEq] at h
  obtain ⟨c0, h0, r0, ⟨c1, h1, r1, ⟨c2, h2, r2, ⟨c3, h3, r3, ⟨c4, h4, r4, e5, e4⟩, e3⟩, e2⟩, e1⟩, e0⟩ := h
  subst e5 e4 e3 e2 e1 e0
  exact ⟨c0, c1, c2, c3, c4, rfl, h0, h1, h2, h3, h4⟩

set_option maxRecDepth 100000 in
theorem read_val : ∀ (N fuel : Nat), fuel ≤ N → ∀ (cs : List Value) (x : DataW H × List MemPlace), DataW.trod enc Tryz.prog W 0 (fun _ => true) true fuel 40 cs = some x → Fits 40 x.1 →
    ∃ t : Tr N, ValAt (fun b => b < W.heap.size) W N t (.agg cs.toArray)
  | 0, fuel, hN, cs, x, h, _ => by
    obtain rfl : fuel = 0 := by omega
    simp [DataW.trod] at h
  | N + 1, fuel, hN, cs, x, h, hz => by
    have ih := read_val N
    obtain ⟨xs, n, hn, rfl, hl, hlen, hf⟩ := DataW.trod_struct Tryz.underlying40 h
    have hcs : Tryz.prog.cellsOf 40 = 5 := by kernel_rfl
    have c3 : Tryz.prog.cellsOf 3 = 1 := by kernel_rfl
    have c9 : Tryz.prog.cellsOf 9 = 1 := by kernel_rfl
    have c22 : Tryz.prog.cellsOf 23 = 1 := by kernel_rfl
    have c23 : Tryz.prog.cellsOf 38 = 1 := by kernel_rfl
    have hby : Tryz.prog.bytesOf 40 = 80 := by kernel_rfl
    rw [hcs] at hl
    match cs, hl with
    | [v0, v1, v2, v3, v4], _ =>
      match xs, hlen with
      | [y0, y1, y2, y3, y4], _ =>
        have f0 := hf 0 _ rfl
        have f1 := hf 1 _ rfl
        have f2 := hf 2 _ rfl
        have f3 := hf 3 _ rfl
        have f4 := hf 4 _ rfl
        simp [c3, c9, c22, c23] at f0 f1 f2 f3 f4
        have z2 := agg_weight Tryz.underlying40 hz (i := 2) rfl rfl
        have z3 := agg_weight Tryz.underlying40 hz (i := 3) rfl rfl
        have z4 := agg_weight Tryz.underlying40 hz (i := 4) rfl rfl
        clear hf h hz
        obtain ⟨k, e0, _, w0⟩ := DataW.trod_int Tryz.underlying3 f0
        obtain ⟨m, e1, _, w1⟩ := DataW.trod_int Tryz.underlying3 f1
        obtain ⟨s, e2, e2', _⟩ := DataW.trod_string Tryz.underlying9 f2
        obtain ⟨v, ss, e3, hss⟩ := read_strs f3 z3
        cases e0
        cases e1
        cases e2
        cases e3
        have hs : s.size < 281474976710656 := by
          subst e2'
          have := z2 s.size (by simp [DataW.weights])
          unfold reachBytes at this
          omega
        rcases DataW.trod_slice Tryz.underlying38 f4 with ⟨e4, _⟩ | ⟨a, len, cap, elems, rest, q, hq, e4, e4', _, hlc, _, hel, hels, hsp, _⟩
        · cases e4
          exact ⟨Nd.mk k m s ss [], _, _, rfl, wf_i64 w0, wf_i64 w1, hs, hss, by simp, none, 0, rfl, Or.inl rfl⟩
        · cases e4
          subst e4'
          obtain ⟨hrl, _⟩ := hsp rfl
          have hw : ∀ n ∈ ((elems.map (·.1)).length + (rest.map (·.1)).length) * 80 :: (DataW.weightsAll Tryz.prog 40 (elems.map (·.1)) ++ DataW.weightsAll Tryz.prog 40 (rest.map (·.1))), n ≤ reachBytes := by
            intro n hn
            have z4' : Fits 38 (DataW.slice (elems.map (·.1)) (rest.map (·.1))) := z4
            refine z4' n ?_
            simp only [DataW.weights, Tryz.underlying38, hby]
            exact hn
          have hwl := hw _ (List.mem_cons_self ..)
          simp only [List.length_map] at hwl
          unfold reachBytes at hwl
          rw [hcs] at hels
          have each : ∀ i, i < len → ∃ t : Tr N, ∃ c0 c1 c2 c3 c4, (W.cell? ((a.add (i * 5)).add 0) = some c0 ∧ W.cell? ((a.add (i * 5)).add 1) = some c1 ∧ W.cell? ((a.add (i * 5)).add 2) = some c2 ∧ W.cell? ((a.add (i * 5)).add 3) = some c3 ∧ W.cell? ((a.add (i * 5)).add 4) = some c4) ∧
              ValAt (fun b => b < W.heap.size) W N t (.agg #[c0, c1, c2, c3, c4]) := by
            intro i hi
            have h1 := hels i hi
            rw [List.getElem?_eq_getElem (by omega)] at h1
            obtain ⟨cs', h2, h3⟩ := Option.bind_eq_some_iff.1 h1
            obtain ⟨c0, c1, c2, c3, c4, rfl, g0, g1, g2, g3, g4⟩ := cells5 h2
            obtain ⟨t, ht⟩ := ih q (by omega) _ _ h3 (fun n hn => hw n (List.mem_cons_of_mem _ (List.mem_append_left _ (each_weight (List.mem_map.2 ⟨_, List.getElem_mem (by omega), rfl⟩) n hn))))
            exact ⟨t, c0, c1, c2, c3, c4, ⟨g0, g1, g2, g3, g4⟩, ht⟩
          obtain ⟨ts, htl, hts⟩ := choose_list len each
          refine ⟨Nd.mk k m s ss ts, _, _, rfl, wf_i64 w0, wf_i64 w1, hs, hss, by show ts.length < 3518437208883; omega, some a, cap, by show _ = Value.slice (some a) ts.length cap; rw [htl], ?_⟩
          by_cases h0 : len = 0
          · exact Or.inl (List.eq_nil_of_length_eq_zero (by show ts.length = 0; omega))
          · obtain ⟨_, c0, _, _, _, _, ⟨g0, _⟩, _⟩ := each 0 (by omega)
            have hsp := cell_spot g0
            have e : ((a.add (0 * 5)).add 0) = a := by simp [Addr.add]
            rw [e] at hsp
            refine Or.inr ⟨a.block, a.off, hsp.2, ?_, fun i x hi => ?_⟩
            · obtain ⟨b, o, sp⟩ := a
              have := hsp.1
              simp only at this
              subst this
              rfl
            · obtain ⟨c0, c1, c2, c3, c4, ⟨g0, g1, g2, g3, g4⟩, hv⟩ := hts i x hi
              rw [addr_add hsp.1, addr_add rfl] at g0 g1 g2 g3 g4
              exact ⟨c0, c1, c2, c3, c4, g0, g1, g2, g3, g4, hv⟩

/-- An argument that is a tree. -/
theorem read_arg {v : Value} {d : DataW H} {p : List MemPlace} (hs : ∃ cs, v = .agg cs) (h : DataW.Trod enc Tryz.prog W 0 (fun _ => true) true 40 v d p) (hz : Fits 40 d) :
    ∃ (N : Nat) (t : Tr N), ValAt (fun b => b < W.heap.size) W N t v := by
  obtain ⟨cs, rfl⟩ := hs
  obtain ⟨fuel, hf⟩ := h
  obtain ⟨t, ht⟩ := read_val fuel fuel (Nat.le_refl _) _ _ hf hz
  exact ⟨fuel, t, by simpa [Value.cells] using ht⟩
end
end Go.Proofs.YtoangpfmjohhmaaGreatDoor

/- The one variable that the rows list: what it holds when a call begins. -/
namespace Go.Proofs.YtoangpfmjohhmaaGreatDoor
open Go.ChangeShapes Go.WideShapes Go.RowKit

theorem Tryz.own : ownKnob Tryz.prog.godebug = none := by kernel_rfl
theorem Tryz.laidOut : laidOutB Tryz.prog = true := by kernel_rfl
/-- The listed variable, with its datum. -/
def laidV : List (String × DataW Unit) := [("errors.errorType", Rows.laid_errors_errorType)]
/-- The name of the type that stands for a type. -/
def rtName : String := match (Rows.laid_errors_errorType : DataW Unit) with | .iface s _ => s | _ => ""
theorem Tryz.et : Tryz.prog.globalNamed "errors.errorType" = some 0 := by kernel_rfl
theorem Tryz.rt : (Tryz.prog.cutTypes.find? (·.1 == rtName)).map (·.2) = some 185 := by kernel_rfl
theorem Tryz.oneRow : ((List.range Tryz.prog.types.size).filter fun t => Tryz.prog.rowNamed t [101, 114, 114, 111, 114]) = [60] := by kernel_rfl

theorem errType_of_laid {W : World} (h : laidMetH Tryz.prog laidV W) : ErrType W := by
  have h' : laidMet Tryz.prog [] W ∧ handlesMet Tryz.prog laidV W := h
  obtain ⟨name, u, ty, e1, e2, e3, e4, e5⟩ := h'.2 _ (List.mem_singleton.2 rfl)
  have en : name = [101, 114, 114, 111, 114] := (Option.some.inj e1).symm
  subst en
  obtain rfl := Option.some.inj (Tryz.rt.symm.trans e2)
  have hm : ty ∈ (List.range Tryz.prog.types.size).filter fun t => Tryz.prog.rowNamed t [101, 114, 114, 111, 114] := List.mem_filter.2 ⟨List.mem_range.2 e3, e4⟩
  rw [Tryz.oneRow] at hm
  obtain rfl := List.mem_singleton.1 hm
  have hh : typeHandle Tryz.prog 60 = .pointer (some ⟨1, 60, none⟩) := by kernel_rfl
  rw [hh] at e5
  exact World.var?_cell Tryz.et e5 0
end Go.Proofs.YtoangpfmjohhmaaGreatDoor

/- treeOf, given: what is topmost owns its memory. -/
namespace Go.Proofs.YtoangpfmjohhmaaGreatDoor
open Go.RowKit Go.Deep

theorem TopOwn.moved {d N M : Nat} {w w' : World} {t : Nd (Tr d)} {u : Value} (h : TopOwn N w t u) (hb : Below w.heap.size w w') (hM : M ≤ N) : TopOwn M w' t u := by
  refine ⟨fun h5 => ?_, fun h6 => ?_⟩
  · obtain ⟨sv, vs, e, ht⟩ := h.1 h5
    exact ⟨sv, vs, e, ht.moved hb hM⟩
  · obtain ⟨r, es, e, h1, h2, h3, hm⟩ := h.2 h6
    have hz := hb.size
    exact ⟨r, es, e, by omega, by omega, (hb.block r h2).trans h3, hm.moved (fun x u hx => TreeAt.moved (fun b hb' => hb.block b hb'.2.1) (fun b hb' => ⟨by have := hb'.1; omega, by have := hb'.2.1; omega, hb'.2.2⟩) d x u hx)⟩

set_option maxHeartbeats 1000000 in
theorem treeOf_own (d : Nat) (S : Nat → Prop) (t : Nd (Tr d)) (v : Value) (w : World) (hv : ValAt S w (d + 1) t v) (hS : Within S w) :
    Calls Tryz.prog 43 #[v] w fun e w' => ∃ u, e = .returned (.tuple #[u, .bool (treeP (d + 1) t 60 1).1]) ∧ ((treeP (d + 1) t 60 1).1 = true → TreeAt (Fresh w w') w' (d + 1) t u ∧ TopOwn w.heap.size w' t u) ∧ Below w.heap.size w w' := by
  obtain ⟨k, n, s, ak, lk, ck, al, ll, cl, rfl⟩ := hv.shape
  have hA : Below w.heap.size w ((w.alloc (.cells #[.int .i64 k, .int .i64 n, .string s, .slice ak lk ck, .slice al ll cl] 26)).alloc (.cells #[.int .i64 60] 131)) := below_trans (below_alloc1 _ _) (below_alloc1 _ _)
  have hr : Room ((w.alloc (.cells #[.int .i64 k, .int .i64 n, .string s, .slice ak lk ck, .slice al ll cl] 26)).alloc (.cells #[.int .i64 60] 131)) (w.heap.size + 1) 60 := by
    have := heap_alloc_new (w.alloc (.cells #[.int .i64 k, .int .i64 n, .string s, .slice ak lk ck, .slice al ll cl] 26)) (.cells #[.int .i64 60] 131)
    simpa [Room] using this
  go_enter Tryz.func43, Tryz.ntmps43
  go_wp2_with fail
  refine (tree_own d S t _ 60 1 (w.heap.size + 1) _ (hv.same (hS.same hA)) (hS.later hA.size) (fun h => by have := hS _ h; omega) hr (by omega) (by omega) (by omega) (by omega)).mono ?_
  rintro e w1 ⟨u, rfl, hu, _, hb1⟩
  have HB : Hid (Below w.heap.size w w1) := by
    refine ⟨hb1.os.trans hA.os, hb1.tape.trans hA.tape, hb1.output.trans hA.output, Nat.le_trans hA.size hb1.size, fun i hi => ?_⟩
    exact (hb1.block i (Nat.lt_of_lt_of_le hi hA.size) (fun e => by cases e; omega)).trans (hA.block i hi)
  have hin : ∀ b, Fresh ((w.alloc (.cells #[.int .i64 k, .int .i64 n, .string s, .slice ak lk ck, .slice al ll cl] 26)).alloc (.cells #[.int .i64 60] 131)) w1 b → Fresh w w1 b := fun b hb => ⟨Nat.le_trans hA.size hb.1, hb.2⟩
  have HU : Hid ((treeP (d + 1) t 60 1).1 = true → TreeAt (Fresh w w1) w1 (d + 1) t u ∧ TopOwn w.heap.size w1 t u) := fun h => ⟨TreeAt.moved (Same.refl _ _) hin (d + 1) t u (hu h).1, (hu h).2.moved (Below.refl _ _) hA.size⟩
  clear hu hb1 hr hA hv hin
  go_wp2_with fail
  go_ret2
  exact ⟨u, rfl, HU.out, HB.out⟩


/-- A tree whose topmost list or map is its own, or why there is none. -/
def GivenQ (d : Nat) (t : Nd (Tr d)) (w : World) (e : Ending) (w' : World) : Prop :=
  Below w.heap.size w w' ∧ ((okT (d + 1) t = true ∧ ∃ u, e = .returned (.tuple #[u, .nilIface]) ∧ TreeG (Fresh w w') w' (d + 1) t u ∧ TopOwn w.heap.size w' t u) ∨ (okT (d + 1) t = false ∧ ∃ why, e = .returned (.tuple #[.nilIface, faultV why])))

set_option maxRecDepth 100000 in
set_option maxHeartbeats 1000000 in
theorem given_own (d : Nat) (S : Nat → Prop) (t : Nd (Tr d)) (v : Value) (w : World) (hv : ValAt S w (d + 1) t v) (hS : Within S w) :
    Calls Tryz.prog 35 #[v] w (GivenQ d t w) := by
  obtain ⟨k, n, s, ak, lk, ck, al, ll, cl, rfl⟩ := hv.shape
  have hA := below_alloc1 w (.cells #[.int .i64 k, .int .i64 n, .string s, .slice ak lk ck, .slice al ll cl] 26)
  go_enter Tryz.func35, Tryz.ntmps35
  go_wp2_with fail
  refine (treeOf_own d S t _ _ (hv.same (hS.same hA)) (hS.later hA.size)).mono ?_
  rintro e w1 ⟨u, rfl, hu, hb1⟩
  have hpo : (treeP (d + 1) t 60 1).1 = okT (d + 1) t := treeP_okT (d := d + 1) (t := t)
  rw [hpo] at hu ⊢
  have HB := hide (below_trans hA hb1)
  have hsz := hA.size
  cases hf : okT (d + 1) t with
  | false =>
    clear hu hb1 hA hv
    go_wp2_with fail
    go_ret2
    exact ⟨HB.out, Or.inr ⟨hf, _, rfl⟩⟩
  | true =>
    have hG : TreeG (Fresh w w1) w1 (d + 1) t u := (treeG_of (d + 1) t 6 u (okT_form hf).1 (okT_form hf).2 (hu hf).1).mono (fun b hb => ⟨by have := hb.1; omega, hb.2⟩)
    obtain ⟨T, u', rfl⟩ := hG.iface
    have HG := hide hG
    have HO := hide ((hu hf).2.moved (Below.refl _ _) hA.size)
    clear hu hb1 hA hv hG
    go_wp2_with fail
    go_ret2
    exact ⟨HB.out, Or.inl ⟨hf, _, rfl, HG.out, HO.out⟩⟩

end Go.Proofs.YtoangpfmjohhmaaGreatDoor

/- Parts of trees that are ok; what lies at a place. -/
namespace Go.Proofs.YtoangpfmjohhmaaGreatDoor
open Go.RowKit Go.Deep

theorem sum_map_eq {α : Type} {f g : α → Nat} : ∀ (xs : List α), (∀ x ∈ xs, f x = g x) → (xs.map f).sum = (xs.map g).sum
  | [], _ => rfl
  | x :: r, h => by
    simp only [List.map_cons, List.sum_cons]
    rw [h x (by simp), sum_map_eq r (fun y hy => h y (by simp [hy]))]

theorem formT_up : ∀ (d : Nat) (t : Tr d) (deep : Int), formT d t deep = true → formT d t (deep + 1) = true ∧ manyT d t (deep + 1) = manyT d t deep
  | 0, _, _, h => by cases h
  | d + 1, t, deep, hf => by
    obtain ⟨kind, num, str, keys, list⟩ := t
    cases hb : headBad kind num str keys.length list.length deep with
    | true => rw [formT_bad hb] at hf; cases hf
    | false =>
      obtain ⟨g0, g1, g2, g3, g4⟩ := headBad_iff.1 hb
      have hb' : headBad kind num str keys.length list.length (deep + 1) = false := headBad_iff.2 ⟨by omega, g1, g2, g3, g4⟩
      rw [formT_good hb] at hf
      rw [formT_good hb']
      have hm : ∀ e : Int, 0 < e → manyT (d + 1) (Nd.mk kind num str keys list : Nd (Tr d)) e = 1 + (list.map (fun x => manyT d x (e - 1))).sum := fun e he => by
        show 1 + (if 0 < e then _ else 0) = _
        rw [if_pos he]
      rw [hm _ (by omega), hm _ (by omega)]
      have hall : ∀ x ∈ list, formT d x (deep - 1) = true := by
        intro x hx
        by_cases k5 : kind < 5
        · have := g4 k5
          rw [List.length_eq_zero_iff] at this
          rw [this] at hx
          cases hx
        rw [if_neg (by omega), if_neg (by omega), if_neg (by omega)] at hf
        by_cases k6 : kind = 6
        · rw [if_pos k6] at hf
          simp only [Bool.and_eq_true] at hf
          exact List.all_eq_true.1 hf.2 x hx
        rw [if_neg k6] at hf
        by_cases k5' : kind = 5
        · rw [if_pos k5'] at hf
          exact List.all_eq_true.1 hf x hx
        · rw [if_neg k5'] at hf
          cases hf
      have hup : ∀ x ∈ list, formT d x (deep + 1 - 1) = true ∧ manyT d x (deep + 1 - 1) = manyT d x (deep - 1) := fun x hx => by
        have h1 := formT_up d x (deep - 1) (hall x hx)
        rw [show deep - 1 + 1 = deep + 1 - 1 by omega] at h1
        exact h1
      have ha : list.all (fun x => formT d x (deep + 1 - 1)) = list.all (fun x => formT d x (deep - 1)) := by
        rw [List.all_eq_true.2 (fun x hx => (hup x hx).1), List.all_eq_true.2 hall]
      rw [ha]
      exact ⟨hf, by rw [sum_map_eq list (fun x hx => (hup x hx).2)]⟩

theorem okT_part {d : Nat} {t : Tr (d + 1)} {x : Tr d} (h : okT (d + 1) t = true) (hx : x ∈ Nd.list t) : okT d x = true := by
  obtain ⟨hf, hm⟩ := okT_form h
  obtain ⟨kind, num, str, keys, list⟩ := t
  have hx : x ∈ list := hx
  have hmm : manyT (d + 1) (Nd.mk kind num str keys list : Nd (Tr d)) 6 = 1 + (list.map (fun x => manyT d x (6 - 1))).sum := rfl
  rw [hmm] at hm
  have h1 := many_mem (d := d) (deep := 6 - 1) hx
  have hfx : formT d x (6 - 1) = true := by
    cases hb : headBad kind num str keys.length list.length 6 with
    | true => rw [formT_bad hb] at hf; cases hf
    | false =>
      obtain ⟨g0, g1, g2, g3, g4⟩ := headBad_iff.1 hb
      rw [formT_good hb] at hf
      by_cases k5 : kind < 5
      · have := g4 k5
        rw [List.length_eq_zero_iff] at this
        rw [this] at hx
        cases hx
      rw [if_neg (by omega), if_neg (by omega), if_neg (by omega)] at hf
      by_cases k6 : kind = 6
      · rw [if_pos k6] at hf
        simp only [Bool.and_eq_true] at hf
        exact List.all_eq_true.1 hf.2 x hx
      rw [if_neg k6] at hf
      by_cases k5' : kind = 5
      · rw [if_pos k5'] at hf
        exact List.all_eq_true.1 hf x hx
      · rw [if_neg k5'] at hf
        cases hf
  have h2 := formT_up d x (6 - 1) hfx
  have h3 : formT d x 6 = true := h2.1
  have h4 : manyT d x 6 = manyT d x (6 - 1) := h2.2
  have h5 : manyT d x 6 ≤ 60 := by rw [h4]; omega
  unfold okT
  rw [h3]
  simpa using h5

theorem str_empty {s : ByteArray} (h : s.toList = []) : s = ByteArray.empty := by
  rw [ByteArray.toList_eq] at h
  cases s with
  | mk a =>
    cases a with
    | mk l =>
      have h : l = [] := h
      rw [h]
      rfl
/-- What is nothing, is nothing at one depth less. -/
theorem valAt_zero {d : Nat} {S : Nat → Prop} {w : World} {t : Tr (d + 2)} {v : Value} (h : okT (d + 2) t = true) (h0 : Nd.kind t = 0) (hv : ValAt S w (d + 2) t v) : ValAt S w (d + 1) (zeroT d) v := by
  obtain ⟨hf, _⟩ := okT_form h
  obtain ⟨kind, num, str, keys, list⟩ := t
  have h0 : kind = 0 := h0
  subst h0
  cases hb : headBad 0 num str keys.length list.length 6 with
  | true => rw [formT_bad hb] at hf; cases hf
  | false =>
    obtain ⟨_, g1, g2, g3, g4⟩ := headBad_iff.1 hb
    obtain rfl := g1 (by omega)
    have hs : str = ByteArray.empty := str_empty (g2 (by omega))
    subst hs
    have hk := g3 (by omega)
    have hl := g4 (by omega)
    rw [List.length_eq_zero_iff] at hk hl
    subst hk hl
    obtain ⟨vk, vl, rfl, i1, i2, i3, hk, hl⟩ := hv
    exact ⟨vk, vl, rfl, i1, i2, i3, hk, by
      obtain ⟨a, ⟨p, c, e, q⟩⟩ := hl
      exact ⟨by show (0 : Nat) < 3518437208883; omega, p, c, e, Or.inl rfl⟩⟩

/-- What lies at a place, from the end if it is below 0. -/
def placeI (i : Int) (n : Nat) : Int := if i < -(n : Int) ∨ (n : Int) ≤ i then -1 else if i < 0 then i + n else i
def placeL {α : Type} (xs : List α) (i : Int) : Option α := if placeI i xs.length < 0 then none else xs[(placeI i xs.length).toNat]?
def partAtT (d : Nat) (t : Tr (d + 2)) (i : Int) : Tr (d + 1) × Bool :=
  if okT (d + 2) t = true then (if Nd.kind t = 0 then (zeroT d, true) else if Nd.kind t = 5 then ((placeL (Nd.list t) i).getD (zeroT d), true) else (zeroT d, false)) else (zeroT d, false)
theorem placeL_mem {α : Type} {xs : List α} {i : Int} {x : α} (h : placeL xs i = some x) : x ∈ xs := by
  unfold placeL at h
  split at h
  · cases h
  · exact List.mem_of_getElem? h
theorem okT_partAt (d : Nat) (t : Tr (d + 2)) (i : Int) : okT (d + 1) (partAtT d t i).1 = true := by
  unfold partAtT
  split
  · rename_i h
    split
    · exact okT_zero d
    split
    · cases hp : placeL (Nd.list t) i with
      | none => exact okT_zero d
      | some x => exact okT_part h (placeL_mem hp)
    · exact okT_zero d
  · exact okT_zero d
theorem placeI_range (i : Int) (n : Nat) : placeI i n = -1 ∨ (0 ≤ placeI i n ∧ placeI i n < n) := by
  unfold placeI
  split
  · exact Or.inl rfl
  · split <;> exact Or.inr (by omega)
theorem wt_part {d : Nat} {t : Tr (d + 1)} {x : Tr d} (hx : x ∈ Nd.list t) (h : okT (d + 1) t = true) : (wtT d x : Int) ≤ 4194304 := by
  have := wtT_ok (okT_part h hx)
  omega

/-- A tree that lies in memory, as one that may be one deeper. -/
theorem deepen {S : Nat → Prop} {w : World} {v : Value} : ∀ {N : Nat} {t : Tr N}, ValAt S w N t v → ∃ (d : Nat) (t' : Tr (d + 2)), ValAt S w (d + 2) t' v
  | 0, _, h => h.elim
  | 1, t, h => by
    obtain ⟨vk, vl, rfl, i1, i2, i3, hk, hl⟩ := h
    refine ⟨0, (Nd.mk (Nd.kind t) (Nd.num t) (Nd.str t) (Nd.keys t) [] : Nd (Tr 1)), vk, vl, rfl, i1, i2, i3, hk, ?_⟩
    obtain ⟨h1, a, cap, rfl, h2⟩ := hl
    have h0 : (Nd.list t).length = 0 := by
      cases hL : Nd.list t with
      | nil => rfl
      | cons x r => exact Empty.elim x
    exact ⟨by show (0 : Nat) < 3518437208883; omega, a, cap, by show _ = Value.slice a 0 cap; rw [h0], Or.inl rfl⟩
  | d + 2, t, h => ⟨d, t, h⟩
end Go.Proofs.YtoangpfmjohhmaaGreatDoor

/- A row of the program's own trees that owns its memory. -/
namespace Go.Proofs.YtoangpfmjohhmaaGreatDoor
open Go.RowKit Go.Deep

/-- A row as a tree. -/
def rowT (d : Nat) (xs : List (Tr d)) : Tr (d + 1) := (Nd.mk 5 0 ByteArray.empty [] xs : Nd (Tr d))
/-- A row of the program's own trees that owns its memory: its trees lie in blocks from N on, not in the row's own. -/
def GTo {d : Nat} (N : Nat) (w : World) (sv : Value) (xs : List (Tr d)) (vs : List Value) : Prop :=
  w.ownsRow N 58 1 sv xs.length vs ∧ ∀ (j : Nat) (x : Tr d) (u : Value), xs[j]? = some x → vs[j]? = some u → TreeG (Aside N w sv) w d x u

theorem gto_nil {d : Nat} (N : Nat) (w : World) : GTo (d := d) N w (.slice none 0 0) [] [] := ⟨World.ownsRow_nil _ _ _ _, fun j x u h => by simp at h⟩
theorem gto_of {d N : Nat} {w : World} {sv : Value} {xs : List (Tr d)} {vs : List Value} (h : TreesTo N w sv xs xs.length vs) (hf : ∀ x ∈ xs, formT d x 5 = true ∧ manyT d x 5 ≤ 60) : GTo N w sv xs vs :=
  ⟨h.1, fun j x u hx hu => treeG_of d x 5 u (hf x (List.mem_of_getElem? hx)).1 (hf x (List.mem_of_getElem? hx)).2 (h.2 j x u (List.getElem?_eq_some_iff.1 hx).1 hx hu)⟩
theorem okT_row {d : Nat} {xs : List (Tr d)} (h : okT (d + 1) (Nd.mk 5 0 ByteArray.empty [] xs : Nd (Tr d)) = true) : ∀ x ∈ xs, formT d x 5 = true ∧ manyT d x 5 ≤ 60 := by
  obtain ⟨hf, hm⟩ := okT_form h
  have hmm : manyT (d + 1) (Nd.mk 5 0 ByteArray.empty [] xs : Nd (Tr d)) 6 = 1 + (xs.map (fun x => manyT d x (6 - 1))).sum := rfl
  rw [hmm] at hm
  cases hb : headBad 5 0 ByteArray.empty ([] : List ByteArray).length xs.length 6 with
  | true => rw [formT_bad hb] at hf; cases hf
  | false =>
    rw [formT_good hb] at hf
    have hall : xs.all (fun x => formT d x (6 - 1)) = true := by simpa using hf
    intro x hx
    have h1 := many_mem (d := d) (deep := 6 - 1) hx
    exact ⟨List.all_eq_true.1 hall x hx, by have h2 : manyT d x 5 = manyT d x (6 - 1) := rfl; omega⟩

/-- The trees of a row, wherever it lies. -/
theorem GTo.row {d N : Nat} {w : World} {sv : Value} {xs : List (Tr d)} {vs : List Value} (h : GTo N w sv xs vs) (hl : xs.length < 17592186044416) : Row1At (fun b => N ≤ b ∧ b < w.heap.size) w (TreeG (fun b => N ≤ b ∧ b < w.heap.size) w d) sv xs := by
  obtain ⟨h1, h2⟩ := h
  refine ⟨hl, ?_⟩
  have hlen := h1.1
  rw [Nat.mul_one] at hlen
  rcases h1.2 with ⟨rfl, h0⟩ | ⟨g, cap, cur, rfl, hg, hh, _, _, _, _⟩
  · exact ⟨none, 0, by rw [h0], Or.inl (List.eq_nil_of_length_eq_zero h0)⟩
  · refine ⟨some ⟨g, 0, none⟩, cap, rfl, Or.inr ⟨g, 0, ⟨by omega, (Array.getElem?_eq_some_iff.1 hh).1⟩, rfl, fun i x hx => ?_⟩⟩
    have hi := (List.getElem?_eq_some_iff.1 hx).1
    have hvi : vs[i]? = some vs[i] := List.getElem?_eq_getElem (by omega)
    have hc := h1.cells (g := g) rfl i _ hvi
    have hadd : (⟨g, 0, none⟩ : Addr).add i = ⟨g, 0 + i, none⟩ := by unfold Addr.add; split <;> simp_all
    rw [hadd] at hc
    exact ⟨vs[i], hc, (h2 i x _ hx hvi).mono (fun b hb => ⟨hb.1, hb.2.1⟩)⟩

end Go.Proofs.YtoangpfmjohhmaaGreatDoor

/- What lies at a key. -/
namespace Go.Proofs.YtoangpfmjohhmaaGreatDoor
open Go.RowKit Go.Deep

/-- What lies at a key, of keys and what lies at them. -/
def getL {α : Type} : List ByteArray → List α → ByteArray → Option α
  | k :: ks, x :: xs, s => if (k == s) = true then some x else getL ks xs s
  | _, _, _ => none
def partGetT (d : Nat) (t : Tr (d + 2)) (s : ByteArray) : Tr (d + 1) × Bool :=
  if okT (d + 2) t = true ∧ strOk s = true then (if Nd.kind t = 0 then (zeroT d, true) else if Nd.kind t = 6 then ((getL (Nd.keys t) (Nd.list t) s).getD (zeroT d), true) else (zeroT d, false)) else (zeroT d, false)

theorem getL_at {α : Type} {s : ByteArray} : ∀ {ks : List ByteArray} {xs : List α} {k : Nat} {x : α}, ks[k]? = some s → xs[k]? = some x → (∀ j, j < k → ks[j]? ≠ some s) → getL ks xs s = some x
  | [], _, _, _, h, _, _ => by simp at h
  | _ :: _, [], _, _, _, h, _ => by simp at h
  | a :: ks, y :: xs, 0, x, h, h', _ => by
    simp at h h'
    subst h h'
    rw [getL, if_pos ((MapKept.bytes_beq a a).2 rfl)]
  | a :: ks, y :: xs, k + 1, x, h, h', hn => by
    rw [getL, if_neg (fun e => hn 0 (by omega) (by rw [(MapKept.bytes_beq a s).1 e]; rfl))]
    exact getL_at (by simpa using h) (by simpa using h') (fun j hj => by have := hn (j + 1) (by omega); simpa using this)
theorem getL_miss {α : Type} {s : ByteArray} : ∀ {ks : List ByteArray} {xs : List α}, s ∉ ks → getL ks xs s = none
  | [], _, _ => by rw [getL]; intro _ _ _ _ h; cases h
  | _ :: _, [], _ => by rw [getL]; intro _ _ _ _ _ h; cases h
  | a :: ks, y :: xs, hn => by
    rw [getL, if_neg (fun e => hn (by rw [(MapKept.bytes_beq a s).1 e]; simp))]
    exact getL_miss (fun h => hn (by simp [h]))
theorem getL_mem {α : Type} {s : ByteArray} {x : α} : ∀ {ks : List ByteArray} {xs : List α}, getL ks xs s = some x → x ∈ xs
  | [], _, h => by rw [getL] at h; cases h; intro _ _ _ _ h; cases h
  | _ :: _, [], h => by rw [getL] at h; cases h; intro _ _ _ _ _ h; cases h
  | a :: ks, y :: xs, h => by
    rw [getL] at h
    split at h
    · cases h; simp
    · simp [getL_mem h]
/-- A key that is there. -/
theorem key_at {α : Type} {s : ByteArray} : ∀ {ks : List ByteArray} {xs : List α}, s ∈ ks → ks.length = xs.length → ∃ (k : Nat) (x : α), ks[k]? = some s ∧ xs[k]? = some x ∧ (∀ j, j < k → ks[j]? ≠ some s)
  | [], _, h, _ => by cases h
  | _ :: _, [], _, h => by simp at h
  | a :: ks, y :: xs, h, hl => by
    by_cases e : a = s
    · subst e
      exact ⟨0, y, rfl, rfl, fun j hj => by omega⟩
    · obtain ⟨k, x, h1, h2, h3⟩ := key_at (ks := ks) (xs := xs) (by simpa [Ne.symm e] using h) (by simpa using hl)
      refine ⟨k + 1, x, by simpa using h1, by simpa using h2, fun j hj => ?_⟩
      cases j with
      | zero => intro h; simp at h; exact e h
      | succ j => have := h3 j (by omega); simpa using this
theorem okT_keys {d : Nat} {t : Tr (d + 1)} (h : okT (d + 1) t = true) (h6 : Nd.kind t = 6) : (Nd.keys t).length = (Nd.list t).length := by
  obtain ⟨hf, hm⟩ := okT_form h
  obtain ⟨kind, num, str, keys, list⟩ := t
  have h6 : kind = 6 := h6
  cases hb : headBad kind num str keys.length list.length 6 with
  | true => rw [formT_bad hb] at hf; cases hf
  | false =>
    rw [formT_good hb, if_neg (by omega), if_neg (by omega), if_neg (by omega), if_pos h6] at hf
    simp only [Bool.and_eq_true] at hf
    exact by simpa using hf.1.1
theorem okT_partGet (d : Nat) (t : Tr (d + 2)) (s : ByteArray) : okT (d + 1) (partGetT d t s).1 = true := by
  unfold partGetT
  split
  · rename_i h
    split
    · exact okT_zero d
    split
    · cases hp : getL (Nd.keys t) (Nd.list t) s with
      | none => exact okT_zero d
      | some x => exact okT_part h.1 (getL_mem hp)
    · exact okT_zero d
  · exact okT_zero d
end Go.Proofs.YtoangpfmjohhmaaGreatDoor

/- Keys and trees, one more put at its place. -/
namespace Go.Proofs.YtoangpfmjohhmaaGreatDoor
open Go.RowKit Go.Deep

/-- Keys and what lies at them, in order, when x is put at key s. -/
def putL {α : Type} : List ByteArray → List α → ByteArray → α → List (ByteArray × α)
  | k :: ks, y :: ys, s, x => if ltB k s = true then (k, y) :: putL ks ys s x else if (k == s) = true then (s, x) :: ks.zip ys else (s, x) :: (k, y) :: ks.zip ys
  | [], _, s, x => [(s, x)]
  | _ :: _, [], s, x => [(s, x)]

theorem ltB_total {a b : ByteArray} (h : ltB a b = false) (hn : (a == b) = false) : ltB b a = true := by
  have ht := bytesLess_total a.toList b.toList
  unfold ltB at h ⊢
  have hne : (a.toList == b.toList) = false := by
    cases hb : (a.toList == b.toList)
    · rfl
    · have e := beq_iff_eq.1 hb
      rw [ByteArray.toList_eq, ByteArray.toList_eq] at e
      have : a = b := by
        cases a with
        | mk a =>
          cases b with
          | mk b =>
            have e : a.toList = b.toList := e
            cases a; cases b
            simp at e
            rw [e]
      rw [(MapKept.bytes_beq a b).2 this] at hn
      cases hn
  rw [h, hne] at ht
  simpa using ht.symm
theorem ltB_ne {a b : ByteArray} (h : ltB a b = true) : a ≠ b := fun e => by
  subst e
  have := bytesLess_irrefl a.toList
  unfold ltB at h
  rw [h] at this
  cases this

theorem zip_cons {α : Type} (k : ByteArray) (ks : List ByteArray) (y : α) (ys : List α) : (k :: ks).zip (y :: ys) = (k, y) :: ks.zip ys := rfl
theorem putL_length {α : Type} : ∀ (ks : List ByteArray) (xs : List α) (s : ByteArray) (x : α), (putL ks xs s x).length ≤ ks.length + 1
  | [], _, _, _ => by rw [putL]; simp
  | _ :: _, [], _, _ => by rw [putL]; simp
  | k :: ks, y :: ys, s, x => by
    have := putL_length ks ys s x
    rw [putL]
    split
    · simp; omega
    · split
      · simp; omega
      · simp; omega

/-- A key that is new comes in at its place. -/
theorem putL_new {α : Type} : ∀ {ks : List ByteArray} {xs : List α} {s : ByteArray} {x : α}, ks.length = xs.length → s ∉ ks → ((ks.zip xs) ++ [(s, x)]).Perm (putL ks xs s x)
  | [], [], _, _, _, _ => by rw [putL]; exact List.Perm.refl _
  | [], _ :: _, _, _, h, _ => by simp at h
  | _ :: _, [], _, _, h, _ => by simp at h
  | k :: ks, y :: ys, s, x, h, hn => by
    have hks : (k == s) = false := by
      cases hb : (k == s)
      · rfl
      · exact absurd (by rw [(MapKept.bytes_beq k s).1 hb]; simp) hn
    rw [putL, zip_cons, List.cons_append]
    split
    · exact List.Perm.cons _ (putL_new (by simpa using h) (fun hm => hn (by simp [hm])))
    · rw [if_neg (by rw [hks]; simp)]
      have hp := List.perm_middle (l₁ := (k, y) :: ks.zip ys) (l₂ := []) (a := (s, x))
      rw [List.append_nil] at hp
      exact hp

/-- A key that is there keeps its place. -/
theorem putL_there {α : Type} {s : ByteArray} {x : α} : ∀ {ks : List ByteArray} {xs : List α} {p : Option ByteArray} {j : Nat}, ks.length = xs.length → keysGo p ks = true → ks[j]? = some s → putL ks xs s x = (ks.zip xs).set j (s, x)
  | [], _, _, _, _, _, h => by simp at h
  | _ :: _, [], _, _, h, _, _ => by simp at h
  | k :: ks, y :: ys, p, 0, _, _, hj => by
    simp at hj
    subst hj
    rw [putL, if_neg (by have := bytesLess_irrefl k.toList; unfold ltB; rw [this]; simp), if_pos ((MapKept.bytes_beq k k).2 rfl)]
    rfl
  | k :: ks, y :: ys, p, j + 1, h, hk, hj => by
    have hj' : ks[j]? = some s := by simpa using hj
    have hgo : keysGo (some k) ks = true := by
      cases p with
      | none => simp only [keysGo, Bool.and_eq_true] at hk; exact hk.2
      | some q => simp only [keysGo, Bool.and_eq_true] at hk; exact hk.2.2
    rw [putL, if_pos (keysGo_all ks k hgo s (List.mem_of_getElem? hj')), zip_cons, List.set_cons_succ, putL_there (by simpa using h) hgo hj']

/-- The keys stay in order. -/
theorem putL_keys {α : Type} {s : ByteArray} {x : α} (hs : strOk s = true) : ∀ {ks : List ByteArray} {xs : List α} {p : Option ByteArray}, ks.length = xs.length → keysGo p ks = true → (∀ q, p = some q → ltB q s = true) → keysGo p ((putL ks xs s x).map Prod.fst) = true
  | [], _, none, _, _, _ => by rw [putL]; simp [keysGo, hs]
  | [], _, some q, _, _, hq => by rw [putL]; simp [keysGo, hs, hq q rfl]
  | _ :: _, [], _, h, _, _ => by simp at h
  | k :: ks, y :: ys, p, h, hk, hq => by
    have hlen : ks.length = ys.length := by simpa using h
    have hgo : strOk k = true ∧ keysGo (some k) ks = true ∧ (∀ q, p = some q → ltB q k = true) := by
      cases p with
      | none =>
        simp only [keysGo, Bool.and_eq_true] at hk
        exact ⟨hk.1, hk.2, fun q e => by cases e⟩
      | some q =>
        simp only [keysGo, Bool.and_eq_true] at hk
        exact ⟨hk.1, hk.2.2, fun q' e => by cases e; exact hk.2.1⟩
    have hfirst : ∀ (a : ByteArray) (r : List ByteArray), strOk a = true → (∀ q, p = some q → ltB q a = true) → keysGo (some a) r = true → keysGo p (a :: r) = true := fun a r h1 h2 h3 => by
      cases p with
      | none => simp [keysGo, h1, h3]
      | some q => simp [keysGo, h1, h2 q rfl, h3]
    rw [putL]
    split
    · rename_i hlt
      rw [List.map_cons]
      exact hfirst _ _ hgo.1 hgo.2.2 (putL_keys hs hlen hgo.2.1 (fun q e => by cases e; exact hlt))
    · rename_i hlt
      split
      · rename_i he
        have := (MapKept.bytes_beq k s).1 he
        subst this
        rw [List.map_cons, zip_fst _ _ hlen]
        exact hfirst _ _ hgo.1 hgo.2.2 hgo.2.1
      · rename_i he
        rw [List.map_cons, List.map_cons, zip_fst _ _ hlen]
        refine hfirst _ _ hs hq ?_
        have hsk : ltB s k = true := ltB_total (by simpa using hlt) (by simpa using he)
        simp [keysGo, hgo.1, hsk, hgo.2.1]

/-- A map as a tree. -/
def mapT (d : Nat) (ps : List (ByteArray × Tr d)) : Tr (d + 1) := (Nd.mk 6 0 ByteArray.empty (ps.map Prod.fst) (ps.map Prod.snd) : Nd (Tr d))
theorem zip_unzip {α : Type} : ∀ ps : List (ByteArray × α), (ps.map Prod.fst).zip (ps.map Prod.snd) = ps
  | [] => rfl
  | (k, x) :: r => by rw [List.map_cons, List.map_cons, zip_cons, zip_unzip r]
end Go.Proofs.YtoangpfmjohhmaaGreatDoor

/- What the loop of l2Put does, as a plain function. -/
namespace Go.Proofs.YtoangpfmjohhmaaGreatDoor

/-- One round: whether x is in by then, and what there is. -/
def stepP {α : Type} (s : ByteArray) (x : α) (st : Bool × List (ByteArray × α)) (p : ByteArray × α) : Bool × List (ByteArray × α) :=
  ((st.1 || !ltB p.1 s), (if (!st.1 && !ltB p.1 s) = true then st.2 ++ [(s, x)] else st.2) ++ (if (p.1 == s) = true then [] else [p]))
/-- The end. -/
def endP {α : Type} (s : ByteArray) (x : α) (st : Bool × List (ByteArray × α)) : List (ByteArray × α) := if st.1 = true then st.2 else st.2 ++ [(s, x)]

theorem bytes_ne {a b : ByteArray} (h : a ≠ b) : (a == b) = false := by
  cases hb : (a == b)
  · rfl
  · exact absurd ((MapKept.bytes_beq a b).1 hb) h
theorem bytes_self (a : ByteArray) : (a == a) = true := (MapKept.bytes_beq a a).2 rfl

/-- Once x is in, the rest comes behind it. -/
theorem foldP_done {α : Type} {s : ByteArray} {x : α} : ∀ (ps acc : List (ByteArray × α)), (∀ p ∈ ps, p.1 ≠ s) → ps.foldl (stepP s x) (true, acc) = (true, acc ++ ps)
  | [], acc, _ => by simp
  | p :: r, acc, h => by
    have h1 : stepP s x (true, acc) p = (true, acc ++ [p]) := by
      simp [stepP, bytes_ne (h p (by simp))]
    rw [List.foldl_cons, h1, foldP_done r (acc ++ [p]) (fun q hq => h q (by simp [hq])), List.append_assoc]
    rfl
theorem keysGo_tail {p : Option ByteArray} {k : ByteArray} {ks : List ByteArray} (h : keysGo p (k :: ks) = true) : keysGo (some k) ks = true := by
  cases p with
  | none => simp only [keysGo, Bool.and_eq_true] at h; exact h.2
  | some q => simp only [keysGo, Bool.and_eq_true] at h; exact h.2.2
theorem zip_key {α : Type} {ks : List ByteArray} {ys : List α} {p : ByteArray × α} (h : p ∈ ks.zip ys) : p.1 ∈ ks := (List.of_mem_zip (show (p.1, p.2) ∈ ks.zip ys from h)).1

/-- All rounds and the end: the keys and trees with x at s. -/
theorem foldP_put {α : Type} {s : ByteArray} {x : α} : ∀ {ks : List ByteArray} {xs : List α} {p : Option ByteArray} (acc : List (ByteArray × α)), ks.length = xs.length → keysGo p ks = true → endP s x ((ks.zip xs).foldl (stepP s x) (false, acc)) = acc ++ putL ks xs s x
  | [], [], _, acc, _, _ => by rw [putL]; rfl
  | [], _ :: _, _, _, h, _ => by simp at h
  | _ :: _, [], _, _, h, _ => by simp at h
  | k :: ks, y :: ys, p, acc, h, hk => by
    have hlen : ks.length = ys.length := by simpa using h
    have hgo := keysGo_tail hk
    have hall := keysGo_all ks k hgo
    rw [zip_cons, List.foldl_cons, putL]
    cases hlt : ltB k s with
    | true =>
      have hne := bytes_ne (ltB_ne hlt)
      have h1 : stepP s x (false, acc) (k, y) = (false, acc ++ [(k, y)]) := by simp [stepP, hlt, hne]
      rw [h1, foldP_put (acc ++ [(k, y)]) hlen hgo, List.append_assoc]
      rfl
    | false =>
      rw [if_neg (by simp)]
      cases he : (k == s) with
      | true =>
        have hks := (MapKept.bytes_beq k s).1 he
        have h1 : stepP s x (false, acc) (k, y) = (true, acc ++ [(s, x)]) := by simp [stepP, hlt, he]
        rw [h1, foldP_done (ks.zip ys) (acc ++ [(s, x)]) (fun q hq e => ltB_ne (hall q.1 (zip_key hq)) (by rw [hks, e]))]
        simp [endP]
      | false =>
        have hsk : ltB s k = true := ltB_total hlt he
        have h1 : stepP s x (false, acc) (k, y) = (true, acc ++ [(s, x)] ++ [(k, y)]) := by simp [stepP, hlt, he]
        rw [h1, foldP_done (ks.zip ys) (acc ++ [(s, x)] ++ [(k, y)]) (fun q hq e => ltB_ne (bytesLess_trans _ _ _ hsk (hall q.1 (zip_key hq))) e.symm)]
        simp [endP]
/-- What there is when k keys were looked at. -/
def putAt {α : Type} (s : ByteArray) (x : α) (ps : List (ByteArray × α)) (k : Nat) : Bool × List (ByteArray × α) := (ps.take k).foldl (stepP s x) (false, [])
theorem putAt_step {α : Type} {s : ByteArray} {x : α} {ps : List (ByteArray × α)} {k : Nat} {p : ByteArray × α} (h : ps[k]? = some p) : putAt s x ps (k + 1) = stepP s x (putAt s x ps k) p := by
  obtain ⟨hk, e⟩ := List.getElem?_eq_some_iff.1 h
  unfold putAt
  rw [List.take_succ_eq_append_getElem hk, List.foldl_append, e]
  rfl
theorem putAt_len {α : Type} {s : ByteArray} {x : α} {ps : List (ByteArray × α)} : ∀ k, (putAt s x ps k).2.length ≤ 2 * k
  | 0 => by simp [putAt]
  | k + 1 => by
    have ih := putAt_len (s := s) (x := x) (ps := ps) k
    cases h : ps[k]? with
    | none =>
      have hk : ps.length ≤ k := by simpa using h
      have : putAt s x ps (k + 1) = putAt s x ps k := by
        unfold putAt
        rw [List.take_of_length_le hk, List.take_of_length_le (by omega)]
      rw [this]
      omega
    | some p =>
      rw [putAt_step h]
      unfold stepP
      simp only [List.length_append]
      have h1 : (if (p.1 == s) = true then ([] : List (ByteArray × α)) else [p]).length ≤ 1 := by split <;> simp
      have h2 : (if (!(putAt s x ps k).1 && !ltB p.1 s) = true then (putAt s x ps k).2 ++ [(s, x)] else (putAt s x ps k).2).length ≤ (putAt s x ps k).2.length + 1 := by split <;> simp
      omega
end Go.Proofs.YtoangpfmjohhmaaGreatDoor
