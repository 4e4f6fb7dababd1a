/- Texts of the proof, put together by program: WVTo, WRowP, PSum, WCopyO, WSetT, WSetA, WRowS, WRowO, WUp. -/
import Derived.Test.YtoangpfmjohhmaaGreatDoorQ7
import Derived.Test.YtoangpfmjohhmaaGreatDoorQ11
import Derived.Test.YtoangpfmjohhmaaGreatDoorQ9
/- A row of the model's that is being made out of trees that lie elsewhere; what is told, in the result's own cells. -/
namespace Go.Proofs.YtoangpfmjohhmaaGreatDoor
open Go.RowKit Go.Deep

theorem nodes_wt : ∀ (d : Nat) (t : Tr d), nodes d t ≤ wtT d t
  | 0, t => Empty.elim t
  | d + 1, t => by
    have h : ∀ xs : List (Tr d), (xs.map (nodes d)).sum ≤ (xs.map (wtT d)).sum := by
      intro xs
      induction xs with
      | nil => exact Nat.le_refl _
      | cons x r ih =>
        have := nodes_wt d x
        simp only [List.map_cons, List.sum_cons]
        omega
    have := h (Nd.list t)
    rw [nodes, wtT]
    omega
theorem nodes_ok {d : Nat} {t : Tr d} (h : okT d t = true) : nodes d t ≤ 300 := Nat.le_trans (nodes_wt d t) (wtT_ok h)
theorem sum_le_of {α : Type} {f : α → Nat} {c : Nat} : ∀ {xs : List α}, (∀ x ∈ xs, f x ≤ c) → (xs.map f).sum ≤ c * xs.length
  | [], _ => by simp
  | x :: r, h => by
    have h1 := h x (by simp)
    have h2 := sum_le_of (xs := r) (fun y hy => h y (by simp [hy]))
    simp only [List.map_cons, List.sum_cons, List.length_cons]
    rw [Nat.mul_succ]
    omega
/-- A row of the model's that owns its cells; its trees lie in blocks of S. -/
def VTo {d : Nat} (S : Nat → Prop) (N : Nat) (w : World) (lv : Value) (xs : List (Tr d)) (vs : List Value) : Prop :=
  w.ownsRow N 26 5 lv xs.length vs ∧ ∀ (j : Nat) (x : Tr d), xs[j]? = some x → ∃ c0 c1 c2 c3 c4, vs[j * 5]? = some c0 ∧ vs[j * 5 + 1]? = some c1 ∧ vs[j * 5 + 2]? = some c2 ∧ vs[j * 5 + 3]? = some c3 ∧ vs[j * 5 + 4]? = some c4 ∧ ValAt S w d x (.agg #[c0, c1, c2, c3, c4])

theorem VTo.grow {d N : Nat} {S : Nat → Prop} {wr w2 : World} {lv lv' : Value} {xs : List (Tr d)} {vs : List Value} {x : Tr d} {v0 v1 v2 v3 v4 : Value} (h : VTo S N wr lv xs vs) (hs : Same S wr w2) (hx : ValAt S wr d x (.agg #[v0, v1, v2, v3, v4])) (hown : w2.ownsRow N 26 5 lv' (xs.length + 1) (vs ++ [v0, v1, v2, v3, v4])) : VTo S N w2 lv' (xs ++ [x]) (vs ++ [v0, v1, v2, v3, v4]) := by
  obtain ⟨h1, h2⟩ := h
  have hlen : vs.length = xs.length * 5 := h1.1
  refine ⟨by rw [List.length_append]; exact hown, fun j y hy => ?_⟩
  by_cases e : j < xs.length
  · rw [List.getElem?_append_left e] at hy
    obtain ⟨c0, c1, c2, c3, c4, e0, e1, e2, e3, e4, hv⟩ := h2 j y hy
    refine ⟨c0, c1, c2, c3, c4, ?_, ?_, ?_, ?_, ?_, hv.same hs⟩
    · rw [List.getElem?_append_left (by omega)]; exact e0
    · rw [List.getElem?_append_left (by omega)]; exact e1
    · rw [List.getElem?_append_left (by omega)]; exact e2
    · rw [List.getElem?_append_left (by omega)]; exact e3
    · rw [List.getElem?_append_left (by omega)]; exact e4
  · have hj : j = xs.length := by
      have := (List.getElem?_eq_some_iff.1 hy).1
      rw [List.length_append, List.length_singleton] at this
      omega
    subst hj
    rw [List.getElem?_append_right (Nat.le_refl _), Nat.sub_self] at hy
    cases hy
    refine ⟨v0, v1, v2, v3, v4, ?_, ?_, ?_, ?_, ?_, hx.same hs⟩
    · rw [List.getElem?_append_right (by omega), hlen]; simp
    · rw [List.getElem?_append_right (by omega), hlen]; simp
    · rw [List.getElem?_append_right (by omega), hlen]; simp
    · rw [List.getElem?_append_right (by omega), hlen]; simp
    · rw [List.getElem?_append_right (by omega), hlen]; simp

theorem VTo.moved {d N : Nat} {S : Nat → Prop} {w w' : World} {lv : Value} {xs : List (Tr d)} {vs : List Value} (h : VTo S N w lv xs vs) (hs : Same S w w') (ho : ∀ g, lv.ownBlock = some g → w'.heap[g]? = w.heap[g]?) : VTo S N w' lv xs vs := by
  obtain ⟨h1, h2⟩ := h
  refine ⟨⟨h1.1, ?_⟩, fun j x hx => ?_⟩
  · rcases h1.2 with h | ⟨g, cap, cur, hv, hg, hh, hrest⟩
    · exact Or.inl h
    · exact Or.inr ⟨g, cap, cur, hv, hg, (ho g (by rw [hv]; rfl)).trans hh, hrest⟩
  · obtain ⟨c0, c1, c2, c3, c4, e0, e1, e2, e3, e4, hv⟩ := h2 j x hx
    exact ⟨c0, c1, c2, c3, c4, e0, e1, e2, e3, e4, hv.same hs⟩

/-- The row, where it lies. -/
theorem VTo.at {d N : Nat} {S : Nat → Prop} {w : World} {lv : Value} {xs : List (Tr d)} {vs : List Value} (h : VTo S N w lv xs vs) (hl : xs.length < 3518437208883) : RowAt (fun b => S b ∨ (N ≤ b ∧ b < w.heap.size)) w (ValAt (fun b => S b ∨ (N ≤ b ∧ b < w.heap.size)) w d) lv xs := by
  obtain ⟨h1, h2⟩ := h
  refine ⟨hl, ?_⟩
  rcases h1.2 with ⟨rfl, h0⟩ | ⟨g, cap, cur, rfl, hg, hh, hnc, _, hcs, htake⟩
  · exact ⟨none, 0, by rw [h0], Or.inl (List.eq_nil_of_length_eq_zero h0)⟩
  · refine ⟨some ⟨g, 0, none⟩, cap, rfl, Or.inr ⟨g, 0, Or.inr ⟨hg, (Array.getElem?_eq_some_iff.1 hh).1⟩, rfl, fun i x hx => ?_⟩⟩
    obtain ⟨c0, c1, c2, c3, c4, e0, e1, e2, e3, e4, hv⟩ := h2 i x hx
    have hi := (List.getElem?_eq_some_iff.1 hx).1
    have hc : ∀ j c, j < xs.length * 5 → vs[j]? = some c → w.cell? ⟨g, 0 + j, none⟩ = some c := fun j c hj hc => by
      rw [Nat.zero_add]
      exact (h1.cellAt j hj).trans hc
    refine ⟨c0, c1, c2, c3, c4, hc _ _ (by omega) e0, hc _ _ (by omega) e1, hc _ _ (by omega) e2, hc _ _ (by omega) e3, hc _ _ (by omega) e4, hv.mono (fun b hb => Or.inl hb)⟩

/-- Another tree at a place. -/
theorem VTo.put {d N g n cap k : Nat} {S : Nat → Prop} {w : World} {xs : List (Tr d)} {vs : List Value} {x : Tr d} {v0 v1 v2 v3 v4 : Value} (h : VTo S N w (.slice (some ⟨g, 0, none⟩) n cap) xs vs) (hn : n = xs.length) (hk : k < xs.length) (hx : ValAt S w d x (.agg #[v0, v1, v2, v3, v4])) (hS : ∀ b, S b → b < N) :
    (∃ vs', VTo S N (set5 w g (k * 5) v0 v1 v2 v3 v4) (.slice (some ⟨g, 0, none⟩) n cap) (xs.set k x) vs') ∧ Below N w (set5 w g (k * 5) v0 v1 v2 v3 v4) := by
  subst hn
  obtain ⟨h1, h2⟩ := h
  have hlen : vs.length = xs.length * 5 := h1.1
  have hgN := (h1.lt g rfl).1
  have hB : Below N w (set5 w g (k * 5) v0 v1 v2 v3 v4) := below_set5 (Below.refl _ _) hgN _ _ _ _ _ _
  have hsame : Same S w (set5 w g (k * 5) v0 v1 v2 v3 v4) := fun b hb => hB.block b (hS b hb)
  have ho := (((((h1.stored (k * 5) v0).1.stored (k * 5 + 1) v1).1.stored (k * 5 + 2) v2).1.stored (k * 5 + 3) v3).1.stored (k * 5 + 4) v4).1
  refine ⟨⟨_, by rw [List.length_set]; exact ho, fun j y hy => ?_⟩, hB⟩
  by_cases e : k = j
  · subst e
    rw [List.getElem?_set_self hk] at hy
    cases hy
    refine ⟨v0, v1, v2, v3, v4, ?_, ?_, ?_, ?_, ?_, hx.same hsame⟩
    all_goals simp [List.getElem?_set, hlen]
    all_goals omega
  · rw [List.getElem?_set_ne e] at hy
    obtain ⟨c0, c1, c2, c3, c4, e0, e1, e2, e3, e4, hv⟩ := h2 j y hy
    refine ⟨c0, c1, c2, c3, c4, ?_, ?_, ?_, ?_, ?_, hv.same hsame⟩
    · rw [List.getElem?_set_ne (by omega), List.getElem?_set_ne (by omega), List.getElem?_set_ne (by omega), List.getElem?_set_ne (by omega), List.getElem?_set_ne (by omega)]; exact e0
    · rw [List.getElem?_set_ne (by omega), List.getElem?_set_ne (by omega), List.getElem?_set_ne (by omega), List.getElem?_set_ne (by omega), List.getElem?_set_ne (by omega)]; exact e1
    · rw [List.getElem?_set_ne (by omega), List.getElem?_set_ne (by omega), List.getElem?_set_ne (by omega), List.getElem?_set_ne (by omega), List.getElem?_set_ne (by omega)]; exact e2
    · rw [List.getElem?_set_ne (by omega), List.getElem?_set_ne (by omega), List.getElem?_set_ne (by omega), List.getElem?_set_ne (by omega), List.getElem?_set_ne (by omega)]; exact e3
    · rw [List.getElem?_set_ne (by omega), List.getElem?_set_ne (by omega), List.getElem?_set_ne (by omega), List.getElem?_set_ne (by omega), List.getElem?_set_ne (by omega)]; exact e4
/-- What was told is put into the result's own cells. -/
theorem tell_endA {d : Nat} {t : Tr (d + 1)} {w w1 w2 : World} {v0 v1 : Int} {v2 : ByteArray} {v3 v6 : Option Addr} {v4 v5 v7 v8 rb : Nat} (hv : ValAt (Fresh w1 w2) w2 (d + 1) t (.agg #[.int .i64 v0, .int .i64 v1, .string v2, .slice v3 v4 v5, .slice v6 v7 v8])) (hb : Below w.heap.size w w2)
    (hr : w.heap.size ≤ rb) (hr1 : rb < w1.heap.size) :
    ∀ wF, wF = set5 w2 rb 0 (.int .i64 v0) (.int .i64 v1) (.string v2) (.slice v3 v4 v5) (.slice v6 v7 v8) → ValAt (Fresh w wF) wF (d + 1) t (.agg #[.int .i64 v0, .int .i64 v1, .string v2, .slice v3 v4 v5, .slice v6 v7 v8]) ∧ Below w.heap.size w wF := by
  intro wF hF
  have hzF : wF.heap.size = w2.heap.size := by rw [hF, set5_size]
  refine ⟨ValAt.moved (fun b hb => ?_) (fun b hb => ⟨by have := hb.1; omega, by have := hb.2; omega⟩) (d + 1) t _ hv, ?_⟩
  · rw [hF, set5_block _ _ _ _ _ _ _ _ _ (by have := hb.1; omega)]
  · rw [hF]
    exact below_set5 hb hr _ _ _ _ _ _

end Go.Proofs.YtoangpfmjohhmaaGreatDoor

/- Rows of trees: what is told of the trees of a row. -/
namespace Go.Proofs.YtoangpfmjohhmaaGreatDoor
open Go.RowKit Go.Deep

/-- What is told of a row, f being what is told of its trees. -/
def rowTell {d e : Nat} (f : List (Tr d) → Option (Tr (e + 1))) (t : Tr (d + 1)) : Tr (e + 1) × Bool :=
  match treesL d t with
  | none => (zeroT e, false)
  | some xs =>
    match f xs with
    | none => (zeroT e, false)
    | some x => (toldT e x, okT (e + 1) x)
theorem okT_rowTell {d e : Nat} (f : List (Tr d) → Option (Tr (e + 1))) (t : Tr (d + 1)) : okT (e + 1) (rowTell f t).1 = true := by
  unfold rowTell
  split
  · exact okT_zero _
  · split
    · exact okT_zero _
    · exact okT_told _ _
theorem rowTell_none {d e : Nat} {f : List (Tr d) → Option (Tr (e + 1))} {t : Tr (d + 1)} (h : treesL d t = none) : rowTell f t = (zeroT e, false) := by
  unfold rowTell
  rw [h]
theorem rowTell_fault {d e : Nat} {f : List (Tr d) → Option (Tr (e + 1))} {t : Tr (d + 1)} {xs : List (Tr d)} (h : treesL d t = some xs) (hf : f xs = none) : rowTell f t = (zeroT e, false) := by
  unfold rowTell
  rw [h]
  show (match f xs with | none => _ | some x => _) = _
  rw [hf]
theorem rowTell_some {d e : Nat} {f : List (Tr d) → Option (Tr (e + 1))} {t : Tr (d + 1)} {xs : List (Tr d)} {x : Tr (e + 1)} (h : treesL d t = some xs) (hf : f xs = some x) : rowTell f t = (toldT e x, okT (e + 1) x) := by
  unfold rowTell
  rw [h]
  show (match f xs with | none => _ | some x => _) = _
  rw [hf]
/-- Rows of trees that are ok are small. -/
theorem nodes_row {d : Nat} {xs : List (Tr d)} (hxs : ∀ x ∈ xs, okT d x = true) (hl : xs.length ≤ 10000) : (nodes (d + 1) (rowT d xs) : Int) ≤ 4194304 := by
  have h1 : (xs.map (nodes d)).sum ≤ 300 * xs.length := sum_le_of (fun x hx => nodes_ok (hxs x hx))
  have h2 : nodes (d + 1) (rowT d xs) = 1 + (xs.map (nodes d)).sum := rfl
  rw [h2]
  omega
/-- What a function that tells of the trees of a row is asked to give. -/
def TellF (e N : Nat) (r : Option (Tr (e + 1))) (w : World) (en : Ending) (w' : World) : Prop :=
  Below N w w' ∧ ((∃ x u, r = some x ∧ en = .returned (.tuple #[u, .nilIface]) ∧ TreeG (fun b => N ≤ b ∧ b < w'.heap.size) w' (e + 1) x u) ∨ (r = none ∧ ∃ why, en = .returned (.tuple #[.nilIface, faultV why])))

end Go.Proofs.YtoangpfmjohhmaaGreatDoor

/- All trees of a row together: plain facts. -/
namespace Go.Proofs.YtoangpfmjohhmaaGreatDoor
open Go.RowKit Go.Deep

/-- Trees added to what there is, one by one. -/
def sumS {d : Nat} : List (Tr (d + 1)) → Tr (d + 1) → Option (Tr (d + 1))
  | [], acc => some acc
  | x :: r, acc => if (partAddT d acc x).2 = true then sumS r (partAddT d acc x).1 else none
def sumF (d : Nat) (xs : List (Tr (d + 1))) : Option (Tr (d + 1)) := sumS xs (zeroT d)
theorem sumS_step {d : Nat} {xs : List (Tr (d + 1))} {k : Nat} {x : Tr (d + 1)} (h : xs[k]? = some x) (acc : Tr (d + 1)) : sumS (xs.drop k) acc = if (partAddT d acc x).2 = true then sumS (xs.drop (k + 1)) (partAddT d acc x).1 else none := by
  obtain ⟨hk, e⟩ := List.getElem?_eq_some_iff.1 h
  rw [List.drop_eq_getElem_cons hk, e, sumS]
end Go.Proofs.YtoangpfmjohhmaaGreatDoor

/- l1Copy of the model: the copy's list owns its cells, and may be appended to. -/
namespace Go.Proofs.YtoangpfmjohhmaaGreatDoor
open Go.RowKit Go.Deep

/-- A copy whose topmost list owns its cells. -/
def CopyO (d : Nat) (t : Tr (d + 1)) (w : World) (e : Ending) (w' : World) : Prop :=
  ∃ vk lv N vs, e = .returned (.agg #[.int .i64 (Nd.kind t), .int .i64 (Nd.num t), .string (Nd.str t), vk, lv]) ∧ StrsAt (Fresh w w') w' vk (Nd.keys t) ∧ VTo (fun b => w.heap.size ≤ b ∧ b < w'.heap.size ∧ some b ≠ lv.ownBlock) N w' lv (Nd.list t) vs ∧ w.heap.size ≤ N ∧ N ≤ w'.heap.size ∧ Below w.heap.size w w'

theorem CopyTo.final_own {d b : Nat} {w wc wr : World} {t : Nd (Tr d)} {c3 c4 vk lv : Value} {vs : List Value} {P : Nat → Nat → Prop} (h : CopyTo wc wr t b vk lv t.list.length vs P) (hc : CopyAt w wc t c3 c4 b vk) :
    ∀ wF, wF = set5 wr (w.heap.size + 1) 0 (.int .i64 t.kind) (.int .i64 t.num) (.string t.str) vk lv → StrsAt (Fresh w wF) wF vk t.keys ∧ VTo (fun b => w.heap.size ≤ b ∧ b < wF.heap.size ∧ some b ≠ lv.ownBlock) wc.heap.size wF lv t.list vs ∧ w.heap.size ≤ wc.heap.size ∧ wc.heap.size ≤ wF.heap.size ∧ Below w.heap.size w wF := by
  intro wF hF
  have hbu := h.but
  have hbw := hc.below
  have hab := hc.above
  have hws := hc.res.lt
  have hrb : Below w.heap.size w wr := ⟨hbu.os.trans hbw.os, hbu.tape.trans hbw.tape, hbu.output.trans hbw.output, Nat.le_trans hbw.size hbu.size, fun j hj => (hbu.block j (Nat.lt_of_lt_of_le hj hbw.size) (fun e => by cases e; omega)).trans (hbw.block j hj)⟩
  have hzF : wF.heap.size = wr.heap.size := by rw [hF, set5_size]
  have hsz : wc.heap.size ≤ wr.heap.size := hbu.size
  have hsm : ∀ R : Nat → Prop, (∀ b, R b → w.heap.size + 1 < b) → Same R wr wF := fun R hR b hb => by
    rw [hF, set5_block _ _ _ _ _ _ _ _ _ (by have := hR b hb; omega)]
  have hkey : Same (fun x => w.heap.size + 1 < x ∧ x < wc.heap.size ∧ x ≠ b) wc wF := fun c hc => by
    rw [hsm (fun x => w.heap.size + 1 < x) (fun _ h => h) c hc.1]
    exact hbu.block c hc.2.1 (fun e => by cases e; exact hc.2.2 rfl)
  have hg : ∀ g, lv.ownBlock = some g → wc.heap.size ≤ g ∧ g < wr.heap.size := fun g hg => h.vals.own.lt g hg
  refine ⟨(hc.keys.at.moved hkey (fun _ h => h)).mono (fun b hb => ⟨by have := hb.1; omega, by rw [hzF]; have := hb.2.1; omega⟩), ⟨⟨h.vals.own.1, ?_⟩, fun j x hx => ?_⟩, hbw.size, by rw [hzF]; exact hsz, ?_⟩
  · rcases h.vals.own.2 with h0 | ⟨g, cap, cur, hv, hg, hh, hrest⟩
    · exact Or.inl h0
    · refine Or.inr ⟨g, cap, cur, hv, hg, ?_, hrest⟩
      rw [hsm (fun x => w.heap.size + 1 < x) (fun _ h => h) g (by omega)]
      exact hh
  · have hj := (List.getElem?_eq_some_iff.1 hx).1
    obtain ⟨c0, c1, c2, c3, c4, e0, e1, e2, e3, e4, hv⟩ := h.vals.val j x hj hx
    refine ⟨c0, c1, c2, c3, c4, e0, e1, e2, e3, e4, (ValOwn.at d _ x _ hv).moved (hsm _ (fun b hb => by have := (h.vals.lo j b hj hb).1; omega)) (fun b hb => ?_)⟩
    have := h.vals.lo j b hj hb
    exact ⟨by omega, by rw [hzF]; exact this.2.1, this.2.2⟩
  · rw [hF]
    exact below_set5 hrb (by omega) _ _ _ _ _ _

set_option maxRecDepth 100000 in
set_option maxHeartbeats 1000000 in
theorem l1Copy_own (d : Nat) (S : Nat → Prop) (t : Tr (d + 1)) (v : Value) (w : World) (hv : ValAt S w (d + 1) t v) (hS : Within S w) (hwt : (wtT (d + 1) t : Int) ≤ 4194304) :
    Calls Tryz.prog 38 #[v] w (CopyO d t w) := by
    have ih := l1Copy_any d
    obtain ⟨kind, num, str, keys, list⟩ := t
    obtain ⟨vk, vl, rfl, i1, i2, i3, hk, hl⟩ := hv
    have hk : StrsAt S w vk keys := hk
    have hl : RowAt S w (ValAt S w d) vl list := hl
    obtain ⟨ak, ck, rfl, hkl⟩ := hk.open'
    obtain ⟨al, cl, rfl, hll⟩ := hl.open'
    have hwt2 : ((3 + keys.length + (list.map (wtT d)).sum : Nat) : Int) ≤ 4194304 := hwt
    have hksm : keys.length ≤ 4194304 := by omega
    have hlsm : list.length ≤ 4194304 := by have := row_wt hl; omega
    clear hwt
    show Calls Tryz.prog 38 #[.agg #[.int .i64 kind, .int .i64 num, .string str, .slice ak keys.length ck, .slice al list.length cl]] w _
    go_enter Tryz.func38, Tryz.ntmps38
    go_upto_region 1 with fail
    go_cut [3] (fun ov wc => ∃ b vk, ov = .pointer (some ⟨b, 0, none⟩) ∧ Hid (CopyAt w wc (Nd.mk kind num str keys list) (.slice ak keys.length ck) (.slice al list.length cl) b vk))
    case first =>
      have n1 : w.heap.size < w.heap.size + 1 + 1 + 1 := by omega
      have n2 : w.heap.size < w.heap.size + 1 + 1 + 1 + 1 := by omega
      have n3 : w.heap.size + 1 + 1 < w.heap.size + 1 + 1 + 1 + 1 := by omega
      have m1 : ¬ w.heap.size = w.heap.size + 1 + 1 := by omega
      have m2 : ¬ w.heap.size = w.heap.size + 1 + 1 + 1 := by omega
      have m3 : ¬ w.heap.size + 1 + 1 = w.heap.size + 1 + 1 + 1 := by omega
      have m4 : ¬ w.heap.size + 1 + 1 + 1 = w.heap.size + 1 + 1 := by omega
      have m5 : ¬ w.heap.size + 1 + 1 + 1 = w.heap.size := by omega
      have m6 : ¬ w.heap.size + 1 + 1 = w.heap.size := by omega
      go_region_held3 (fun w' => w'.cell? ⟨w.heap.size, 0, none⟩ = some (.int .i64 kind) ∧ w'.cell? ⟨w.heap.size, 1, none⟩ = some (.int .i64 num) ∧ w'.cell? ⟨w.heap.size, 2, none⟩ = some (.string str) ∧ w'.cell? ⟨w.heap.size, 3, none⟩ = some (.slice ak keys.length ck) ∧ w'.cell? ⟨w.heap.size, 4, none⟩ = some (.slice al list.length cl)) (go_keep)
        ((refine step_append_run _ (by rfl) _ _ 23 (by rfl) _ _ (by rfl) (by rfl) (run_append_strs S keys ak ck _ _ _ (by first | exact nb1 _ _ _ _ | exact nb2 _ _ _ _ _ | exact nb3 _ _ _ _ _) (by first | exact hk.same (hS.same (bl3 _ _ _ _)) | exact hk.same (hS.same (bl4 _ _ _ _ _))) hksm) ?_; rintro v' w' ⟨hown, hgr⟩; obtain ⟨ka, kc, rfl, hkn⟩ := hown.open'; have hcell := fun (b o : Nat) (h1 : b < _) (h2 : some b ≠ _) => hgr.cell_far ⟨b, o, none⟩ h1 h2; have hfro := fun (b o : Nat) (h1 : b < _) (h2 : some b ≠ _) => hgr.frozen_far ⟨b, o, none⟩ h1 h2; have hnew : ¬ w'.heap.size = w.heap.size := fun e => by have h5 := hgr.size; simp at h5; omega))
      all_goals go_wp2_with fail
      all_goals go_meet
      · have hc := copy_a (t := (Nd.mk kind num str keys list : Nd (Tr d))) (c3 := .slice ak keys.length ck) (c4 := .slice al list.length cl) (vk := .slice ka keys.length kc) (G := w.heap.size + 1 + 1) (bl3 w (.cells #[.int .i64 kind, .int .i64 num, .string str, .slice ak keys.length ck, .slice al list.length cl] 26) (.cells #[.int .i64 0, .int .i64 0, .string { data := #[] }, .slice none 0 0, .slice none 0 0] 26) (.cells #[] 9)) (kA3 w (.cells #[.int .i64 kind, .int .i64 num, .string str, .slice ak keys.length ck, .slice al list.length cl] 26) (.cells #[.int .i64 0, .int .i64 0, .string { data := #[] }, .slice none 0 0, .slice none 0 0] 26) (.cells #[] 9)) (kB3 w (.cells #[.int .i64 kind, .int .i64 num, .string str, .slice ak keys.length ck, .slice al list.length cl] 26) (.cells #[.int .i64 0, .int .i64 0, .string { data := #[] }, .slice none 0 0, .slice none 0 0] 26) (.cells #[] 9)) (by omega) hgr hown
        exact ⟨w'.heap.size, .slice ka keys.length kc, rfl, hc⟩
      · have hc := copy_b (t := (Nd.mk kind num str keys list : Nd (Tr d))) (c3 := .slice ak keys.length ck) (c4 := .slice al list.length cl) (vk := .slice ka keys.length kc) (G := w.heap.size + 1 + 1) (V := w.heap.size + 1 + 1 + 1) (bl4 w (.cells #[.int .i64 kind, .int .i64 num, .string str, .slice ak keys.length ck, .slice al list.length cl] 26) (.cells #[.int .i64 0, .int .i64 0, .string { data := #[] }, .slice none 0 0, .slice none 0 0] 26) (.cells #[] 9) (.cells #[.int .i64 0, .int .i64 0, .string { data := #[] }, .slice none 0 0, .slice none 0 0] 26)) (kA4 w (.cells #[.int .i64 kind, .int .i64 num, .string str, .slice ak keys.length ck, .slice al list.length cl] 26) (.cells #[.int .i64 0, .int .i64 0, .string { data := #[] }, .slice none 0 0, .slice none 0 0] 26) (.cells #[] 9) (.cells #[.int .i64 0, .int .i64 0, .string { data := #[] }, .slice none 0 0, .slice none 0 0] 26)) (kB4 w (.cells #[.int .i64 kind, .int .i64 num, .string str, .slice ak keys.length ck, .slice al list.length cl] 26) (.cells #[.int .i64 0, .int .i64 0, .string { data := #[] }, .slice none 0 0, .slice none 0 0] 26) (.cells #[] 9) (.cells #[.int .i64 0, .int .i64 0, .string { data := #[] }, .slice none 0 0, .slice none 0 0] 26)) (nb3 w (.cells #[.int .i64 kind, .int .i64 num, .string str, .slice ak keys.length ck, .slice al list.length cl] 26) (.cells #[.int .i64 0, .int .i64 0, .string { data := #[] }, .slice none 0 0, .slice none 0 0] 26) (.cells #[] 9) (.cells #[.int .i64 0, .int .i64 0, .string { data := #[] }, .slice none 0 0, .slice none 0 0] 26)) (by omega) (by omega) (by omega) hgr hown
        exact ⟨w.heap.size + 1 + 1 + 1, .slice ka keys.length kc, rfl, hc⟩
      · have hc := copy_b (t := (Nd.mk kind num str keys list : Nd (Tr d))) (c3 := .slice ak keys.length ck) (c4 := .slice al list.length cl) (vk := .slice ka keys.length kc) (G := w.heap.size + 1 + 1 + 1) (V := w.heap.size + 1 + 1) (bl4 w (.cells #[.int .i64 kind, .int .i64 num, .string str, .slice ak keys.length ck, .slice al list.length cl] 26) (.cells #[.int .i64 0, .int .i64 0, .string { data := #[] }, .slice none 0 0, .slice none 0 0] 26) (.cells #[.int .i64 0, .int .i64 0, .string { data := #[] }, .slice none 0 0, .slice none 0 0] 26) (.cells #[] 9)) (kA4 w (.cells #[.int .i64 kind, .int .i64 num, .string str, .slice ak keys.length ck, .slice al list.length cl] 26) (.cells #[.int .i64 0, .int .i64 0, .string { data := #[] }, .slice none 0 0, .slice none 0 0] 26) (.cells #[.int .i64 0, .int .i64 0, .string { data := #[] }, .slice none 0 0, .slice none 0 0] 26) (.cells #[] 9)) (kB4 w (.cells #[.int .i64 kind, .int .i64 num, .string str, .slice ak keys.length ck, .slice al list.length cl] 26) (.cells #[.int .i64 0, .int .i64 0, .string { data := #[] }, .slice none 0 0, .slice none 0 0] 26) (.cells #[.int .i64 0, .int .i64 0, .string { data := #[] }, .slice none 0 0, .slice none 0 0] 26) (.cells #[] 9)) (nb2 w (.cells #[.int .i64 kind, .int .i64 num, .string str, .slice ak keys.length ck, .slice al list.length cl] 26) (.cells #[.int .i64 0, .int .i64 0, .string { data := #[] }, .slice none 0 0, .slice none 0 0] 26) (.cells #[.int .i64 0, .int .i64 0, .string { data := #[] }, .slice none 0 0, .slice none 0 0] 26) (.cells #[] 9)) (by omega) (by omega) (by omega) hgr hown
        exact ⟨w.heap.size + 1 + 1, .slice ka keys.length kc, rfl, hc⟩
    case rest =>
      obtain ⟨b, vk, rfl, hca⟩ := hcut
      have hbw := hca.out.below
      have hab := hca.out.above
      have hTO : Hid (CopyTo (d := d) wc wc (Nd.mk kind num str keys list) b vk (.slice none 0 0) 0 [] (fun _ _ => False)) := ⟨hca.out.out, ValsTo.start _ _ _, But.refl _ _⟩
      obtain ⟨ka, kc, rfl, hkn⟩ := hca.out.keys.open'
      go_wp2_with fail
      go_loopw [4] (fun i wr => ∃ (k : Nat) (lv : Value) (vs : List Value) (P : Nat → Nat → Prop), k ≤ list.length ∧ i = .int .i64 (k : Int) ∧ Hid (CopyTo (d := d) wc wr (Nd.mk kind num str keys list) b (.slice ka keys.length kc) lv k vs P)) (fun i _ => list.length - (intOf i).toNat)
      case atStart => exact ⟨0, _, [], _, Nat.zero_le _, rfl, hTO⟩
      case round =>
        clear hTO
        obtain ⟨k, lv, vs, P, hkk, rfl, hto⟩ := hrel
        have hbu := hto.out.but
        have hrb : Below w.heap.size w wr := ⟨hbu.os.trans hbw.os, hbu.tape.trans hbw.tape, hbu.output.trans hbw.output, Nat.le_trans hbw.size hbu.size, fun j hj => (hbu.block j (Nat.lt_of_lt_of_le hj hbw.size) (fun e => by cases e; omega)).trans (hbw.block j hj)⟩
        have kbox := hca.out.box.of_block (hbu.block _ hca.out.box.lt (fun e => by cases e; omega))
        obtain ⟨x0, x1, x2, x3, x4⟩ := kbox.cell
        by_cases hkl : k < list.length
        · obtain ⟨eb, eo, x, c0, c1, c2, c3, c4, rfl, heS, hx, e0, e1, e2, e3, e4, hval⟩ := (hl.same (hS.same hrb)).cell hkl
          obtain ⟨q0, q1, q2, q3, q4, q5, q6, q7, q8, hq⟩ := hval.shape
          cases hq
          have hwx : (wtT d x : Int) ≤ 4194304 := by
            have := wt_mem (d := d) hx
            omega
          obtain ⟨la, ln, lc, rfl⟩ := row_slice hto.out.vals.own
          obtain ⟨y0, y1, y2, y3, y4⟩ := hto.out.out.cell
          have yf := hto.out.out.frozen 4
          have hki : (k : Int) < (list.length : Int) := by omega
          have hbl := hto.out.out.lt
          have hWr := hS.later hrb.size
          have HX := hide hx
          have hNs : wc.heap.size ≤ wr.heap.size := hbu.size
          have hebl := hS eb heS
          clear hx
          have hcall := hide (ih S x _ wr.drew (hval.same (fun _ _ => rfl)) hWr hwx)
          have hnb : ∀ g, (Value.slice la ln lc).ownBlock = some g → wc.heap.size ≤ g := fun g hg => (hto.out.vals.own.lt g hg).1
          have hbc : b < wc.heap.size := hca.out.out.lt
          obtain ⟨i0, hi, hz0, hz1, hz2⟩ := info_parts Tryz.infoVal
          have HB1 := hide hto.out.vals
          go_wp2_with fail
          go_region_law (first
            | (refine step_call_run _ 38 _ (by rfl) (by go_simp) hcall.out ?_; rintro u w1 ⟨hu, hb1⟩; obtain ⟨u0', u1', u2', u3', u4', u5', u6', u7', u8', rfl⟩ := (ValOwn.at d _ _ _ hu).shape; have hblt : b < w1.heap.size := Nat.lt_of_lt_of_le hbl hb1.size; have yb1 : Blk5 w1 b 26 (.int .i64 kind) (.int .i64 num) (.string str) (.slice ka keys.length kc) (.slice la ln lc) := hto.out.out.of_block (hb1.block b hbl); obtain ⟨_, _, _, _, z4⟩ := yb1.cell; have z4' := fun o => ((yb1.alloc o).cell).2.2.2.2; have hown1 := hide ((hto.out.vals.own.kept (row := none) ⟨hb1.os, hb1.tape, hb1.output, hb1.size, fun i hi _ => hb1.block i hi⟩ (by cases (Value.slice la ln lc).ownBlock <;> simp)).alloc (.cells #[.int .i64 u0', .int .i64 u1', .string u2', .slice u3' u4' u5', .slice u6' u7' u8'] 26)))
            | (refine step_append_run _ (by rfl) _ _ 24 (by rfl) _ _ (by rfl) (by rfl) (run_append_own_at (P := Tryz.prog) _ wc.heap.size 24 _ 26 i0 zeroVal 5 80 Tryz.underlying24 hi hz0 hz1 hz2 rfl (by decide) _ _ _ hown1.out ⟨w1.heap.size, 0, none⟩ 1 1 [.int .i64 u0', .int .i64 u1', .string u2', .slice u3' u4' u5', .slice u6' u7' u8'] rfl (cell_five_new _ _ _ _ _ _ _) (by intro y hy; simp at hy; rcases hy with rfl | rfl | rfl | rfl | rfl <;> rfl) (by unfold maxLen; omega) (by omega) (by rw [World.size_alloc]; have h5 : wr.heap.size ≤ w1.heap.size := hb1.size; omega)) ?_; rintro v' w2 ⟨o1, o2, _, o3⟩; obtain ⟨va, vn, vc, rfl⟩ := row_slice o1; have yb2 : Blk5 w2 b 26 (.int .i64 kind) (.int .i64 num) (.string str) (.slice ka keys.length kc) (.slice la ln lc) := (yb1.alloc _).of_block (o2.block b (by rw [World.size_alloc]; omega) (fun e => by have := hnb b e.symm; omega)); obtain ⟨_, _, _, _, v4⟩ := yb2.cell; have v4f := yb2.frozen 4))
          all_goals
            have hb1' : Below wr.heap.size wr w1 := ⟨hb1.os, hb1.tape, hb1.output, hb1.size, hb1.block⟩
            have HH := hide (hto.out.step (w1 := w1) (w2 := w2) hb1' HX.out hu o1 o2 o3 hbc yb2)
            clear o1 o2 o3 hown1 hu hb1' hb1 yb1 yb2 z4 z4' hcall HB1 hto
            go_wp2_with fail
            go_roundw
            case rel =>
              obtain ⟨P', hP'⟩ := HH.out
              exact ⟨k + 1, _, _, P', by omega, by go_num, hP'⟩
            case measure => simp [intOf]; omega
        · obtain rfl : k = list.length := by omega
          have kres := hca.out.res.of_block (hbu.block _ hca.out.res.lt (fun e => by cases e; omega))
          obtain ⟨la, ln, lc, rfl⟩ := row_slice hto.out.vals.own
          obtain ⟨z0, z1, z2, z3, z4⟩ := kres.cell
          have zf := kres.frozen
          obtain ⟨y0, y1, y2, y3, y4⟩ := hto.out.out.cell
          have hend := hide (hto.out.final_own hca.out)
          clear hto hca kres kbox hl hk ih
          go_wp2_with fail
          refine bodyPost_ret (v := .agg #[.int .i64 kind, .int .i64 num, .string str, .slice ka keys.length kc, .slice la ln lc]) (by simp [results, Tryz.results38, go_sem, z0, z1, z2, z3, z4]) rfl ⟨_, _, _, _, rfl, hend.out _ rfl⟩
end Go.Proofs.YtoangpfmjohhmaaGreatDoor

/- l2Told of the model: a tree in new memory, if it is right. -/
namespace Go.Proofs.YtoangpfmjohhmaaGreatDoor
open Go.RowKit Go.Deep

set_option maxRecDepth 100000 in
set_option maxHeartbeats 4000000 in
theorem l2Told_any (d : Nat) (S : Nat → Prop) (t : Tr (d + 1)) (v : Value) (w : World) (hv : ValAt S w (d + 1) t v) (hS : Within S w) (hsm : (nodes (d + 1) t : Int) ≤ 4194304) :
    Calls Tryz.prog 40 #[v] w (SpecQ d (toldT d t) (okT (d + 1) t) w) := by
  have hv0 := hv
  obtain ⟨k, n, s, ak, lk, ck, al, ll, cl, rfl⟩ := hv.shape
  obtain ⟨W0, hW⟩ : ∃ W0, W0 = (w.alloc (.cells #[.int .i64 k, .int .i64 n, .string s, .slice ak lk ck, .slice al ll cl] 26)).alloc (.cells #[.int .i64 0, .int .i64 0, .string { data := #[] }, .slice none 0 0, .slice none 0 0] 26) := ⟨_, rfl⟩
  have hW0 : Below w.heap.size w W0 := by rw [hW]; exact below_trans (below_alloc1 _ _) (below_alloc1 _ _)
  have k0 : Blk5 W0 w.heap.size 26 (.int .i64 k) (.int .i64 n) (.string s) (.slice ak lk ck) (.slice al ll cl) := by
    rw [hW]; exact (Blk5.new w 26 _ _ _ _ _).alloc _
  have k1 : Blk5 W0 (w.heap.size + 1) 26 (.int .i64 0) (.int .i64 0) (.string { data := #[] }) (.slice none 0 0) (.slice none 0 0) := by
    have := Blk5.new (w.alloc (.cells #[.int .i64 k, .int .i64 n, .string s, .slice ak lk ck, .slice al ll cl] 26)) 26 (.int .i64 0) (.int .i64 0) (.string { data := #[] }) (.slice none 0 0) (.slice none 0 0)
    rw [World.size_alloc] at this
    rw [hW]
    exact this
  have HW := hide hW
  clear hW hv
  go_enter Tryz.func40, Tryz.ntmps40
  go_wp2_with fail
  rw [← HW.out]
  clear HW
  refine (specValOk_any (d + 1) S t _ W0 (hv0.same (hS.same hW0)) (hS.later hW0.size) hsm).mono ?_
  rintro e w1 ⟨rfl, hb1⟩
  replace k0 := k0.below hb1
  replace k1 := k1.below hb1
  have hB1 := below_trans hW0 hb1
  obtain ⟨x0, x1, x2, x3, x4⟩ := k0.cell
  have hlt := k1.lt
  clear hb1 hW0
  cases hf : okT (d + 1) t with
  | false =>
    have hz : Hid (toldT d t = zeroT d) := by
      show toldT d t = _
      rw [toldT, hf]
      rfl
    have hno : Hid (∀ wF, wF = set5 w1 (w.heap.size + 1) 0 (.int .i64 0) (.int .i64 0) (.string { data := #[] }) (.slice none 0 0) (.slice none 0 0) → Below w.heap.size w wF) := by
      intro wF hF
      rw [hF]
      exact below_set5 hB1 (by omega) _ _ _ _ _ _
    obtain ⟨y0, y1, y2, y3, y4⟩ := k1.cell
    have yf := k1.frozen
    clear k0 k1 hB1 hv0
    go_wp2_with fail
    rw [hz.out, hf]
    refine bodyPost_ret (v := .tuple #[zeroVal, .bool false]) (by simp [results, Tryz.results40, go_sem, zeroVal, y0, y1, y2, y3, y4]; rfl) rfl ⟨_, rfl, zeroAt d _ _, hno.out _ rfl⟩
  | true =>
    have hz : Hid (toldT d t = t) := by
      show toldT d t = _
      rw [toldT, hf]
      rfl
    have hwt := wtT_ok hf
    go_wp2_with fail
    refine (l1Copy_any (d + 1) S t _ w1 (hv0.same (hS.same hB1)) (hS.later hB1.size) (by omega)).mono ?_
    rintro e w3 ⟨u, rfl, hu3, hb3⟩
    obtain ⟨u0, u1, u2, u3, u4, u5, u6, u7, u8, rfl⟩ := (ValOwn.at _ _ _ _ hu3).shape
    have HF := hide (tell_end hu3 (below_trans hB1 hb3) (by omega) hlt)
    have k3 := k1.below hb3
    clear hu3 hb3 k1 k0 hv0 x0 x1 x2 x3 x4
    obtain ⟨y0, y1, y2, y3, y4⟩ := k3.cell
    have yf := k3.frozen
    clear k3
    go_wp2_with fail
    rw [hz.out, hf]
    refine bodyPost_ret (v := .tuple #[.agg #[.int .i64 u0, .int .i64 u1, .string u2, .slice u3 u4 u5, .slice u6 u7 u8], .bool true]) (by simp [results, Tryz.results40, go_sem, y0, y1, y2, y3, y4]) rfl ⟨_, rfl, ValOwn.at _ _ _ _ (HF.out _ rfl).1, (HF.out _ rfl).2⟩
end Go.Proofs.YtoangpfmjohhmaaGreatDoor

/- append of trees onto a row of nothing. -/
namespace Go.Proofs.YtoangpfmjohhmaaGreatDoor
open Go.RowKit Go.Deep

/-- An append, as one step of a region in its order. -/
theorem wpList_append_run {P : Program} {ops : Array Oper} {rest : List Oper} {o : Oper} {a : Act} {w : World} {Q : Exit → Act → World → Prop} (Φ : Value → World → Prop) (hgd : o.guard = none) (s x : Operand) (t : TypeId)
    (ho : o.op = .call { callee := .builtin .append, args := #[s, x], argTypes := #[t, t] }) (vs vx : Value) (hs : a.eval s = vs) (hx : a.eval x = vx)
    (hrun : ∃ v' w', (Builtin.append_ #[t, t] o.type #[vs, vx]).run P w = .ok v' w' ∧ Φ v' w') (h : ∀ v' w', Φ v' w' → wpList P ops Q rest (a.put o.dst v') w') :
    wpList P ops Q (o :: rest) a w := by
  refine wpList_plain hgd fun K hK => ?_
  obtain ⟨v', w', hr, h2⟩ := hrun
  unfold Oper.wp execOp
  simp only [ho, resolve, invoke, builtin, Sem.run_bind, Sem.run_pure, Result.andThen_ok, List.map_toArray, List.map_cons, List.map_nil, hs, hx, hr]
  exact hK _ _ (h v' w' h2)

theorem Tryz.infoV2 : (Tryz.prog.info? 26).map (fun i => (i.zero, i.size, i.bytes)) = some (some zeroVal, 5, 80) := by kernel_rfl

/-- Trees, copied behind nothing: the cells alone. -/
theorem run_append_vals {d : Nat} (S : Nat → Prop) (xs : List (Tr d)) (al : Option Addr) (cl g : Nat) (ty : TypeId) (w : World) (hg : w.heap[g]? = some (.cells #[] 26 (0, 0))) (hv : RowAt S w (ValAt S w d) (.slice al xs.length cl) xs) (hSg : ¬ S g) (hS : Within S w) (hsm : xs.length ≤ 4194304) :
    ∃ v' w', (Builtin.append_ #[24, 24] ty #[.slice (some ⟨g, 0, none⟩) 0 0, .slice al xs.length cl]).run Tryz.prog w = .ok v' w' ∧
      ((∃ vs, VTo S g w' v' xs vs) ∧ w.grownBy w' (some g) ∧ ∃ a c, v' = .slice a xs.length c) := by
  obtain ⟨i0, hi, hz0, hz1, hz2⟩ := info_parts Tryz.infoV2
  have hgl := (Array.getElem?_eq_some_iff.1 hg).1
  have hu : Tryz.prog.underlying 24 = some (.slice 26) := Tryz.underlying24
  have hown : w.ownsRow g 26 5 (.slice (some ⟨g, 0, none⟩) 0 0) 0 [] := ⟨by simp, .inr ⟨g, 0, #[], rfl, Nat.le_refl _, hg, Nat.le_refl _, Nat.zero_le _, by simp, by simp⟩⟩
  by_cases h0 : xs = []
  · subst h0
    refine ⟨.slice (some ⟨g, 0, none⟩) 0 0, w, ?_, ⟨[], hown, fun j x h => by simp at h⟩, ⟨rfl, rfl, rfl, Nat.le_refl _, fun _ _ _ => rfl⟩, _, _, rfl⟩
    cases al with
    | none => simp [Builtin.append_, run_underlying hu, sizeOf, typeInfo, hi, Builtin.lenOf, Builtin.firstCells, loadCells, loadCellsFrom, storeCells, Result.andThen, hz1]
    | some a => simp [Builtin.append_, run_underlying hu, sizeOf, typeInfo, hi, Builtin.lenOf, Builtin.firstCells, loadCells, loadCellsFrom, storeCells, Result.andThen, hz1]
  · have hpos : 0 < xs.length := List.length_pos_iff.2 h0
    obtain ⟨b, o, _, _, _, _, _, _, rfl, hbS, _⟩ := hv.cell hpos
    have hcell : ∀ i x, xs[i]? = some x → ∃ c0 c1 c2 c3 c4, w.cell? ⟨b, o + i * 5, none⟩ = some c0 ∧ w.cell? ⟨b, o + i * 5 + 1, none⟩ = some c1 ∧ w.cell? ⟨b, o + i * 5 + 2, none⟩ = some c2 ∧ w.cell? ⟨b, o + i * 5 + 3, none⟩ = some c3 ∧ w.cell? ⟨b, o + i * 5 + 4, none⟩ = some c4 ∧ ValAt S w d x (.agg #[c0, c1, c2, c3, c4]) := by
      intro i x hx
      obtain ⟨b', o', x', c0, c1, c2, c3, c4, e', _, hx', e0, e1, e2, e3, e4, hval⟩ := hv.cell (List.getElem?_eq_some_iff.1 hx).1
      cases e'
      rw [hx] at hx'
      cases hx'
      exact ⟨c0, c1, c2, c3, c4, e0, e1, e2, e3, e4, hval⟩
    obtain ⟨news, hnl, hnews⟩ : ∃ news : List Value, news.length = xs.length * 5 ∧ ∀ j, j < xs.length * 5 → ∃ u, news[j]? = some u ∧ w.cell? ⟨b, o + j, none⟩ = some u := by
      refine ⟨(List.range (xs.length * 5)).map (fun j => (w.cell? ⟨b, o + j, none⟩).getD undef), by simp, fun j hj => ?_⟩
      have hq : j / 5 < xs.length := by omega
      obtain ⟨c0, c1, c2, c3, c4, e0, e1, e2, e3, e4, _⟩ := hcell (j / 5) _ (List.getElem?_eq_getElem hq)
      have hex : ∃ u, w.cell? ⟨b, o + j, none⟩ = some u := by
        rcases (by omega : j = j / 5 * 5 ∨ j = j / 5 * 5 + 1 ∨ j = j / 5 * 5 + 2 ∨ j = j / 5 * 5 + 3 ∨ j = j / 5 * 5 + 4) with e | e | e | e | e
        · exact ⟨c0, by rw [e]; exact e0⟩
        · exact ⟨c1, by rw [e, ← Nat.add_assoc]; exact e1⟩
        · exact ⟨c2, by rw [e, ← Nat.add_assoc]; exact e2⟩
        · exact ⟨c3, by rw [e, ← Nat.add_assoc]; exact e3⟩
        · exact ⟨c4, by rw [e, ← Nat.add_assoc]; exact e4⟩
      obtain ⟨u, hu⟩ := hex
      exact ⟨u, by simp [hj, hu], hu⟩
    have hone : ∀ u ∈ news, u.oneCell' = true := by
      intro u hu
      obtain ⟨j, hj⟩ := List.getElem?_of_mem hu
      have hjl := (List.getElem?_eq_some_iff.1 hj).1
      obtain ⟨u', hu', hc⟩ := hnews j (by omega)
      rw [hj] at hu'
      cases hu'
      have hq : j / 5 < xs.length := by omega
      obtain ⟨c0, c1, c2, c3, c4, e0, e1, e2, e3, e4, hval⟩ := hcell (j / 5) _ (List.getElem?_eq_getElem hq)
      obtain ⟨q0, q1, q2, q3, q4, q5, q6, q7, q8, hq⟩ := hval.shape
      cases hq
      rcases (by omega : j = j / 5 * 5 ∨ j = j / 5 * 5 + 1 ∨ j = j / 5 * 5 + 2 ∨ j = j / 5 * 5 + 3 ∨ j = j / 5 * 5 + 4) with e | e | e | e | e
      · rw [e, e0] at hc; cases hc; rfl
      · rw [e, ← Nat.add_assoc, e1] at hc; cases hc; rfl
      · rw [e, ← Nat.add_assoc, e2] at hc; cases hc; rfl
      · rw [e, ← Nat.add_assoc, e3] at hc; cases hc; rfl
      · rw [e, ← Nat.add_assoc, e4] at hc; cases hc; rfl
    have hadd : ∀ j, (⟨b, o, none⟩ : Addr).add j = ⟨b, o + j, none⟩ := fun j => by unfold Addr.add; split <;> simp_all
    obtain ⟨v', w', hr, ho, hgr, _, hat⟩ := run_append_own_at (P := Tryz.prog) w g 24 ty 26 i0 zeroVal 5 80 hu hi hz0 hz1 hz2 rfl (by decide) _ 0 [] hown ⟨b, o, none⟩ xs.length cl news hnl
      (fun j u hj => by rw [hadd]; obtain ⟨u', h1, h2⟩ := hnews j (by have := (List.getElem?_eq_some_iff.1 hj).1; omega); rw [hj] at h1; cases h1; exact h2) hone (by unfold maxLen; omega) (by omega) (by omega)
    rw [Nat.zero_add, List.nil_append] at ho
    have hsh : ∃ a c, v' = .slice a xs.length c := by
      rcases ho.2 with ⟨_, h⟩ | ⟨g', c', cur, e, _⟩
      · omega
      · exact ⟨_, _, e⟩
    have hsame : Same S w w' := fun c hc => hgr.block c (hS c hc) (fun e => by cases e; exact hSg hc)
    refine ⟨v', w', hr, ⟨news, ho, fun j x hx => ?_⟩, hgr, hsh⟩
    obtain ⟨c0, c1, c2, c3, c4, e0, e1, e2, e3, e4, hval⟩ := hcell j x hx
    have hjl := (List.getElem?_eq_some_iff.1 hx).1
    have hn : ∀ m c, m < xs.length * 5 → w.cell? ⟨b, o + m, none⟩ = some c → news[m]? = some c := fun m c hm hc => by
      obtain ⟨u, h1, h2⟩ := hnews m hm
      rw [hc] at h2
      cases h2
      exact h1
    exact ⟨c0, c1, c2, c3, c4, hn _ _ (by omega) e0, hn _ _ (by omega) (by rw [← Nat.add_assoc]; exact e1), hn _ _ (by omega) (by rw [← Nat.add_assoc]; exact e2), hn _ _ (by omega) (by rw [← Nat.add_assoc]; exact e3), hn _ _ (by omega) (by rw [← Nat.add_assoc]; exact e4), hval.same hsame⟩
end Go.Proofs.YtoangpfmjohhmaaGreatDoor

/- Rows of the model: l4Row, l4Of. -/
namespace Go.Proofs.YtoangpfmjohhmaaGreatDoor
open Go.RowKit Go.Deep

theorem treesL_isSome {d : Nat} (t : Tr (d + 1)) : (treesL d t).isSome = (okT (d + 1) t && (Nd.kind t == 5)) := by
  unfold treesL
  cases okT (d + 1) t with
  | false => rfl
  | true =>
    rw [if_pos rfl]
    by_cases h : Nd.kind t = 5
    · rw [if_pos h]; simp [h]
    · rw [if_neg h]; simp [h]

set_option maxRecDepth 100000 in
set_option maxHeartbeats 1000000 in
theorem l4Row_any (d : Nat) (S : Nat → Prop) (t : Tr (d + 1)) (v : Value) (w : World) (hv : ValAt S w (d + 1) t v) (hS : Within S w) (hsm : (nodes (d + 1) t : Int) ≤ 4194304) :
    Calls Tryz.prog 68 #[v] w fun e w' => e = .returned (.bool (treesL d t).isSome) ∧ Below w.heap.size w w' := by
  rw [treesL_isSome]
  have hv0 := hv
  obtain ⟨vk, vl, rfl, i1, i2, i3, hk, hl⟩ := hv
  obtain ⟨ak, ck, rfl, hkl⟩ := hk.open'
  obtain ⟨al, cl, rfl, hll⟩ := hl.open'
  have hA := below_alloc1 w (.cells #[.int .i64 t.kind, .int .i64 t.num, .string t.str, .slice ak t.keys.length ck, .slice al t.list.length cl] 26)
  have k0 := Blk5.new w 26 (.int .i64 t.kind) (.int .i64 t.num) (.string t.str) (.slice ak t.keys.length ck) (.slice al t.list.length cl)
  go_enter Tryz.func68, Tryz.ntmps68
  go_wp2_with fail
  refine (specValOk_any (d + 1) S t _ _ (hv0.same (hS.same hA)) (hS.later hA.size) hsm).mono ?_
  rintro e w1 ⟨rfl, hb1⟩
  replace k0 := k0.below hb1
  have HB := hide (below_trans hA hb1)
  obtain ⟨x0, x1, x2, x3, x4⟩ := k0.cell
  clear hb1 hA hv0 hk hl k0
  cases hf : okT (d + 1) t with
  | false =>
    go_wp2_with fail
    go_ret
    exact ⟨by rw [hf]; rfl, HB.out⟩
  | true =>
    go_wp2_with fail
    go_ret
    exact ⟨by rw [hf]; rfl, HB.out⟩

/-- A row of the model's, made out of trees that lie elsewhere, as a tree. -/
theorem rowV_at {d N : Nat} {S : Nat → Prop} {w w' : World} {lv : Value} {xs : List (Tr d)} {vs : List Value} (h : VTo S N w lv xs vs) (hl : xs.length ≤ 100000) (hb : Below w.heap.size w w') (hS : Within S w) :
    ValAt (fun b => S b ∨ (N ≤ b ∧ b < w'.heap.size)) w' (d + 1) (rowT d xs) (.agg #[.int .i64 5, .int .i64 0, .string ByteArray.empty, .slice none 0 0, lv]) := by
  have hz := hb.size
  have hrow := h.at (by omega)
  have hmv : Same (fun b => S b ∨ (N ≤ b ∧ b < w.heap.size)) w w' := fun b hb' => hb.block b (by rcases hb' with h | h; exact hS b h; exact h.2)
  have hin : ∀ b, (S b ∨ (N ≤ b ∧ b < w.heap.size)) → (S b ∨ (N ≤ b ∧ b < w'.heap.size)) := fun b hb' => by
    rcases hb' with h | h
    · exact Or.inl h
    · exact Or.inr ⟨h.1, by omega⟩
  exact ⟨_, _, rfl, ⟨by show _ ≤ (5 : Int); omega, by show (5 : Int) ≤ _; omega⟩, ⟨by show _ ≤ (0 : Int); omega, by show (0 : Int) ≤ _; omega⟩, by show (0 : Nat) < _; omega, ⟨by show (0 : Nat) < _; omega, (fun s hs => by cases hs), none, 0, rfl, Or.inl rfl⟩, hrow.moved hmv hin (fun y u hy => ValAt.moved hmv hin _ y u hy)⟩
/-- A row's value is a slice of just so many. -/
theorem VTo.slice {d N : Nat} {S : Nat → Prop} {w : World} {lv : Value} {xs : List (Tr d)} {vs : List Value} (h : VTo S N w lv xs vs) : ∃ a c, lv = .slice a xs.length c := by
  rcases h.1.2 with ⟨rfl, h0⟩ | ⟨g, cap, cur, rfl, _⟩
  · exact ⟨none, 0, by rw [h0]⟩
  · exact ⟨_, _, rfl⟩
/-- A row of nothing, as it is made. -/
theorem VTo.start {d : Nat} (S : Nat → Prop) (w : World) : VTo (d := d) S w.heap.size (w.alloc (.cells #[] 26)) (.slice (some ⟨w.heap.size, 0, none⟩) 0 0) [] [] :=
  ⟨⟨rfl, Or.inr ⟨w.heap.size, 0, #[], rfl, Nat.le_refl _, heap_alloc_new w _, Nat.le_refl _, Nat.zero_le _, rfl, rfl⟩⟩, fun j x h => by simp at h⟩
/-- One tree more, from elsewhere. -/
theorem VTo.push {d N : Nat} {S : Nat → Prop} {w1 wr w2 : World} {lv lv' : Value} {xs : List (Tr d)} {vs : List Value} {x : Tr d} {v0 v1 v2 v3 v4 : Value} {o : Obj} (h : VTo S N wr lv xs vs) (hS : ∀ b, S b → b < N) (hN : N ≤ wr.heap.size) (hb : Below N w1 wr) (hx : ValAt S wr d x (.agg #[v0, v1, v2, v3, v4]))
    (hown : w2.ownsRow N 26 5 lv' (xs.length + 1) (vs ++ [v0, v1, v2, v3, v4])) (hg : (wr.alloc o).grownBy w2 lv.ownBlock) : VTo S N w2 lv' (xs ++ [x]) (vs ++ [v0, v1, v2, v3, v4]) ∧ Below N w1 w2 ∧ N ≤ w2.heap.size := by
  have hz : (wr.alloc o).heap.size = wr.heap.size + 1 := by simp
  have hs2 := hg.size
  have hrow : ∀ g, lv.ownBlock = some g → N ≤ g := fun g hg' => (h.1.lt g hg').1
  have hblk : ∀ b, b < N → w2.heap[b]? = wr.heap[b]? := fun b hb' => (hg.block b (by omega) (fun e => by have := hrow b e.symm; omega)).trans (Below.heap_alloc _ _ _ (by omega))
  refine ⟨h.grow (fun b hb' => hblk b (hS b hb')) hx hown, ⟨hg.os.trans hb.os, hg.tape.trans hb.tape, hg.output.trans hb.output, ?_, fun b hb' => (hblk b hb').trans (hb.block b hb')⟩, by omega⟩
  have := hb.size
  omega
end Go.Proofs.YtoangpfmjohhmaaGreatDoor

/- l4Of of the model. -/
namespace Go.Proofs.YtoangpfmjohhmaaGreatDoor
open Go.RowKit Go.Deep

end Go.Proofs.YtoangpfmjohhmaaGreatDoor

/- A tree as one that may be one deeper. -/
namespace Go.Proofs.YtoangpfmjohhmaaGreatDoor
open Go.RowKit Go.Deep

/-- The same tree, as one that may be one deeper. -/
def up : (d : Nat) → Tr d → Tr (d + 1)
  | 0, t => Empty.elim t
  | d + 1, t => (Nd.mk (Nd.kind t) (Nd.num t) (Nd.str t) (Nd.keys t) ((Nd.list t).map (up d)) : Nd (Tr (d + 1)))

theorem all_up {d : Nat} {list : List (Tr d)} {deep : Int} (h : ∀ x, formT (d + 1) (up d x) deep = formT d x deep) : (list.map (up d)).all (fun x => formT (d + 1) x deep) = list.all (fun x => formT d x deep) := by
  rw [List.all_map]
  congr 1
  funext x
  exact h x
theorem formT_lift : ∀ (d : Nat) (t : Tr d) (deep : Int), formT (d + 1) (up d t) deep = formT d t deep
  | 0, t, _ => Empty.elim t
  | d + 1, t, deep => by
    obtain ⟨kind, num, str, keys, list⟩ := t
    have ha := all_up (list := list) (fun x => formT_lift d x (deep - 1))
    have hl : (list.map (up d)).length = list.length := List.length_map ..
    show formT (d + 2) (Nd.mk kind num str keys (list.map (up d)) : Nd (Tr (d + 1))) deep = _
    cases hb : headBad kind num str keys.length list.length deep with
    | true => rw [formT_bad hb, formT_bad (by rw [hl]; exact hb)]
    | false => rw [formT_good hb, formT_good (by rw [hl]; exact hb), hl, ha]
theorem manyT_lift : ∀ (d : Nat) (t : Tr d) (deep : Int), manyT (d + 1) (up d t) deep = manyT d t deep
  | 0, t, _ => Empty.elim t
  | d + 1, t, deep => by
    obtain ⟨kind, num, str, keys, list⟩ := t
    show 1 + (if 0 < deep then ((list.map (up d)).map (fun x => manyT (d + 1) x (deep - 1))).sum else 0) = 1 + (if 0 < deep then (list.map (fun x => manyT d x (deep - 1))).sum else 0)
    rw [List.map_map]
    have h := sum_map_eq (f := (fun x => manyT (d + 1) x (deep - 1)) ∘ up d) (g := fun x => manyT d x (deep - 1)) list (fun x _ => manyT_lift d x (deep - 1))
    rw [h]
theorem okT_lift (d : Nat) (t : Tr d) : okT (d + 1) (up d t) = okT d t := by
  unfold okT
  rw [formT_lift, manyT_lift]
theorem up_zero (d : Nat) : up (d + 1) (zeroT d) = zeroT (d + 1) := rfl

theorem RowAt.up {α β : Type} {S : Nat → Prop} {w : World} {At : α → Value → Prop} {At' : β → Value → Prop} {v : Value} {xs : List α} (f : α → β) (h : RowAt S w At v xs) (hi : ∀ x u, At x u → At' (f x) u) : RowAt S w At' v (xs.map f) := by
  obtain ⟨h1, a, cap, hv, h3⟩ := h
  refine ⟨by rw [List.length_map]; exact h1, a, cap, by rw [List.length_map]; exact hv, ?_⟩
  rcases h3 with h3 | ⟨b, o, hB, ha, hc⟩
  · exact Or.inl (by rw [h3]; rfl)
  · refine Or.inr ⟨b, o, hB, ha, fun i x hx => ?_⟩
    rw [List.getElem?_map] at hx
    obtain ⟨y, hy, rfl⟩ := Option.map_eq_some_iff.1 hx
    obtain ⟨c0, c1, c2, c3, c4, e0, e1, e2, e3, e4, e5⟩ := hc i y hy
    exact ⟨c0, c1, c2, c3, c4, e0, e1, e2, e3, e4, hi _ _ e5⟩
theorem ValAt.up {S : Nat → Prop} {w : World} : ∀ (d : Nat) (t : Tr d) (v : Value), ValAt S w d t v → ValAt S w (d + 1) (up d t) v
  | 0, _, _, h => h.elim
  | d + 1, t, v, h => by
    obtain ⟨vk, vl, hv, i1, i2, i3, hk, hl⟩ := h
    exact ⟨vk, vl, hv, i1, i2, i3, hk, hl.up (At' := ValAt S w (d + 1)) _ (fun x u hx => ValAt.up d x u hx)⟩
theorem RowOwn.up {α β : Type} {w : World} {At : (Nat → Prop) → α → Value → Prop} {At' : (Nat → Prop) → β → Value → Prop} {S : Nat → Prop} {v : Value} {xs : List α} (f : α → β) (h : RowOwn w At S v xs) (hi : ∀ P x u, At P x u → At' P (f x) u) : RowOwn w At' S v (xs.map f) := by
  obtain ⟨h1, a, cap, hv, h3⟩ := h
  refine ⟨by rw [List.length_map]; exact h1, a, cap, by rw [List.length_map]; exact hv, ?_⟩
  rcases h3 with h3 | ⟨b, n, g, P, hB, ha, hl, hr, hP, hd, hc⟩
  · exact Or.inl (by rw [h3]; rfl)
  · refine Or.inr ⟨b, n, g, P, hB, ha, by rw [List.length_map]; exact hl, hr, hP, hd, fun i x hx => ?_⟩
    rw [List.getElem?_map] at hx
    obtain ⟨y, hy, rfl⟩ := Option.map_eq_some_iff.1 hx
    exact hi _ _ _ (hc i y hy)
theorem ValOwn.up {w : World} : ∀ (d : Nat) (S : Nat → Prop) (t : Tr d) (v : Value), ValOwn w d S t v → ValOwn w (d + 1) S (up d t) v
  | 0, _, _, _, h => h.elim
  | d + 1, S, t, v, h => by
    obtain ⟨vk, vl, Sk, Sl, hv, i1, i2, i3, hk, hl, s1, s2, s3⟩ := h
    exact ⟨vk, vl, Sk, Sl, hv, i1, i2, i3, hk, hl.up (At' := fun P x u => ValOwn w (d + 1) P x u) _ (fun P x u hx => ValOwn.up d P x u hx), s1, s2, s3⟩
end Go.Proofs.YtoangpfmjohhmaaGreatDoor
