/- Texts of the proof, put together by program: WVTo, WPutI, WSetI, WSetJ, WPathK, WPutQ, WPutF. -/
import Derived.Test.YtmibjmipndffmaaGreatDoorQ12
import Derived.Test.YtmibjmipndffmaaGreatDoorQ8
import Derived.Deep.OwnRows
import Derived.Test.YtmibjmipndffmaaGreatDoorQ9
import Derived.Test.YtmibjmipndffmaaGreatDoorQ6
/- A row of the model's that is being made out of trees that lie elsewhere; what is told, in the result's own cells. -/
namespace Go.Proofs.YtmibjmipndffmaaGreatDoor
open Go.RowKit Go.Deep

theorem nodes_wt : ∀ (d : Nat) (t : Tr d), nodes d t ≤ wtT d t
  | 0, t => Empty.elim t
  | d + 1, t => by
    have h : ∀ xs : List (Tr d), (xs.map (nodes d)).sum ≤ (xs.map (wtT d)).sum := by
      intro xs
      induction xs with
      | nil => exact Nat.le_refl _
      | cons x r ih =>
        have := nodes_wt d x
        simp only [List.map_cons, List.sum_cons]
        omega
    have := h (Nd.list t)
    rw [nodes, wtT]
    omega
theorem nodes_ok {d : Nat} {t : Tr d} (h : okT d t = true) : nodes d t ≤ 300 := Nat.le_trans (nodes_wt d t) (wtT_ok h)
theorem sum_le_of {α : Type} {f : α → Nat} {c : Nat} : ∀ {xs : List α}, (∀ x ∈ xs, f x ≤ c) → (xs.map f).sum ≤ c * xs.length
  | [], _ => by simp
  | x :: r, h => by
    have h1 := h x (by simp)
    have h2 := sum_le_of (xs := r) (fun y hy => h y (by simp [hy]))
    simp only [List.map_cons, List.sum_cons, List.length_cons]
    rw [Nat.mul_succ]
    omega
/-- A row of the model's that owns its cells; its trees lie in blocks of S. -/
def VTo {d : Nat} (S : Nat → Prop) (N : Nat) (w : World) (lv : Value) (xs : List (Tr d)) (vs : List Value) : Prop :=
  w.ownsRow N 26 5 lv xs.length vs ∧ ∀ (j : Nat) (x : Tr d), xs[j]? = some x → ∃ c0 c1 c2 c3 c4, vs[j * 5]? = some c0 ∧ vs[j * 5 + 1]? = some c1 ∧ vs[j * 5 + 2]? = some c2 ∧ vs[j * 5 + 3]? = some c3 ∧ vs[j * 5 + 4]? = some c4 ∧ ValAt S w d x (.agg #[c0, c1, c2, c3, c4])

theorem VTo.grow {d N : Nat} {S : Nat → Prop} {wr w2 : World} {lv lv' : Value} {xs : List (Tr d)} {vs : List Value} {x : Tr d} {v0 v1 v2 v3 v4 : Value} (h : VTo S N wr lv xs vs) (hs : Same S wr w2) (hx : ValAt S wr d x (.agg #[v0, v1, v2, v3, v4])) (hown : w2.ownsRow N 26 5 lv' (xs.length + 1) (vs ++ [v0, v1, v2, v3, v4])) : VTo S N w2 lv' (xs ++ [x]) (vs ++ [v0, v1, v2, v3, v4]) := by
  obtain ⟨h1, h2⟩ := h
  have hlen : vs.length = xs.length * 5 := h1.1
  refine ⟨by rw [List.length_append]; exact hown, fun j y hy => ?_⟩
  by_cases e : j < xs.length
  · rw [List.getElem?_append_left e] at hy
    obtain ⟨c0, c1, c2, c3, c4, e0, e1, e2, e3, e4, hv⟩ := h2 j y hy
    refine ⟨c0, c1, c2, c3, c4, ?_, ?_, ?_, ?_, ?_, hv.same hs⟩
    · rw [List.getElem?_append_left (by omega)]; exact e0
    · rw [List.getElem?_append_left (by omega)]; exact e1
    · rw [List.getElem?_append_left (by omega)]; exact e2
    · rw [List.getElem?_append_left (by omega)]; exact e3
    · rw [List.getElem?_append_left (by omega)]; exact e4
  · have hj : j = xs.length := by
      have := (List.getElem?_eq_some_iff.1 hy).1
      rw [List.length_append, List.length_singleton] at this
      omega
    subst hj
    rw [List.getElem?_append_right (Nat.le_refl _), Nat.sub_self] at hy
    cases hy
    refine ⟨v0, v1, v2, v3, v4, ?_, ?_, ?_, ?_, ?_, hx.same hs⟩
    · rw [List.getElem?_append_right (by omega), hlen]; simp
    · rw [List.getElem?_append_right (by omega), hlen]; simp
    · rw [List.getElem?_append_right (by omega), hlen]; simp
    · rw [List.getElem?_append_right (by omega), hlen]; simp
    · rw [List.getElem?_append_right (by omega), hlen]; simp

theorem VTo.moved {d N : Nat} {S : Nat → Prop} {w w' : World} {lv : Value} {xs : List (Tr d)} {vs : List Value} (h : VTo S N w lv xs vs) (hs : Same S w w') (ho : ∀ g, lv.ownBlock = some g → w'.heap[g]? = w.heap[g]?) : VTo S N w' lv xs vs := by
  obtain ⟨h1, h2⟩ := h
  refine ⟨⟨h1.1, ?_⟩, fun j x hx => ?_⟩
  · rcases h1.2 with h | ⟨g, cap, cur, hv, hg, hh, hrest⟩
    · exact Or.inl h
    · exact Or.inr ⟨g, cap, cur, hv, hg, (ho g (by rw [hv]; rfl)).trans hh, hrest⟩
  · obtain ⟨c0, c1, c2, c3, c4, e0, e1, e2, e3, e4, hv⟩ := h2 j x hx
    exact ⟨c0, c1, c2, c3, c4, e0, e1, e2, e3, e4, hv.same hs⟩

/-- The row, where it lies. -/
theorem VTo.at {d N : Nat} {S : Nat → Prop} {w : World} {lv : Value} {xs : List (Tr d)} {vs : List Value} (h : VTo S N w lv xs vs) (hl : xs.length < 3518437208883) : RowAt (fun b => S b ∨ (N ≤ b ∧ b < w.heap.size)) w (ValAt (fun b => S b ∨ (N ≤ b ∧ b < w.heap.size)) w d) lv xs := by
  obtain ⟨h1, h2⟩ := h
  refine ⟨hl, ?_⟩
  rcases h1.2 with ⟨rfl, h0⟩ | ⟨g, cap, cur, rfl, hg, hh, hnc, _, hcs, htake⟩
  · exact ⟨none, 0, by rw [h0], Or.inl (List.eq_nil_of_length_eq_zero h0)⟩
  · refine ⟨some ⟨g, 0, none⟩, cap, rfl, Or.inr ⟨g, 0, Or.inr ⟨hg, (Array.getElem?_eq_some_iff.1 hh).1⟩, rfl, fun i x hx => ?_⟩⟩
    obtain ⟨c0, c1, c2, c3, c4, e0, e1, e2, e3, e4, hv⟩ := h2 i x hx
    have hi := (List.getElem?_eq_some_iff.1 hx).1
    have hc : ∀ j c, j < xs.length * 5 → vs[j]? = some c → w.cell? ⟨g, 0 + j, none⟩ = some c := fun j c hj hc => by
      rw [Nat.zero_add]
      exact (h1.cellAt j hj).trans hc
    refine ⟨c0, c1, c2, c3, c4, hc _ _ (by omega) e0, hc _ _ (by omega) e1, hc _ _ (by omega) e2, hc _ _ (by omega) e3, hc _ _ (by omega) e4, hv.mono (fun b hb => Or.inl hb)⟩

/-- Another tree at a place. -/
theorem VTo.put {d N g n cap k : Nat} {S : Nat → Prop} {w : World} {xs : List (Tr d)} {vs : List Value} {x : Tr d} {v0 v1 v2 v3 v4 : Value} (h : VTo S N w (.slice (some ⟨g, 0, none⟩) n cap) xs vs) (hn : n = xs.length) (hk : k < xs.length) (hx : ValAt S w d x (.agg #[v0, v1, v2, v3, v4])) (hS : ∀ b, S b → b < N) :
    (∃ vs', VTo S N (set5 w g (k * 5) v0 v1 v2 v3 v4) (.slice (some ⟨g, 0, none⟩) n cap) (xs.set k x) vs') ∧ Below N w (set5 w g (k * 5) v0 v1 v2 v3 v4) := by
  subst hn
  obtain ⟨h1, h2⟩ := h
  have hlen : vs.length = xs.length * 5 := h1.1
  have hgN := (h1.lt g rfl).1
  have hB : Below N w (set5 w g (k * 5) v0 v1 v2 v3 v4) := below_set5 (Below.refl _ _) hgN _ _ _ _ _ _
  have hsame : Same S w (set5 w g (k * 5) v0 v1 v2 v3 v4) := fun b hb => hB.block b (hS b hb)
  have ho := (((((h1.stored (k * 5) v0).1.stored (k * 5 + 1) v1).1.stored (k * 5 + 2) v2).1.stored (k * 5 + 3) v3).1.stored (k * 5 + 4) v4).1
  refine ⟨⟨_, by rw [List.length_set]; exact ho, fun j y hy => ?_⟩, hB⟩
  by_cases e : k = j
  · subst e
    rw [List.getElem?_set_self hk] at hy
    cases hy
    refine ⟨v0, v1, v2, v3, v4, ?_, ?_, ?_, ?_, ?_, hx.same hsame⟩
    all_goals simp [List.getElem?_set, hlen]
    all_goals omega
  · rw [List.getElem?_set_ne e] at hy
    obtain ⟨c0, c1, c2, c3, c4, e0, e1, e2, e3, e4, hv⟩ := h2 j y hy
    refine ⟨c0, c1, c2, c3, c4, ?_, ?_, ?_, ?_, ?_, hv.same hsame⟩
    · rw [List.getElem?_set_ne (by omega), List.getElem?_set_ne (by omega), List.getElem?_set_ne (by omega), List.getElem?_set_ne (by omega), List.getElem?_set_ne (by omega)]; exact e0
    · rw [List.getElem?_set_ne (by omega), List.getElem?_set_ne (by omega), List.getElem?_set_ne (by omega), List.getElem?_set_ne (by omega), List.getElem?_set_ne (by omega)]; exact e1
    · rw [List.getElem?_set_ne (by omega), List.getElem?_set_ne (by omega), List.getElem?_set_ne (by omega), List.getElem?_set_ne (by omega), List.getElem?_set_ne (by omega)]; exact e2
    · rw [List.getElem?_set_ne (by omega), List.getElem?_set_ne (by omega), List.getElem?_set_ne (by omega), List.getElem?_set_ne (by omega), List.getElem?_set_ne (by omega)]; exact e3
    · rw [List.getElem?_set_ne (by omega), List.getElem?_set_ne (by omega), List.getElem?_set_ne (by omega), List.getElem?_set_ne (by omega), List.getElem?_set_ne (by omega)]; exact e4
/-- What was told is put into the result's own cells. -/
theorem tell_endA {d : Nat} {t : Tr (d + 1)} {w w1 w2 : World} {v0 v1 : Int} {v2 : ByteArray} {v3 v6 : Option Addr} {v4 v5 v7 v8 rb : Nat} (hv : ValAt (Fresh w1 w2) w2 (d + 1) t (.agg #[.int .i64 v0, .int .i64 v1, .string v2, .slice v3 v4 v5, .slice v6 v7 v8])) (hb : Below w.heap.size w w2)
    (hr : w.heap.size ≤ rb) (hr1 : rb < w1.heap.size) :
    ∀ wF, wF = set5 w2 rb 0 (.int .i64 v0) (.int .i64 v1) (.string v2) (.slice v3 v4 v5) (.slice v6 v7 v8) → ValAt (Fresh w wF) wF (d + 1) t (.agg #[.int .i64 v0, .int .i64 v1, .string v2, .slice v3 v4 v5, .slice v6 v7 v8]) ∧ Below w.heap.size w wF := by
  intro wF hF
  have hzF : wF.heap.size = w2.heap.size := by rw [hF, set5_size]
  refine ⟨ValAt.moved (fun b hb => ?_) (fun b hb => ⟨by have := hb.1; omega, by have := hb.2; omega⟩) (d + 1) t _ hv, ?_⟩
  · rw [hF, set5_block _ _ _ _ _ _ _ _ _ (by have := hb.1; omega)]
  · rw [hF]
    exact below_set5 hb hr _ _ _ _ _ _

end Go.Proofs.YtmibjmipndffmaaGreatDoor

/- A map's update; PartPut of the program. -/
namespace Go.Proofs.YtmibjmipndffmaaGreatDoor
open Go.RowKit Go.Deep

theorem mapL_str {d : Nat} {t : Tr (d + 1)} {s : ByteArray} {p : List ByteArray × List (Tr d)} (h : mapL d t s = some p) : strOk s = true := by
  unfold mapL at h
  split at h
  · rename_i hh
    exact hh.2
  · cases h

/-- A tree is put at a key of a map that owns its memory. -/
theorem MapO.put {d N r : Nat} {w : World} {es : Array MapEntry} {keys : List ByteArray} {xs : List (Tr d)} {s : ByteArray} {x : Tr d} {u : Value} {S : Nat → Prop} (h : MapO N w r es keys xs) (hs : strOk s = true) (hu : TreeG S w d x u) (hS : ∀ b, S b → N ≤ b ∧ b < w.heap.size ∧ b ≠ r) :
    ∃ w', (Instr.mapUpdate 87 (.map (some r)) (.string s) u).run Tryz.prog w = .ok () w' ∧ Below N w w' ∧ TreeG (fun b => N ≤ b ∧ b < w'.heap.size) w' (d + 1) (mapT d (putL keys xs s x)) (.iface 145 (.agg #[.map (some r)])) := by
  have hrl := (Array.getElem?_eq_some_iff.1 h.obj).1
  have hsz : ∀ o, (withObj w r o).heap.size = w.heap.size := fun o => by simp [withObj]
  have hlen : (keys.zip xs).length = keys.length := by rw [List.length_zip, ← h.same, Nat.min_self]
  have hput := putL_length keys xs s x
  have hkl := h.same
  have hl60 := h.len
  have hmv : ∀ o y v, TreeG (fun b => N ≤ b ∧ b < w.heap.size ∧ b ≠ r) w d y v → TreeG (fun b => N ≤ b ∧ b < (withObj w r o).heap.size) (withObj w r o) d y v := fun o y v hy =>
    TreeG.moved (fun b hb => withObj_block w r o b hb.2.2) (fun b hb => ⟨hb.1, by rw [hsz]; exact hb.2.1⟩) d y v hy
  have hmu : ∀ o, TreeG (fun b => N ≤ b ∧ b < (withObj w r o).heap.size) (withObj w r o) d x u := fun o =>
    TreeG.moved (fun b hb => withObj_block w r o b (hS b hb).2.2) (fun b hb => ⟨(hS b hb).1, by rw [hsz]; exact (hS b hb).2.1⟩) d x u hu
  have hobj : ∀ o, (withObj w r o).heap[r]? = some o := fun o => by simp [withObj, hrl]
  have hge := h.ge
  by_cases hm : s ∈ keys
  · obtain ⟨j, y, hj, hy, hmin⟩ := key_at hm hkl
    have hzj : (keys.zip xs)[j]? = some (s, y) := List.getElem?_zip_eq_some.2 ⟨hj, hy⟩
    obtain ⟨v, hev, _⟩ := h.ent.2 j s y hzj
    have hjl := (List.getElem?_eq_some_iff.1 hj).1
    have hbefore : ∀ i' e', i' < j → es[i']? = some e' → ∃ k, e'.key = .string k ∧ k ≠ s := fun i' e' hi he => by
      obtain ⟨v', hv', _⟩ := h.ent.2 i' _ _ (List.getElem?_zip_eq_some.2 ⟨List.getElem?_eq_getElem (by omega : i' < keys.length), List.getElem?_eq_getElem (by omega : i' < xs.length)⟩)
      rw [he] at hv'
      cases hv'
      exact ⟨_, rfl, fun e => hmin i' hi (by rw [List.getElem?_eq_getElem (by omega : i' < keys.length), e])⟩
    have hth : putL keys xs s x = (keys.zip xs).set j (s, x) := putL_there (p := none) hkl h.good hj
    refine ⟨_, run_mapSet w r keys.length j es s u v j h.obj hev hbefore, below_withObj _ _ hge, Or.inr (Or.inr (Or.inr (Or.inr ⟨_, _, putL keys xs s x, r, es.modify j fun e => { e with key := .string s, val := u }, ?_, ?_, ?_, ?_, rfl, rfl, ⟨hge, by rw [hsz]; exact hrl⟩, ?_, ?_⟩)))⟩
    · rw [List.length_map]; omega
    · exact putL_keys hs hkl h.good (fun q e => by cases e)
    · rw [List.length_map, List.length_map]
    · rw [zip_unzip]
    · rw [hobj, hth, List.length_set, hlen]
    · rw [hth]
      refine ⟨by rw [Array.size_modify, List.length_set]; exact h.ent.1, fun i k z hi => ?_⟩
      by_cases e : j = i
      · subst e
        rw [List.getElem?_set_self (by omega)] at hi
        cases hi
        exact ⟨u, by simp [Array.getElem?_modify, hev], hmu _⟩
      · rw [List.getElem?_set_ne e] at hi
        obtain ⟨v', hv', ha⟩ := h.ent.2 i k z hi
        exact ⟨v', by rw [Array.getElem?_modify, if_neg e]; exact hv', hmv _ _ _ ha⟩
  · have hmiss := h.ent.miss (s := s) (by rw [zip_fst _ _ hkl]; exact hm)
    have hp := putL_new (x := x) hkl hm
    have hpl := hp.length_eq
    rw [List.length_append, hlen, List.length_singleton] at hpl
    refine ⟨_, run_mapPush w r keys.length es s u h.obj hmiss, below_withObj _ _ hge, Or.inr (Or.inr (Or.inr (Or.inr ⟨_, _, (keys.zip xs) ++ [(s, x)], r, es.push ⟨.string s, u, keys.length⟩, ?_, ?_, ?_, ?_, rfl, rfl, ⟨hge, by rw [hsz]; exact hrl⟩, ?_, ?_⟩)))⟩
    · rw [List.length_map]; omega
    · exact putL_keys hs hkl h.good (fun q e => by cases e)
    · rw [List.length_map, List.length_map]
    · rw [zip_unzip]; exact hp
    · rw [hobj, List.length_append, hlen, List.length_singleton]
    · refine ⟨by rw [Array.size_push, List.length_append, List.length_singleton, h.ent.1], fun i k z hi => ?_⟩
      have hes : es.size = keys.length := h.ent.1.trans hlen
      by_cases e : i < keys.length
      · rw [List.getElem?_append_left (by omega)] at hi
        obtain ⟨v', hv', ha⟩ := h.ent.2 i k z hi
        exact ⟨v', by rw [Array.getElem?_push, if_neg (by omega)]; exact hv', hmv _ _ _ ha⟩
      · have hil := (List.getElem?_eq_some_iff.1 hi).1
        rw [List.length_append, hlen, List.length_singleton] at hil
        obtain rfl : i = keys.length := by omega
        rw [List.getElem?_append_right (by omega), hlen, Nat.sub_self] at hi
        cases hi
        exact ⟨u, by rw [Array.getElem?_push, if_pos hes.symm], hmu _⟩

set_option maxRecDepth 100000 in
set_option maxHeartbeats 4000000 in
theorem implPartPut_any (d : Nat) (S : Nat → Prop) (t : Tr (d + 2)) (v : Value) (s0 : ByteArray) (hs0 : s0.size < 281474976710656) (S2 : Nat → Prop) (x : Tr (d + 1)) (xv : Value) (w : World) (hv : ValAt S w (d + 2) t v) (hS : Within S w) (hx : ValAt S2 w (d + 1) x xv) (hS2 : Within S2 w) (hg : ErrType w) :
    Calls Tryz.prog 92 #[v, .string s0, xv] w (TellQ (d + 1) (partPutT d t s0 x).1 (partPutT d t s0 x).2 w) := by
  obtain ⟨k, n, s, ak, lk, ck, al, ll, cl, rfl⟩ := hv.shape
  obtain ⟨k', n', s', ak', lk', ck', al', ll', cl', rfl⟩ := hx.shape
  obtain ⟨k0, k1, k2, hW0, hsz0⟩ := laid3 w 26 26 26 (.int .i64 k) (.int .i64 n) (.string s) (.slice ak lk ck) (.slice al ll cl) (.int .i64 k') (.int .i64 n') (.string s') (.slice ak' lk' ck') (.slice al' ll' cl') (.int .i64 0) (.int .i64 0) (.string { data := #[] }) (.slice none 0 0) (.slice none 0 0)
  obtain ⟨W0, hW⟩ : ∃ W0, W0 = ((w.alloc (.cells #[.int .i64 k, .int .i64 n, .string s, .slice ak lk ck, .slice al ll cl] 26)).alloc (.cells #[.int .i64 k', .int .i64 n', .string s', .slice ak' lk' ck', .slice al' ll' cl'] 26)).alloc (.cells #[.int .i64 0, .int .i64 0, .string { data := #[] }, .slice none 0 0, .slice none 0 0] 26) := ⟨_, rfl⟩
  rw [← hW] at k0 k1 k2 hW0 hsz0
  have HW := hide hW
  clear hW k0
  go_enter Tryz.func92, Tryz.ntmps92
  go_wp2_with fail
  rw [← HW.out]
  clear HW
  refine (partsByKeys_own (d + 1) S t _ s0 hs0 W0 (hv.same (hS.same hW0)) (hS.later hW0.size)).mono ?_
  rintro e w1 ⟨hb1, hq⟩
  have hB1 := below_trans hW0 hb1
  replace k1 := k1.below hb1
  replace k2 := k2.below hb1
  have hg1 := hg.below hB1
  have hs1 := hb1.size
  -- what is told, however it is
  have hfin : ∀ (w1' : World), Below W0.heap.size w1 w1' → ∀ (y : Tr (d + 2)) (ok : Bool), Hid (∀ e w2, TellQ (d + 1) y ok w1' e w2 → ∃ v0 v1 v2 v3 v4 v5 v6 v7 v8, e = .returned (.tuple #[.agg #[.int .i64 v0, .int .i64 v1, .string v2, .slice v3 v4 v5, .slice v6 v7 v8], .bool ok]) ∧
      Blk5 w2 (w.heap.size + 1 + 1) 26 (.int .i64 0) (.int .i64 0) (.string { data := #[] }) (.slice none 0 0) (.slice none 0 0) ∧
      ∀ wF, wF = set5 w2 (w.heap.size + 1 + 1) 0 (.int .i64 v0) (.int .i64 v1) (.string v2) (.slice v3 v4 v5) (.slice v6 v7 v8) → ValOwn wF (d + 2) (Fresh w wF) y (.agg #[.int .i64 v0, .int .i64 v1, .string v2, .slice v3 v4 v5, .slice v6 v7 v8]) ∧ Below w.heap.size w wF) := fun w1' hb' y ok => by
    intro e w2 ⟨v, he, hv, hb2⟩
    obtain ⟨v0, v1, v2, v3, v4, v5, v6, v7, v8, rfl⟩ := (ValOwn.at _ _ _ _ hv).shape
    have hbw : Below w.heap.size w w1' := hB1.trans (hb'.mono (by omega))
    have hk : Blk5 w1' (w.heap.size + 1 + 1) 26 (.int .i64 0) (.int .i64 0) (.string { data := #[] }) (.slice none 0 0) (.slice none 0 0) := k2.of_block (hb'.block _ (by omega))
    exact ⟨v0, v1, v2, v3, v4, v5, v6, v7, v8, he, hk.below hb2, tell_end hv (below_trans hbw hb2) (by omega) (by have := hb'.size; omega)⟩
  clear hv hW0 k2
  rcases hq with ⟨keys, xs, r, es, hrow, rfl, hgto⟩ | ⟨hrow, why, rfl⟩
  · obtain ⟨x0, x1, x2, x3, x4⟩ := k1.cell
    have HG := hide hgto
    have HROW := hide hrow
    have HSTR := hide (mapL_str hrow)
    clear hgto hrow
    go_wp2_with fail
    refine (given_any (d + 1) S2 x _ w1 (hx.same (hS2.same hB1)) (hS2.later hB1.size)).mono ?_
    rintro e w2 ⟨hb2, hq⟩
    have hgt2 := hide (HG.out.moved hb2)
    have hbN2 : Below W0.heap.size w1 w2 := hb2.mono hs1
    have hs2 := hb2.size
    have hg2 := hg1.below hb2
    clear x0 x1 x2 x3 x4
    rcases hq with ⟨hok, u, rfl, hu⟩ | ⟨hok, why, rfl⟩
    · obtain ⟨T, u', rfl⟩ := hu.iface
      have hrl : r < w1.heap.size := (Array.getElem?_eq_some_iff.1 HG.out.obj).1
      obtain ⟨w3, hrun, hb3, hu3⟩ := hgt2.out.put (x := x) (u := .iface T u') (S := Fresh w1 w2) HSTR.out hu (fun b hb => ⟨by have := hb.1; omega, hb.2, by have := hb.1; omega⟩)
      have hbN3 := Below.trans hbN2 hb3
      have HR : Hid (partPutT d t s0 x = (toldT (d + 1) (mapT (d + 1) (putL keys xs s0 x)), okT (d + 2) (mapT (d + 1) (putL keys xs s0 x)))) := by
        show partPutT d t s0 x = _
        unfold partPutT
        rw [HROW.out]
        exact if_pos hok
      have hcall := hide (told_tree (d + 1) _ _ _ w3 hu3 (fun b hb => hb.2))
      clear hu hu3 hgt2 HG hb2 HROW hb3
      go_wp2_with fail
      refine Calls.mono hcall.out ?_
      intro e w4 hq
      obtain ⟨v0, v1, v2, v3, v4, v5, v6, v7, v8, rfl, k3, hF⟩ := (hfin w3 hbN3 _ _).out e w4 hq
      have HF := hide hF
      obtain ⟨y0, y1, y2, y3, y4⟩ := k3.cell
      have yf := k3.frozen
      clear hF hq hfin hcall k3
      go_wp2_with fail
      refine bodyPost_ret (v := .tuple #[.agg #[.int .i64 v0, .int .i64 v1, .string v2, .slice v3 v4 v5, .slice v6 v7 v8], .bool (okT (d + 2) (mapT (d + 1) (putL keys xs s0 x)))]) (by simp [results, Tryz.results92, go_sem, y0, y1, y2, y3, y4]) rfl ⟨_, by rw [HR.out], by rw [HR.out]; exact (HF.out _ rfl).1, (HF.out _ rfl).2⟩
    · have HR : Hid (partPutT d t s0 x = (zeroT (d + 1), false)) := by
        show partPutT d t s0 x = _
        unfold partPutT
        rw [HROW.out]
        exact if_neg (by rw [hok]; simp)
      have hcall := hide (told_fault (d + 1) .nilIface why w2 hg2)
      unfold faultV
      clear HROW hgt2 HG
      go_wp2_with fail
      refine Calls.mono hcall.out ?_
      intro e w4 hq
      obtain ⟨v0, v1, v2, v3, v4, v5, v6, v7, v8, rfl, k3, hF⟩ := (hfin w2 hbN2 _ _).out e w4 hq
      have HF := hide hF
      obtain ⟨y0, y1, y2, y3, y4⟩ := k3.cell
      have yf := k3.frozen
      clear hF hq hfin hcall k3
      go_wp2_with fail
      refine bodyPost_ret (v := .tuple #[.agg #[.int .i64 v0, .int .i64 v1, .string v2, .slice v3 v4 v5, .slice v6 v7 v8], .bool false]) (by simp [results, Tryz.results92, go_sem, y0, y1, y2, y3, y4]) rfl ⟨_, by rw [HR.out], by rw [HR.out]; exact (HF.out _ rfl).1, (HF.out _ rfl).2⟩
  · have HR : Hid (partPutT d t s0 x = (zeroT (d + 1), false)) := by
      show partPutT d t s0 x = _
      unfold partPutT
      rw [hrow]
    have hcall := hide (told_fault (d + 1) .nilIface why w1 hg1)
    unfold faultV
    clear hrow k1
    go_wp2_with fail
    refine Calls.mono hcall.out ?_
    intro e w2 hq
    obtain ⟨v0, v1, v2, v3, v4, v5, v6, v7, v8, rfl, k3, hF⟩ := (hfin w1 (Below.refl _ _) _ _).out e w2 hq
    have HF := hide hF
    obtain ⟨y0, y1, y2, y3, y4⟩ := k3.cell
    have yf := k3.frozen
    clear hF hq hfin hcall k3
    go_wp2_with fail
    refine bodyPost_ret (v := .tuple #[.agg #[.int .i64 v0, .int .i64 v1, .string v2, .slice v3 v4 v5, .slice v6 v7 v8], .bool false]) (by simp [results, Tryz.results92, go_sem, y0, y1, y2, y3, y4]) rfl ⟨_, by rw [HR.out], by rw [HR.out]; exact (HF.out _ rfl).1, (HF.out _ rfl).2⟩
end Go.Proofs.YtmibjmipndffmaaGreatDoor

/- setTree of the program. -/
namespace Go.Proofs.YtmibjmipndffmaaGreatDoor
open Go.RowKit Go.Deep

/-- What setTree is asked to give. -/
def SetQ (d N : Nat) (xs : List (Tr (d + 1))) (j : Int) (x : Tr (d + 1)) (w : World) (e : Ending) (w' : World) : Prop :=
  Below N w w' ∧ ((0 ≤ j ∧ j < 60 ∧ ∃ u, e = .returned (.tuple #[u, .nilIface]) ∧ TreeG (fun b => N ≤ b ∧ b < w'.heap.size) w' (d + 2) (rowT (d + 1) (setL xs (zeroT d) j.toNat x)) u) ∨ ((j < 0 ∨ 60 ≤ j) ∧ ∃ why, e = .returned (.tuple #[.nilIface, faultV why])))

set_option maxRecDepth 100000 in
set_option maxHeartbeats 2000000 in
theorem setTree_any (d N : Nat) (S : Nat → Prop) (xs : List (Tr (d + 1))) (a : Option Addr) (cap : Nat) (vs : List Value) (x : Tr (d + 1)) (T : TypeId) (u' : Value) (j : Int) (w : World) (h : GTo N w (.slice a xs.length cap) xs vs) (hx : TreeG S w (d + 1) x (.iface T u'))
    (hS : ∀ b, S b → Aside N w (.slice a xs.length cap) b) (hN : N ≤ w.heap.size) (hl : xs.length ≤ 60) :
    Calls Tryz.prog 120 #[.slice a xs.length cap, .int .i64 j, .iface T u'] w (SetQ d N xs j x w) := by
  by_cases hj0 : j < 0
  · clear h hx hS
    go_enter Tryz.func120, Tryz.ntmps120
    go_wp2_with fail
    go_ret2
    exact ⟨Below.refl _ _, Or.inr ⟨Or.inl hj0, _, rfl⟩⟩
  by_cases hj1 : 60 ≤ j
  · clear h hx hS
    go_enter Tryz.func120, Tryz.ntmps120
    go_wp2_with fail
    go_ret2
    exact ⟨Below.refl _ _, Or.inr ⟨Or.inr hj1, _, rfl⟩⟩
  obtain ⟨k, rfl⟩ : ∃ k : Nat, j = (k : Int) := ⟨j.toNat, by omega⟩
  have hk60 : k < 60 := by omega
  go_enter Tryz.func120, Tryz.ntmps120
  go_wp2_with fail
  obtain ⟨i0, hi, hz0, hz1, hz2⟩ := info_parts Tryz.infoTree
  go_loopw [0] (fun sv wr => ∃ (m : Nat) (ra : Option Addr) (rc : Nat) (vs : List Value), sv = .slice ra (xs.length + m) rc ∧ xs.length + m ≤ max xs.length (k + 1) ∧ Hid (GTo N wr sv (xs ++ List.replicate m (zeroT d)) vs) ∧ Hid (Below N w wr) ∧ Hid (TreeG S wr (d + 1) x (.iface T u')) ∧ Hid (∀ b, S b → Aside N wr sv b)) (fun sv _ => k + 1 - (match sv with | .slice _ n _ => n | _ => 0))
  case atStart =>
    refine ⟨0, a, cap, vs, rfl, by omega, ?_, Below.refl _ _, hx, hS⟩
    show GTo N w _ (xs ++ List.replicate 0 (zeroT d)) vs
    rw [List.replicate_zero, List.append_nil]
    exact h
  case round =>
    clear h hx hS
    obtain ⟨m, ra, rc, ws, rfl, hm, hto, hbl, hxx, hSS⟩ := hrel
    have hlen : (xs ++ List.replicate m (zeroT d)).length = xs.length + m := by rw [List.length_append, List.length_replicate]
    have hown := hto.out.1
    rw [hlen] at hown
    have hsz := hbl.out.size
    by_cases hgo : xs.length + m ≤ k
    · have hgi : ((xs.length + m : Nat) : Int) ≤ (k : Int) := by omega
      have HO := hide (hown.alloc (.cells #[.iface 91 (.agg #[.int .i64 0])] 70))
      have hstep : Hid (∀ sv' w2, w2.ownsRow N 70 1 sv' (xs.length + m + 1) (ws ++ [.iface 91 (.agg #[.int .i64 0])]) → (wr.alloc (.cells #[.iface 91 (.agg #[.int .i64 0])] 70)).grownBy w2 (Value.slice ra (xs.length + m) rc).ownBlock →
          (sv'.ownBlock = (Value.slice ra (xs.length + m) rc).ownBlock ∨ sv'.ownBlock = some (wr.alloc (.cells #[.iface 91 (.agg #[.int .i64 0])] 70)).heap.size) →
          ∃ a' c' , sv' = .slice a' (xs.length + (m + 1)) c' ∧ GTo N w2 sv' (xs ++ List.replicate (m + 1) (zeroT d)) (ws ++ [.iface 91 (.agg #[.int .i64 0])]) ∧ Below N w w2 ∧ TreeG S w2 (d + 1) x (.iface T u') ∧ (∀ b, S b → Aside N w2 sv' b)) := by
        intro sv' w2 o1 o2 o3
        have hz : (wr.alloc (.cells #[.iface 91 (.agg #[.int .i64 0])] 70)).heap.size = wr.heap.size + 1 := by simp
        have hs2 := o2.size
        have hshape : ∃ a' c', sv' = .slice a' (xs.length + (m + 1)) c' := by
          rcases o1.2 with ⟨_, h0⟩ | ⟨g, cap, cur, hv, _⟩
          · omega
          · exact ⟨_, _, hv⟩
        obtain ⟨a', c', rfl⟩ := hshape
        have hown' : w2.ownsRow N 70 1 (.slice a' (xs.length + (m + 1)) c') ((xs ++ List.replicate m (zeroT d)).length + 1) (ws ++ [.iface 91 (.agg #[.int .i64 0])]) := by rw [hlen]; exact o1
        have hg := hto.out.step (x := zeroT d) (bareTree_at d _ _) hown' o2 o3
        rw [← padL_step] at hg
        have hblk : ∀ b, b < wr.heap.size → some b ≠ (Value.slice ra (xs.length + m) rc).ownBlock → w2.heap[b]? = wr.heap[b]? := fun b hb1 hb2 => (o2.block b (by omega) hb2).trans (Below.heap_alloc _ _ _ hb1)
        have hbl2 := hbl.out
        refine ⟨a', c', rfl, hg, ⟨o2.os.trans hbl2.os, o2.tape.trans hbl2.tape, o2.output.trans hbl2.output, by omega, fun b hb => ?_⟩, ?_, ?_⟩
        · exact (hblk b (by omega) (fun e => by have := (hown.lt b e.symm).1; omega)).trans (hbl2.block b hb)
        · exact hxx.out.same (fun b hb => hblk b (hSS.out b hb).2.1 (hSS.out b hb).2.2)
        · intro b hb
          obtain ⟨q1, q2, q3⟩ := hSS.out b hb
          refine ⟨q1, by omega, ?_⟩
          rcases o3 with e | e
          · rw [e]; exact q3
          · rw [e]; intro e2; cases e2; omega
      clear hto hown hxx hSS hbl
      go_wp2_with (at_builtin; refine wpList_append_own_at _ rfl _ _ 92 rfl N 70 i0 .nilIface 1 16 Tryz.underlying92 hi hz0 hz1 hz2 rfl (by decide) _ _ _ rfl HO.out ⟨wr.heap.size, 0, none⟩ 1 1 [.iface 91 (.agg #[.int .i64 0])] rfl rfl (cell_one_new _ _ _) ?c2 ?c3 ?c4 ?c5 ?_)
      case c2 => intro y hy; simp at hy; subst hy; rfl
      case c3 => unfold maxLen; omega
      case c4 => omega
      case c5 => simp; omega
      · intro sv' w2 o1 o2 _ o3
        have HH := hide (hstep.out sv' w2 o1 o2 (by rw [World.size_alloc]; exact o3))
        clear o1 o2 o3 hstep HO
        obtain ⟨a', c', rfl, _⟩ := HH.out
        go_wp2_with fail
        go_roundw
        case rel =>
          obtain ⟨_, _, _, r1, r2, r3, r4⟩ := HH.out
          exact ⟨m + 1, a', c', _, rfl, by omega, r1, r2, r3, r4⟩
        case measure => show k + 1 - (xs.length + (m + 1)) < k + 1 - (xs.length + m); omega
    · have hgi : ¬ ((xs.length + m : Nat) : Int) ≤ (k : Int) := by omega
      have hki : (k : Int) < ((xs.length + m : Nat) : Int) := by omega
      obtain ⟨g, rfl⟩ : ∃ g, ra = some ⟨g, 0, none⟩ := by
        rcases hown.2 with ⟨_, h0⟩ | ⟨g, cap, cur, hv, _⟩
        · omega
        · exact ⟨g, by cases hv; rfl⟩
      have hwl : ws.length = xs.length + m := by have := hown.1; omega
      have hce := hown.cellAt k (by omega)
      rw [List.getElem?_eq_getElem (by omega)] at hce
      have hfr := hown.frozenAt k
      have hm' := hide (show m = k + 1 - xs.length by omega)
      have hput := hto.out.put (k := k) (x := x) (u := .iface T u') (S := S) hlen.symm (by rw [hlen]; omega) hxx.out (fun b hb => ⟨(hSS.out b hb).1, (hSS.out b hb).2.1, fun e => (hSS.out b hb).2.2 (by rw [e]; rfl)⟩)
      have HG : Hid (GTo N (wr.setCell ⟨g, k, none⟩ (.iface T u')) (.slice (some ⟨g, 0, none⟩) (xs.length + m) rc) (setL xs (zeroT d) k x) (ws.set k (.iface T u'))) := by
        show GTo _ _ _ _ _
        unfold setL padL
        rw [← hm'.out]
        exact hput.1
      have HB := hide (Below.trans hbl.out hput.2)
      have hsl := setL_length xs (zeroT d) k x
      clear hto hown hxx hSS hbl hput
      go_wp2_with fail
      go_ret2
      refine ⟨HB.out, Or.inl ⟨by omega, by omega, _, rfl, ?_⟩⟩
      rw [Int.toNat_natCast]
      exact Or.inr (Or.inr (Or.inr (Or.inl ⟨_, _, by omega, rfl, rfl, HG.out.row (by omega)⟩)))
end Go.Proofs.YtmibjmipndffmaaGreatDoor

/- PartSet of the program. -/
namespace Go.Proofs.YtmibjmipndffmaaGreatDoor
open Go.RowKit Go.Deep

theorem rowL_some {d : Nat} {t : Tr (d + 1)} {xs : List (Tr d)} (h : rowL d t = some xs) : okT (d + 1) t = true ∧ xs.length ≤ 60 ∧ ∀ x ∈ xs, okT d x = true := by
  unfold rowL at h
  split at h
  · rename_i hok
    split at h
    · cases h
      exact ⟨hok, by show (0 : Nat) ≤ 60; omega, fun x hx => by cases hx⟩
    · split at h
      · cases h
        exact ⟨hok, (okT_kinds hok).2.1, fun x hx => okT_part hok hx⟩
      · cases h
  · cases h
theorem partSet_none {d : Nat} {t : Tr (d + 2)} {i : Int} {x : Tr (d + 1)} (h : rowL (d + 1) t = none) : partSetT d t i x = (zeroT (d + 1), false) := by
  unfold partSetT
  rw [h]
theorem partSet_bad {d : Nat} {t : Tr (d + 2)} {i : Int} {x : Tr (d + 1)} {xs : List (Tr (d + 1))} (h : rowL (d + 1) t = some xs) (hx : okT (d + 1) x = false) : partSetT d t i x = (zeroT (d + 1), false) := by
  unfold partSetT
  rw [h]
  show (if _ then _ else _) = _
  rw [if_neg (by rw [hx]; simp)]
theorem partSet_out {d : Nat} {t : Tr (d + 2)} {i j : Int} {x : Tr (d + 1)} {xs : List (Tr (d + 1))} (h : rowL (d + 1) t = some xs) (hj : j = if i < 0 then i + (xs.length : Int) else i) (ho : j < 0 ∨ 60 ≤ j) : partSetT d t i x = (zeroT (d + 1), false) := by
  have hl := (rowL_some h).2.1
  unfold partSetT
  rw [h]
  show (if _ then _ else _) = _
  rw [if_neg (by rintro ⟨_, h1, h2⟩; split at hj <;> omega)]
theorem partSet_in {d : Nat} {t : Tr (d + 2)} {i j : Int} {x : Tr (d + 1)} {xs : List (Tr (d + 1))} (h : rowL (d + 1) t = some xs) (hx : okT (d + 1) x = true) (hj : j = if i < 0 then i + (xs.length : Int) else i) (h0 : 0 ≤ j) (h1 : j < 60) :
    partSetT d t i x = (toldT (d + 1) (rowT (d + 1) (setL xs (zeroT d) j.toNat x)), okT (d + 2) (rowT (d + 1) (setL xs (zeroT d) j.toNat x))) := by
  have hl := (rowL_some h).2.1
  unfold partSetT
  rw [h]
  show (if _ then _ else _) = _
  rw [if_pos ⟨hx, by split at hj <;> omega, by split at hj <;> omega⟩, ← hj]

theorem ErrType.of_block0 {w w' : World} (h : ErrType w) (e : w'.heap[0]? = w.heap[0]?) : ErrType w' := (World.cell?_of_block (w := w) e).trans h
theorem GTo.moved {d N : Nat} {w w' : World} {sv : Value} {xs : List (Tr d)} {vs : List Value} (h : GTo N w sv xs vs) (hb : Below w.heap.size w w') : GTo N w' sv xs vs := by
  obtain ⟨h1, h2⟩ := h
  have hz := hb.size
  refine ⟨⟨h1.1, ?_⟩, fun j x u hx hu => TreeG.moved (fun b hb' => hb.block b hb'.2.1) (fun b hb' => ⟨hb'.1, by have := hb'.2.1; omega, hb'.2.2⟩) d x u (h2 j x u hx hu)⟩
  rcases h1.2 with h | ⟨g, cap, cur, hv, hg, hh, hrest⟩
  · exact Or.inl h
  · exact Or.inr ⟨g, cap, cur, hv, hg, (hb.block g (Array.getElem?_eq_some_iff.1 hh).1).trans hh, hrest⟩

set_option maxRecDepth 100000 in
set_option maxHeartbeats 4000000 in
theorem implPartSet_any (d : Nat) (S : Nat → Prop) (t : Tr (d + 2)) (v : Value) (i : Int) (hi : I64 i) (S2 : Nat → Prop) (x : Tr (d + 1)) (xv : Value) (w : World) (hv : ValAt S w (d + 2) t v) (hS : Within S w) (hx : ValAt S2 w (d + 1) x xv) (hS2 : Within S2 w) (hg : ErrType w) :
    Calls Tryz.prog 93 #[v, .int .i64 i, xv] w (TellQ (d + 1) (partSetT d t i x).1 (partSetT d t i x).2 w) := by
  obtain ⟨k, n, s, ak, lk, ck, al, ll, cl, rfl⟩ := hv.shape
  obtain ⟨k', n', s', ak', lk', ck', al', ll', cl', rfl⟩ := hx.shape
  obtain ⟨k0, k1, k2, hW0, hsz0⟩ := laid3 w 26 26 26 (.int .i64 k) (.int .i64 n) (.string s) (.slice ak lk ck) (.slice al ll cl) (.int .i64 k') (.int .i64 n') (.string s') (.slice ak' lk' ck') (.slice al' ll' cl') (.int .i64 0) (.int .i64 0) (.string { data := #[] }) (.slice none 0 0) (.slice none 0 0)
  obtain ⟨W0, hW⟩ : ∃ W0, W0 = ((w.alloc (.cells #[.int .i64 k, .int .i64 n, .string s, .slice ak lk ck, .slice al ll cl] 26)).alloc (.cells #[.int .i64 k', .int .i64 n', .string s', .slice ak' lk' ck', .slice al' ll' cl'] 26)).alloc (.cells #[.int .i64 0, .int .i64 0, .string { data := #[] }, .slice none 0 0, .slice none 0 0] 26) := ⟨_, rfl⟩
  rw [← hW] at k0 k1 k2 hW0 hsz0
  have HW := hide hW
  clear hW k0
  go_enter Tryz.func93, Tryz.ntmps93
  go_wp2_with fail
  rw [← HW.out]
  clear HW
  refine (partsInRow_own (d + 1) S t _ W0 (hv.same (hS.same hW0)) (hS.later hW0.size)).mono ?_
  rintro e w1 ⟨hb1, hq⟩
  have hB1 := below_trans hW0 hb1
  replace k1 := k1.below hb1
  replace k2 := k2.below hb1
  have hg1 := hg.below hB1
  have hs1 := hb1.size
  -- what is told, however it is
  have hfin : ∀ (w1' : World), Below W0.heap.size w1 w1' → ∀ (y : Tr (d + 2)) (ok : Bool), Hid (∀ e w2, TellQ (d + 1) y ok w1' e w2 → ∃ v0 v1 v2 v3 v4 v5 v6 v7 v8, e = .returned (.tuple #[.agg #[.int .i64 v0, .int .i64 v1, .string v2, .slice v3 v4 v5, .slice v6 v7 v8], .bool ok]) ∧
      Blk5 w2 (w.heap.size + 1 + 1) 26 (.int .i64 0) (.int .i64 0) (.string { data := #[] }) (.slice none 0 0) (.slice none 0 0) ∧
      ∀ wF, wF = set5 w2 (w.heap.size + 1 + 1) 0 (.int .i64 v0) (.int .i64 v1) (.string v2) (.slice v3 v4 v5) (.slice v6 v7 v8) → ValOwn wF (d + 2) (Fresh w wF) y (.agg #[.int .i64 v0, .int .i64 v1, .string v2, .slice v3 v4 v5, .slice v6 v7 v8]) ∧ Below w.heap.size w wF) := fun w1' hb' y ok => by
    intro e w2 ⟨v, he, hv, hb2⟩
    obtain ⟨v0, v1, v2, v3, v4, v5, v6, v7, v8, rfl⟩ := (ValOwn.at _ _ _ _ hv).shape
    have hbw : Below w.heap.size w w1' := hB1.trans (hb'.mono (by omega))
    have hk : Blk5 w1' (w.heap.size + 1 + 1) 26 (.int .i64 0) (.int .i64 0) (.string { data := #[] }) (.slice none 0 0) (.slice none 0 0) := k2.of_block (hb'.block _ (by omega))
    exact ⟨v0, v1, v2, v3, v4, v5, v6, v7, v8, he, hk.below hb2, tell_end hv (below_trans hbw hb2) (by omega) (by have := hb'.size; omega)⟩
  clear hv hW0 k2
  rcases hq with ⟨xs, xa, xc, vs, hrow, rfl, hgto⟩ | ⟨hrow, why, rfl⟩
  · obtain ⟨_, hx60, hxok⟩ := rowL_some hrow
    obtain ⟨j, hj⟩ : ∃ j : Int, j = if i < 0 then i + (xs.length : Int) else i := ⟨_, rfl⟩
    have HJ := hide hj
    obtain ⟨x0, x1, x2, x3, x4⟩ := k1.cell
    have HG := hide hgto
    have HROW := hide hrow
    clear hgto hj hrow
    go_wp2_with fail
    refine (given_any (d + 1) S2 x _ w1 (hx.same (hS2.same hB1)) (hS2.later hB1.size)).mono ?_
    rintro e w2 ⟨hb2, hq⟩
    have hgt2 := hide (HG.out.moved hb2)
    have hbN2 : Below W0.heap.size w1 w2 := hb2.mono hs1
    have hs2 := hb2.size
    have hg2 := hg1.below hb2
    clear x0 x1 x2 x3 x4
    rcases hq with ⟨hok, u, rfl, hu⟩ | ⟨hok, why, rfl⟩
    · obtain ⟨T, u', rfl⟩ := hu.iface
      have hAs : Hid (∀ b, Fresh w1 w2 b → Aside W0.heap.size w2 (.slice xa xs.length xc) b) := by
        intro b hb
        refine ⟨by have := hb.1; omega, hb.2, fun e => ?_⟩
        have := (HG.out.1.lt b e.symm).2
        have := hb.1
        omega
      have hcall := hide (setTree_any d W0.heap.size (Fresh w1 w2) xs xa xc vs x T u' j w2 hgt2.out hu hAs.out (by omega) hx60)
      clear hu hAs hgt2 HG hb2
      go_wp2_with fail
      refine (fromStart_any i xs.length hi hx60 w2).mono ?_
      rintro e w2' ⟨rfl, rfl⟩
      rw [← HJ.out]
      go_wp2_with fail
      refine Calls.mono hcall.out ?_
      rintro e w3 ⟨hb3, hq⟩
      have hbN3 := Below.trans hbN2 hb3
      clear hcall
      rcases hq with ⟨hj0, hj1, u3, rfl, hu3⟩ | ⟨hjo, why, rfl⟩
      · obtain ⟨T3, u3', rfl⟩ := hu3.iface
        have HR := hide (partSet_in HROW.out hok HJ.out hj0 hj1)
        have hcall := hide (told_tree (d + 1) _ _ _ w3 hu3 (fun b hb => hb.2))
        clear hu3 HROW HJ
        go_wp2_with fail
        refine Calls.mono hcall.out ?_
        intro e w4 hq
        obtain ⟨v0, v1, v2, v3, v4, v5, v6, v7, v8, rfl, k3, hF⟩ := (hfin w3 hbN3 _ _).out e w4 hq
        have HF := hide hF
        obtain ⟨y0, y1, y2, y3, y4⟩ := k3.cell
        have yf := k3.frozen
        clear hF hq hfin hcall k3
        go_wp2_with fail
        refine bodyPost_ret (v := .tuple #[.agg #[.int .i64 v0, .int .i64 v1, .string v2, .slice v3 v4 v5, .slice v6 v7 v8], .bool (okT (d + 2) (rowT (d + 1) (setL xs (zeroT d) j.toNat x)))]) (by simp [results, Tryz.results93, go_sem, y0, y1, y2, y3, y4]) rfl ⟨_, by rw [HR.out], by rw [HR.out]; exact (HF.out _ rfl).1, (HF.out _ rfl).2⟩
      · have HR := hide (partSet_out (x := x) HROW.out HJ.out hjo)
        have hcall := hide (told_fault (d + 1) .nilIface why w3 (hg2.of_block0 (hb3.block 0 (by have := hg.lt; omega))))
        unfold faultV
        clear HROW HJ
        go_wp2_with fail
        refine Calls.mono hcall.out ?_
        intro e w4 hq
        obtain ⟨v0, v1, v2, v3, v4, v5, v6, v7, v8, rfl, k3, hF⟩ := (hfin w3 hbN3 _ _).out e w4 hq
        have HF := hide hF
        obtain ⟨y0, y1, y2, y3, y4⟩ := k3.cell
        have yf := k3.frozen
        clear hF hq hfin hcall k3
        go_wp2_with fail
        refine bodyPost_ret (v := .tuple #[.agg #[.int .i64 v0, .int .i64 v1, .string v2, .slice v3 v4 v5, .slice v6 v7 v8], .bool false]) (by simp [results, Tryz.results93, go_sem, y0, y1, y2, y3, y4]) rfl ⟨_, by rw [HR.out], by rw [HR.out]; exact (HF.out _ rfl).1, (HF.out _ rfl).2⟩
    · have HR := hide (partSet_bad (i := i) HROW.out hok)
      have hcall := hide (told_fault (d + 1) .nilIface why w2 hg2)
      unfold faultV
      clear HROW HJ hgt2 HG
      go_wp2_with fail
      refine Calls.mono hcall.out ?_
      intro e w4 hq
      obtain ⟨v0, v1, v2, v3, v4, v5, v6, v7, v8, rfl, k3, hF⟩ := (hfin w2 hbN2 _ _).out e w4 hq
      have HF := hide hF
      obtain ⟨y0, y1, y2, y3, y4⟩ := k3.cell
      have yf := k3.frozen
      clear hF hq hfin hcall k3
      go_wp2_with fail
      refine bodyPost_ret (v := .tuple #[.agg #[.int .i64 v0, .int .i64 v1, .string v2, .slice v3 v4 v5, .slice v6 v7 v8], .bool false]) (by simp [results, Tryz.results93, go_sem, y0, y1, y2, y3, y4]) rfl ⟨_, by rw [HR.out], by rw [HR.out]; exact (HF.out _ rfl).1, (HF.out _ rfl).2⟩
  · have HR := hide (partSet_none (i := i) (x := x) hrow)
    have hcall := hide (told_fault (d + 1) .nilIface why w1 hg1)
    unfold faultV
    clear hrow k1
    go_wp2_with fail
    refine Calls.mono hcall.out ?_
    intro e w2 hq
    obtain ⟨v0, v1, v2, v3, v4, v5, v6, v7, v8, rfl, k3, hF⟩ := (hfin w1 (Below.refl _ _) _ _).out e w2 hq
    have HF := hide hF
    obtain ⟨y0, y1, y2, y3, y4⟩ := k3.cell
    have yf := k3.frozen
    clear hF hq hfin hcall k3
    go_wp2_with fail
    refine bodyPost_ret (v := .tuple #[.agg #[.int .i64 v0, .int .i64 v1, .string v2, .slice v3 v4 v5, .slice v6 v7 v8], .bool false]) (by simp [results, Tryz.results93, go_sem, y0, y1, y2, y3, y4]) rfl ⟨_, by rw [HR.out], by rw [HR.out]; exact (HF.out _ rfl).1, (HF.out _ rfl).2⟩
end Go.Proofs.YtmibjmipndffmaaGreatDoor

/- onWay.put of the program. -/
namespace Go.Proofs.YtmibjmipndffmaaGreatDoor
open Go.RowKit Go.Deep

set_option maxRecDepth 100000 in
set_option maxHeartbeats 4000000 in
theorem put_any (d : Nat) (S : Nat → Prop) (t : Tr (d + 2)) (p : Stp) (q0 q1 : Int) (q2 : ByteArray) (q3 : Option Addr) (q4 q5 : Nat) (q6 : Option Addr) (q7 q8 : Nat) (S2 : Nat → Prop) (x : Tr (d + 1)) (xv : Value) (w : World) (hv : ValAt S w (d + 2) t (.agg #[.int .i64 q0, .int .i64 q1, .string q2, .slice q3 q4 q5, .slice q6 q7 q8])) (hS : Within S w) (hp : StpFit p) (hx : ValAt S2 w (d + 1) x xv) (hS2 : Within S2 w) (hg : ErrType w) :
    Calls Tryz.prog 46 #[.agg #[.int .i64 q0, .int .i64 q1, .string q2, .slice q3 q4 q5, .slice q6 q7 q8, .bool p.map, .string p.key, .int .i64 p.place], xv] w (TellQ (d + 1) (backT d t p x).1 (backT d t p x).2 w) := by
  obtain ⟨c0, c1, c2, c3, c4, c5, c6, c7, c8, rfl⟩ := hx.shape
  cases hm : p.map with
  | true =>
    have HS := hide (backT_map (e := d) (t := t) (y := x) hm)
    obtain ⟨W0, hW⟩ : ∃ W0, W0 = (((w.alloc (.cells #[.int .i64 q0, .int .i64 q1, .string q2, .slice q3 q4 q5, .slice q6 q7 q8, .bool true, .string p.key, .int .i64 p.place] 76)).alloc (.cells #[.int .i64 c0, .int .i64 c1, .string c2, .slice c3 c4 c5, .slice c6 c7 c8] 26)).alloc (.cells #[.int .i64 0, .int .i64 0, .string { data := #[] }, .slice none 0 0, .slice none 0 0] 26)) := ⟨_, rfl⟩
    have hW0 : Below w.heap.size w W0 := by rw [hW]; exact below_trans (below_trans (below_alloc1 _ _) (below_alloc1 _ _)) (below_alloc1 _ _)
    have k2 : Blk5 W0 (w.heap.size + 1 + 1) 26 (.int .i64 0) (.int .i64 0) (.string { data := #[] }) (.slice none 0 0) (.slice none 0 0) := by
      have := Blk5.new ((w.alloc (.cells #[.int .i64 q0, .int .i64 q1, .string q2, .slice q3 q4 q5, .slice q6 q7 q8, .bool true, .string p.key, .int .i64 p.place] 76)).alloc (.cells #[.int .i64 c0, .int .i64 c1, .string c2, .slice c3 c4 c5, .slice c6 c7 c8] 26)) 26 (.int .i64 0) (.int .i64 0) (.string { data := #[] }) (.slice none 0 0) (.slice none 0 0)
      rw [World.size_alloc, World.size_alloc] at this
      rw [hW]
      exact this
    have hlt := k2.lt
    have HW := hide hW
    clear hW
    go_enter Tryz.func46, Tryz.ntmps46
    go_wp2_with fail
    rw [← HW.out]
    clear HW
    refine Calls.mono (implPartPut_any d S t _ p.key hp.1 S2 x _ W0 (hv.same (hS.same hW0)) (hS.later hW0.size) (hx.same (hS2.same hW0)) (hS2.later hW0.size) (hg.below hW0)) ?_
    rintro e w1 ⟨u, rfl, hu, hb1⟩
    obtain ⟨u0, u1, u2, u3, u4, u5, u6, u7, u8, rfl⟩ := (ValOwn.at _ _ _ _ hu).shape
    have HF := hide (tell_end hu (below_trans hW0 hb1) (show w.heap.size ≤ w.heap.size + 1 + 1 by omega) hlt)
    have k3 := k2.below hb1
    obtain ⟨y0, y1, y2, y3, y4⟩ := k3.cell
    have yf := k3.frozen
    clear k2 k3 hb1 hW0 hu hv hx
    go_wp2_with fail
    rw [HS.out]
    refine bodyPost_ret (v := .tuple #[.agg #[.int .i64 u0, .int .i64 u1, .string u2, .slice u3 u4 u5, .slice u6 u7 u8], .bool (partPutT d t p.key x).2]) (by simp [results, Tryz.results46, go_sem, y0, y1, y2, y3, y4]) rfl ⟨_, rfl, (HF.out _ rfl).1, (HF.out _ rfl).2⟩
  | false =>
    have HS := hide (backT_place (e := d) (t := t) (y := x) hm)
    obtain ⟨W0, hW⟩ : ∃ W0, W0 = (((w.alloc (.cells #[.int .i64 q0, .int .i64 q1, .string q2, .slice q3 q4 q5, .slice q6 q7 q8, .bool false, .string p.key, .int .i64 p.place] 76)).alloc (.cells #[.int .i64 c0, .int .i64 c1, .string c2, .slice c3 c4 c5, .slice c6 c7 c8] 26)).alloc (.cells #[.int .i64 0, .int .i64 0, .string { data := #[] }, .slice none 0 0, .slice none 0 0] 26)) := ⟨_, rfl⟩
    have hW0 : Below w.heap.size w W0 := by rw [hW]; exact below_trans (below_trans (below_alloc1 _ _) (below_alloc1 _ _)) (below_alloc1 _ _)
    have k2 : Blk5 W0 (w.heap.size + 1 + 1) 26 (.int .i64 0) (.int .i64 0) (.string { data := #[] }) (.slice none 0 0) (.slice none 0 0) := by
      have := Blk5.new ((w.alloc (.cells #[.int .i64 q0, .int .i64 q1, .string q2, .slice q3 q4 q5, .slice q6 q7 q8, .bool false, .string p.key, .int .i64 p.place] 76)).alloc (.cells #[.int .i64 c0, .int .i64 c1, .string c2, .slice c3 c4 c5, .slice c6 c7 c8] 26)) 26 (.int .i64 0) (.int .i64 0) (.string { data := #[] }) (.slice none 0 0) (.slice none 0 0)
      rw [World.size_alloc, World.size_alloc] at this
      rw [hW]
      exact this
    have hlt := k2.lt
    have HW := hide hW
    clear hW
    go_enter Tryz.func46, Tryz.ntmps46
    go_wp2_with fail
    rw [← HW.out]
    clear HW
    refine Calls.mono (implPartSet_any d S t _ p.place hp.2 S2 x _ W0 (hv.same (hS.same hW0)) (hS.later hW0.size) (hx.same (hS2.same hW0)) (hS2.later hW0.size) (hg.below hW0)) ?_
    rintro e w1 ⟨u, rfl, hu, hb1⟩
    obtain ⟨u0, u1, u2, u3, u4, u5, u6, u7, u8, rfl⟩ := (ValOwn.at _ _ _ _ hu).shape
    have HF := hide (tell_end hu (below_trans hW0 hb1) (show w.heap.size ≤ w.heap.size + 1 + 1 by omega) hlt)
    have k3 := k2.below hb1
    obtain ⟨y0, y1, y2, y3, y4⟩ := k3.cell
    have yf := k3.frozen
    clear k2 k3 hb1 hW0 hu hv hx
    go_wp2_with fail
    rw [HS.out]
    refine bodyPost_ret (v := .tuple #[.agg #[.int .i64 u0, .int .i64 u1, .string u2, .slice u3 u4 u5, .slice u6 u7 u8], .bool (partSetT d t p.place x).2]) (by simp [results, Tryz.results46, go_sem, y0, y1, y2, y3, y4]) rfl ⟨_, rfl, (HF.out _ rfl).1, (HF.out _ rfl).2⟩
end Go.Proofs.YtmibjmipndffmaaGreatDoor

/- What stands while l2Put of the model makes keys and trees. -/
namespace Go.Proofs.YtmibjmipndffmaaGreatDoor
open Go.RowKit Go.Deep

/-- What stands while keys and trees are put into a variable's lists. -/
structure P2At (d : Nat) (S : Nat → Prop) (N ob : Nat) (W wr : World) (ks : List ByteArray) (xs : List (Tr d)) (kv lv : Value) (vs : List Value) : Prop where
  out : Blk5 wr ob 26 (.int .i64 6) (.int .i64 0) (.string { data := #[] }) kv lv
  keys : wr.ownsRow N 9 1 kv ks.length (ks.map Value.string)
  row : VTo S N wr lv xs vs
  below : Below N W wr
  offk : kv.ownBlock ≠ some ob
  offl : lv.ownBlock ≠ some ob
  apart : ∀ g, kv.ownBlock = some g → lv.ownBlock ≠ some g
  ge : N ≤ ob

theorem ownsRow_block {N e size n : Nat} {w w' : World} {v : Value} {vs : List Value} (h : w.ownsRow N e size v n vs) (hb : ∀ g, v.ownBlock = some g → w'.heap[g]? = w.heap[g]?) : w'.ownsRow N e size v n vs := by
  refine ⟨h.1, ?_⟩
  rcases h.2 with h | ⟨g, cap, cur, hv, hg, hh, hrest⟩
  · exact Or.inl h
  · exact Or.inr ⟨g, cap, cur, hv, hg, (hb g (by rw [hv]; rfl)).trans hh, hrest⟩

theorem P2At.drew {d N ob : Nat} {S : Nat → Prop} {W wr : World} {ks : List ByteArray} {xs : List (Tr d)} {kv lv : Value} {vs : List Value} (h : P2At d S N ob W wr ks xs kv lv vs) : P2At d S N ob W wr.drew ks xs kv lv vs :=
  ⟨h.out, h.keys, h.row.moved (fun _ _ => rfl) (fun _ _ => rfl), ⟨h.below.os, h.below.tape, h.below.output, h.below.size, h.below.block⟩, h.offk, h.offl, h.apart, h.ge⟩

/-- One key more. -/
theorem P2At.pushK {d N ob : Nat} {S : Nat → Prop} {W wr w2 : World} {ks : List ByteArray} {xs : List (Tr d)} {kv lv kv' : Value} {vs : List Value} {s : ByteArray} {o : Obj} (h : P2At d S N ob W wr ks xs kv lv vs) (hS : ∀ b, S b → b < N)
    (hown : w2.ownsRow N 9 1 kv' (ks.length + 1) (ks.map Value.string ++ [.string s])) (hg : (wr.alloc o).grownBy w2 kv.ownBlock) (hw : kv'.ownBlock = kv.ownBlock ∨ kv'.ownBlock = some (wr.alloc o).heap.size) :
    Blk5 w2 ob 26 (.int .i64 6) (.int .i64 0) (.string { data := #[] }) kv lv ∧ P2At d S N ob W (w2.setCell ⟨ob, 3, none⟩ kv') (ks ++ [s]) xs kv' lv vs := by
  have hol := h.out.lt
  have hge := h.ge
  have hs2 := hg.size
  have hz : (wr.alloc o).heap.size = wr.heap.size + 1 := by simp
  rw [hz] at hw
  have hblk : ∀ b, b < wr.heap.size → some b ≠ kv.ownBlock → w2.heap[b]? = wr.heap[b]? := fun b hb1 hb2 => (hg.block b (by omega) hb2).trans (Below.heap_alloc _ _ _ hb1)
  have yb : Blk5 w2 ob 26 (.int .i64 6) (.int .i64 0) (.string { data := #[] }) kv lv := h.out.of_block (hblk ob hol (fun e => h.offk e.symm))
  have hoff : kv'.ownBlock ≠ some ob := by
    rcases hw with e | e
    · rw [e]; exact h.offk
    · rw [e]; intro e2; cases e2; omega
  have hlrow : ∀ g, lv.ownBlock = some g → w2.heap[g]? = wr.heap[g]? := fun g hg' => hblk g (h.row.1.lt g hg').2 (fun e => h.apart g e.symm hg')
  have hNk : ∀ g, kv.ownBlock = some g → N ≤ g := fun g hg' => (h.keys.lt g hg').1
  refine ⟨yb, yb.set3 _, ?_, ?_, ?_, hoff, h.offl, ?_, hge⟩
  · rw [List.length_append, List.map_append]
    exact ownsRow_block hown (fun g hg' => Below.heap_setCell _ _ _ _ (fun e => hoff (by rw [hg', e])))
  · have hNw : N ≤ wr.heap.size := by omega
    refine h.row.moved (fun b hb => ?_) (fun g hg' => ?_)
    · exact (Below.heap_setCell _ _ _ _ (by have := hS b hb; show b ≠ ob; omega)).trans (hblk b (by have := hS b hb; omega) (fun e => by have := hNk b e.symm; have := hS b hb; omega))
    · exact (Below.heap_setCell _ _ _ _ (fun e => h.offl (by rw [hg', e]))).trans (hlrow g hg')
  · have hb := h.below
    refine ⟨hg.os.trans hb.os, hg.tape.trans hb.tape, hg.output.trans hb.output, ?_, fun b hbN => ?_⟩
    · have := hb.size
      simp [World.setCell]
      omega
    · exact (Below.heap_setCell _ _ _ _ (by show b ≠ ob; omega)).trans ((hblk b (by omega) (fun e => by have := hNk b e.symm; omega)).trans (hb.block b hbN))
  · intro g hg' hl
    rcases hw with e | e
    · exact h.apart g (by rw [← e]; exact hg') hl
    · rw [hg'] at e
      cases e
      have := (h.row.1.lt _ hl).2
      omega

/-- One tree more. -/
theorem P2At.pushX {d N ob : Nat} {S : Nat → Prop} {W wr w2 : World} {ks : List ByteArray} {xs : List (Tr d)} {kv lv lv' : Value} {vs : List Value} {x : Tr d} {v0 v1 v2 v3 v4 : Value} {o : Obj} (h : P2At d S N ob W wr ks xs kv lv vs) (hS : ∀ b, S b → b < N) (hx : ValAt S wr d x (.agg #[v0, v1, v2, v3, v4]))
    (hown : w2.ownsRow N 26 5 lv' (xs.length + 1) (vs ++ [v0, v1, v2, v3, v4])) (hg : (wr.alloc o).grownBy w2 lv.ownBlock) (hw : lv'.ownBlock = lv.ownBlock ∨ lv'.ownBlock = some (wr.alloc o).heap.size) :
    Blk5 w2 ob 26 (.int .i64 6) (.int .i64 0) (.string { data := #[] }) kv lv ∧ P2At d S N ob W (w2.setCell ⟨ob, 4, none⟩ lv') ks (xs ++ [x]) kv lv' (vs ++ [v0, v1, v2, v3, v4]) := by
  have hol := h.out.lt
  have hge := h.ge
  have hs2 := hg.size
  have hz : (wr.alloc o).heap.size = wr.heap.size + 1 := by simp
  rw [hz] at hw
  have hblk : ∀ b, b < wr.heap.size → some b ≠ lv.ownBlock → w2.heap[b]? = wr.heap[b]? := fun b hb1 hb2 => (hg.block b (by omega) hb2).trans (Below.heap_alloc _ _ _ hb1)
  have yb : Blk5 w2 ob 26 (.int .i64 6) (.int .i64 0) (.string { data := #[] }) kv lv := h.out.of_block (hblk ob hol (fun e => h.offl e.symm))
  have hoff : lv'.ownBlock ≠ some ob := by
    rcases hw with e | e
    · rw [e]; exact h.offl
    · rw [e]; intro e2; cases e2; omega
  have hkrow : ∀ g, kv.ownBlock = some g → w2.heap[g]? = wr.heap[g]? := fun g hg' => hblk g (h.keys.lt g hg').2 (fun e => h.apart g hg' e.symm)
  have hNl : ∀ g, lv.ownBlock = some g → N ≤ g := fun g hg' => (h.row.1.lt g hg').1
  have hsame : Same S wr w2 := fun b hb => hblk b (by have := hS b hb; omega) (fun e => by have := hNl b e.symm; have := hS b hb; omega)
  refine ⟨yb, yb.set4 _, ?_, ?_, ?_, h.offk, hoff, ?_, hge⟩
  · exact ownsRow_block h.keys (fun g hg' => (Below.heap_setCell _ _ _ _ (fun e => h.offk (by rw [hg', e]))).trans (hkrow g hg'))
  · exact (h.row.grow hsame hx hown).moved (fun b hb => Below.heap_setCell _ _ _ _ (by have := hS b hb; show b ≠ ob; omega)) (fun g hg' => Below.heap_setCell _ _ _ _ (fun e => hoff (by rw [hg', e])))
  · have hb := h.below
    refine ⟨hg.os.trans hb.os, hg.tape.trans hb.tape, hg.output.trans hb.output, ?_, fun b hbN => ?_⟩
    · have := hb.size
      simp [World.setCell]
      omega
    · exact (Below.heap_setCell _ _ _ _ (by show b ≠ ob; omega)).trans ((hblk b (by omega) (fun e => by have := hNl b e.symm; omega)).trans (hb.block b hbN))
  · intro g hg' hl
    rcases hw with e | e
    · exact h.apart g hg' (by rw [← e]; exact hl)
    · rw [hl] at e
      cases e
      have := (h.keys.lt _ hg').2
      omega
end Go.Proofs.YtmibjmipndffmaaGreatDoor

/- What the loop of l2Put does, as a plain function. -/
namespace Go.Proofs.YtmibjmipndffmaaGreatDoor

/-- One round: whether x is in by then, and what there is. -/
def stepP {α : Type} (s : ByteArray) (x : α) (st : Bool × List (ByteArray × α)) (p : ByteArray × α) : Bool × List (ByteArray × α) :=
  ((st.1 || !ltB p.1 s), (if (!st.1 && !ltB p.1 s) = true then st.2 ++ [(s, x)] else st.2) ++ (if (p.1 == s) = true then [] else [p]))
/-- The end. -/
def endP {α : Type} (s : ByteArray) (x : α) (st : Bool × List (ByteArray × α)) : List (ByteArray × α) := if st.1 = true then st.2 else st.2 ++ [(s, x)]

theorem bytes_ne {a b : ByteArray} (h : a ≠ b) : (a == b) = false := by
  cases hb : (a == b)
  · rfl
  · exact absurd ((MapKept.bytes_beq a b).1 hb) h
theorem bytes_self (a : ByteArray) : (a == a) = true := (MapKept.bytes_beq a a).2 rfl

/-- Once x is in, the rest comes behind it. -/
theorem foldP_done {α : Type} {s : ByteArray} {x : α} : ∀ (ps acc : List (ByteArray × α)), (∀ p ∈ ps, p.1 ≠ s) → ps.foldl (stepP s x) (true, acc) = (true, acc ++ ps)
  | [], acc, _ => by simp
  | p :: r, acc, h => by
    have h1 : stepP s x (true, acc) p = (true, acc ++ [p]) := by
      simp [stepP, bytes_ne (h p (by simp))]
    rw [List.foldl_cons, h1, foldP_done r (acc ++ [p]) (fun q hq => h q (by simp [hq])), List.append_assoc]
    rfl
theorem keysGo_tail {p : Option ByteArray} {k : ByteArray} {ks : List ByteArray} (h : keysGo p (k :: ks) = true) : keysGo (some k) ks = true := by
  cases p with
  | none => simp only [keysGo, Bool.and_eq_true] at h; exact h.2
  | some q => simp only [keysGo, Bool.and_eq_true] at h; exact h.2.2
theorem zip_key {α : Type} {ks : List ByteArray} {ys : List α} {p : ByteArray × α} (h : p ∈ ks.zip ys) : p.1 ∈ ks := (List.of_mem_zip (show (p.1, p.2) ∈ ks.zip ys from h)).1

/-- All rounds and the end: the keys and trees with x at s. -/
theorem foldP_put {α : Type} {s : ByteArray} {x : α} : ∀ {ks : List ByteArray} {xs : List α} {p : Option ByteArray} (acc : List (ByteArray × α)), ks.length = xs.length → keysGo p ks = true → endP s x ((ks.zip xs).foldl (stepP s x) (false, acc)) = acc ++ putL ks xs s x
  | [], [], _, acc, _, _ => by rw [putL]; rfl
  | [], _ :: _, _, _, h, _ => by simp at h
  | _ :: _, [], _, _, h, _ => by simp at h
  | k :: ks, y :: ys, p, acc, h, hk => by
    have hlen : ks.length = ys.length := by simpa using h
    have hgo := keysGo_tail hk
    have hall := keysGo_all ks k hgo
    rw [zip_cons, List.foldl_cons, putL]
    cases hlt : ltB k s with
    | true =>
      have hne := bytes_ne (ltB_ne hlt)
      have h1 : stepP s x (false, acc) (k, y) = (false, acc ++ [(k, y)]) := by simp [stepP, hlt, hne]
      rw [h1, foldP_put (acc ++ [(k, y)]) hlen hgo, List.append_assoc]
      rfl
    | false =>
      rw [if_neg (by simp)]
      cases he : (k == s) with
      | true =>
        have hks := (MapKept.bytes_beq k s).1 he
        have h1 : stepP s x (false, acc) (k, y) = (true, acc ++ [(s, x)]) := by simp [stepP, hlt, he]
        rw [h1, foldP_done (ks.zip ys) (acc ++ [(s, x)]) (fun q hq e => ltB_ne (hall q.1 (zip_key hq)) (by rw [hks, e]))]
        simp [endP]
      | false =>
        have hsk : ltB s k = true := ltB_total hlt he
        have h1 : stepP s x (false, acc) (k, y) = (true, acc ++ [(s, x)] ++ [(k, y)]) := by simp [stepP, hlt, he]
        rw [h1, foldP_done (ks.zip ys) (acc ++ [(s, x)] ++ [(k, y)]) (fun q hq e => ltB_ne (bytesLess_trans _ _ _ hsk (hall q.1 (zip_key hq))) e.symm)]
        simp [endP]
/-- What there is when k keys were looked at. -/
def putAt {α : Type} (s : ByteArray) (x : α) (ps : List (ByteArray × α)) (k : Nat) : Bool × List (ByteArray × α) := (ps.take k).foldl (stepP s x) (false, [])
theorem putAt_step {α : Type} {s : ByteArray} {x : α} {ps : List (ByteArray × α)} {k : Nat} {p : ByteArray × α} (h : ps[k]? = some p) : putAt s x ps (k + 1) = stepP s x (putAt s x ps k) p := by
  obtain ⟨hk, e⟩ := List.getElem?_eq_some_iff.1 h
  unfold putAt
  rw [List.take_succ_eq_append_getElem hk, List.foldl_append, e]
  rfl
theorem putAt_len {α : Type} {s : ByteArray} {x : α} {ps : List (ByteArray × α)} : ∀ k, (putAt s x ps k).2.length ≤ 2 * k
  | 0 => by simp [putAt]
  | k + 1 => by
    have ih := putAt_len (s := s) (x := x) (ps := ps) k
    cases h : ps[k]? with
    | none =>
      have hk : ps.length ≤ k := by simpa using h
      have : putAt s x ps (k + 1) = putAt s x ps k := by
        unfold putAt
        rw [List.take_of_length_le hk, List.take_of_length_le (by omega)]
      rw [this]
      omega
    | some p =>
      rw [putAt_step h]
      unfold stepP
      simp only [List.length_append]
      have h1 : (if (p.1 == s) = true then ([] : List (ByteArray × α)) else [p]).length ≤ 1 := by split <;> simp
      have h2 : (if (!(putAt s x ps k).1 && !ltB p.1 s) = true then (putAt s x ps k).2 ++ [(s, x)] else (putAt s x ps k).2).length ≤ (putAt s x ps k).2.length + 1 := by split <;> simp
      omega
end Go.Proofs.YtmibjmipndffmaaGreatDoor
