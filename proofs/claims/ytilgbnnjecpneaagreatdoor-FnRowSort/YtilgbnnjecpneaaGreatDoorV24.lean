/- Texts of the proof, put together by program: WTrees, WRowP, WRowS, WKbP, WAddM, ShelfG, WRowO, WFlatP, WFlatQ. -/
import Derived.Test.YtilgbnnjecpneaaGreatDoorV21
import Derived.Test.YtilgbnnjecpneaaGreatDoorV12
import Derived.Test.YtilgbnnjecpneaaGreatDoorV22
import Derived.Test.YtilgbnnjecpneaaGreatDoorV23
import Derived.Test.YtilgbnnjecpneaaGreatDoorV10
import Derived.Shelf.Spec.SlicesGrow
import Derived.Test.YtilgbnnjecpneaaGreatDoorProg
/- treesInRow: the trees of a row, in memory of their own. -/
namespace Go.Proofs.YtilgbnnjecpneaaGreatDoor
open Go.RowKit Go.Deep

/-- The trees of a row that is ok. -/
def treesL (d : Nat) (t : Tr (d + 1)) : Option (List (Tr d)) := if okT (d + 1) t = true then (if Nd.kind t = 5 then some (Nd.list t) else none) else none
theorem treesL_ok {d : Nat} {t : Tr (d + 1)} (h : okT (d + 1) t = true) : treesL d t = (if Nd.kind t = 5 then some (Nd.list t) else none) := if_pos h
theorem treesL_some {d : Nat} {t : Tr (d + 1)} {xs : List (Tr d)} (h : treesL d t = some xs) : okT (d + 1) t = true ∧ Nd.kind t = 5 ∧ Nd.list t = xs := by
  unfold treesL at h
  split at h
  · split at h
    · exact ⟨‹_›, ‹_›, by cases h; rfl⟩
    · cases h
  · cases h

/-- What treesInRow is asked to give. -/
def TreesOQ (d : Nat) (t : Tr (d + 1)) (w : World) (e : Ending) (w' : World) : Prop :=
  Below w.heap.size w w' ∧ ((∃ xs a cap vs, treesL d t = some xs ∧ e = .returned (.tuple #[.slice a xs.length cap, .nilIface]) ∧ GTo w.heap.size w' (.slice a xs.length cap) xs vs) ∨ (treesL d t = none ∧ ∃ why, e = .returned (.tuple #[.slice none 0 0, faultV why])))

set_option maxRecDepth 100000 in
set_option maxHeartbeats 4000000 in
theorem treesInRow_own (d : Nat) (S : Nat → Prop) (t : Tr (d + 1)) (v : Value) (w : World) (hv : ValAt S w (d + 1) t v) (hS : Within S w) :
    Calls Tryz.prog 62 #[v] w (TreesOQ d t w) := by
  obtain ⟨k, n, s, ak, lk, ck, al, ll, cl, rfl⟩ := hv.shape
  have hA := below_alloc1 w (.cells #[.int .i64 k, .int .i64 n, .string s, .slice ak lk ck, .slice al ll cl] 29)
  have hAs := hA.size
  go_enter Tryz.func62, Tryz.ntmps62
  go_wp2_with fail
  refine (given_own d S t _ _ (hv.same (hS.same hA)) (hS.later hA.size)).mono ?_
  rintro e w1 ⟨hb1, hq⟩
  have hB := below_trans hA hb1
  clear hb1 hA hv
  rcases hq with ⟨hok, u, rfl, hu, htop⟩ | ⟨hok, why, rfl⟩
  · rcases hu with ⟨k', h1, rfl, rfl⟩ | ⟨n', h1, rfl, rfl⟩ | ⟨s', h1, rfl, rfl⟩ | ⟨xs, sv, h1, rfl, rfl, hr⟩ | ⟨keys, xs, ps, r, es, h1, h2, h3, h4, rfl, rfl, hr, hm, he⟩
    · have a3 := Tryz.asR_B
      have hq : Hid (treesL d (Nd.mk k' 0 ByteArray.empty [] [] : Nd (Tr d)) = none) := by
        refine (treesL_ok hok).trans ?_
        show (if k' = 5 then _ else _) = _
        rw [if_neg (by omega)]
      have HB := hide hB
      clear hB htop
      go_wp2_with fail
      go_ret2
      exact ⟨below_trans HB.out (below_alloc1 _ _), Or.inr ⟨hq.out, _, rfl⟩⟩
    · have a3 := Tryz.asR_N
      have hq : Hid (treesL d (Nd.mk 3 n' ByteArray.empty [] [] : Nd (Tr d)) = none) := by
        exact (treesL_ok hok).trans rfl
      have HB := hide hB
      clear hB htop
      go_wp2_with fail
      go_ret2
      exact ⟨below_trans HB.out (below_alloc1 _ _), Or.inr ⟨hq.out, _, rfl⟩⟩
    · have a3 := Tryz.asR_S
      have hq : Hid (treesL d (Nd.mk 4 0 s' [] [] : Nd (Tr d)) = none) := by
        exact (treesL_ok hok).trans rfl
      have HB := hide hB
      clear hB htop
      go_wp2_with fail
      go_ret2
      exact ⟨below_trans HB.out (below_alloc1 _ _), Or.inr ⟨hq.out, _, rfl⟩⟩
    · have a3 := Tryz.asR_R
      obtain ⟨sa, sc, rfl, _⟩ := hr.open'
      have hq : Hid (treesL d (Nd.mk 5 0 ByteArray.empty [] xs : Nd (Tr d)) = some xs) := by
        exact (treesL_ok hok).trans rfl
      have hA2 := below_alloc1 w1 (.cells #[.slice sa xs.length sc] 80)
      have HB2 := hide (below_trans hB hA2)
      have hsz := hA2.size
      have HR : Hid (∃ vs, GTo w.heap.size (w1.alloc (.cells #[.slice sa xs.length sc] 80)) (.slice sa xs.length sc) xs vs) := by
        obtain ⟨sv', vs, he, hto⟩ := htop.1 rfl
        cases he
        exact ⟨vs, (gto_of (hto.moved hA2 (by omega)) (okT_row hok))⟩
      clear hB hA2 hr htop
      go_wp2_with fail
      go_ret2
      obtain ⟨vs, hvs⟩ := HR.out
      exact ⟨HB2.out, Or.inl ⟨xs, sa, sc, vs, hq.out, rfl, hvs⟩⟩
    · have a3 := Tryz.asR_M
      have hq : Hid (treesL d (Nd.mk 6 0 ByteArray.empty keys xs : Nd (Tr d)) = none) := by
        exact (treesL_ok hok).trans rfl
      have HB := hide hB
      clear hB htop he hm hr h4 h3 h2
      go_wp2_with fail
      go_ret2
      exact ⟨below_trans HB.out (below_alloc1 _ _), Or.inr ⟨hq.out, _, rfl⟩⟩
  · unfold faultV
    go_wp2_with fail
    go_ret2
    refine ⟨hB, Or.inr ⟨?_, why, rfl⟩⟩
    rw [treesL, if_neg (by rw [hok]; simp)]

end Go.Proofs.YtilgbnnjecpneaaGreatDoor

/- Rows of trees: what is told of the trees of a row. -/
namespace Go.Proofs.YtilgbnnjecpneaaGreatDoor
open Go.RowKit Go.Deep

/-- What is told of a row, f being what is told of its trees. -/
def rowTell {d e : Nat} (f : List (Tr d) → Option (Tr (e + 1))) (t : Tr (d + 1)) : Tr (e + 1) × Bool :=
  match treesL d t with
  | none => (zeroT e, false)
  | some xs =>
    match f xs with
    | none => (zeroT e, false)
    | some x => (toldT e x, okT (e + 1) x)
theorem okT_rowTell {d e : Nat} (f : List (Tr d) → Option (Tr (e + 1))) (t : Tr (d + 1)) : okT (e + 1) (rowTell f t).1 = true := by
  unfold rowTell
  split
  · exact okT_zero _
  · split
    · exact okT_zero _
    · exact okT_told _ _
theorem rowTell_none {d e : Nat} {f : List (Tr d) → Option (Tr (e + 1))} {t : Tr (d + 1)} (h : treesL d t = none) : rowTell f t = (zeroT e, false) := by
  unfold rowTell
  rw [h]
theorem rowTell_fault {d e : Nat} {f : List (Tr d) → Option (Tr (e + 1))} {t : Tr (d + 1)} {xs : List (Tr d)} (h : treesL d t = some xs) (hf : f xs = none) : rowTell f t = (zeroT e, false) := by
  unfold rowTell
  rw [h]
  show (match f xs with | none => _ | some x => _) = _
  rw [hf]
theorem rowTell_some {d e : Nat} {f : List (Tr d) → Option (Tr (e + 1))} {t : Tr (d + 1)} {xs : List (Tr d)} {x : Tr (e + 1)} (h : treesL d t = some xs) (hf : f xs = some x) : rowTell f t = (toldT e x, okT (e + 1) x) := by
  unfold rowTell
  rw [h]
  show (match f xs with | none => _ | some x => _) = _
  rw [hf]
/-- Rows of trees that are ok are small. -/
theorem nodes_row {d : Nat} {xs : List (Tr d)} (hxs : ∀ x ∈ xs, okT d x = true) (hl : xs.length ≤ 10000) : (nodes (d + 1) (rowT d xs) : Int) ≤ 4194304 := by
  have h1 : (xs.map (nodes d)).sum ≤ 300 * xs.length := sum_le_of (fun x hx => nodes_ok (hxs x hx))
  have h2 : nodes (d + 1) (rowT d xs) = 1 + (xs.map (nodes d)).sum := rfl
  rw [h2]
  omega
/-- What a function that tells of the trees of a row is asked to give. -/
def TellF (e N : Nat) (r : Option (Tr (e + 1))) (w : World) (en : Ending) (w' : World) : Prop :=
  Below N w w' ∧ ((∃ x u, r = some x ∧ en = .returned (.tuple #[u, .nilIface]) ∧ TreeG (fun b => N ≤ b ∧ b < w'.heap.size) w' (e + 1) x u) ∨ (r = none ∧ ∃ why, en = .returned (.tuple #[.nilIface, faultV why])))

end Go.Proofs.YtilgbnnjecpneaaGreatDoor

/- Rows of the model: l4Row, l4Of. -/
namespace Go.Proofs.YtilgbnnjecpneaaGreatDoor
open Go.RowKit Go.Deep

theorem treesL_isSome {d : Nat} (t : Tr (d + 1)) : (treesL d t).isSome = (okT (d + 1) t && (Nd.kind t == 5)) := by
  unfold treesL
  cases okT (d + 1) t with
  | false => rfl
  | true =>
    rw [if_pos rfl]
    by_cases h : Nd.kind t = 5
    · rw [if_pos h]; simp [h]
    · rw [if_neg h]; simp [h]

set_option maxRecDepth 100000 in
set_option maxHeartbeats 1000000 in
theorem l4Row_any (d : Nat) (S : Nat → Prop) (t : Tr (d + 1)) (v : Value) (w : World) (hv : ValAt S w (d + 1) t v) (hS : Within S w) (hsm : (nodes (d + 1) t : Int) ≤ 4194304) :
    Calls Tryz.prog 32 #[v] w fun e w' => e = .returned (.bool (treesL d t).isSome) ∧ Below w.heap.size w w' := by
  rw [treesL_isSome]
  have hv0 := hv
  obtain ⟨vk, vl, rfl, i1, i2, i3, hk, hl⟩ := hv
  obtain ⟨ak, ck, rfl, hkl⟩ := hk.open'
  obtain ⟨al, cl, rfl, hll⟩ := hl.open'
  have hA := below_alloc1 w (.cells #[.int .i64 t.kind, .int .i64 t.num, .string t.str, .slice ak t.keys.length ck, .slice al t.list.length cl] 29)
  have k0 := Blk5.new w 29 (.int .i64 t.kind) (.int .i64 t.num) (.string t.str) (.slice ak t.keys.length ck) (.slice al t.list.length cl)
  go_enter Tryz.func32, Tryz.ntmps32
  go_wp2_with fail
  refine (specValOk_any (d + 1) S t _ _ (hv0.same (hS.same hA)) (hS.later hA.size) hsm).mono ?_
  rintro e w1 ⟨rfl, hb1⟩
  replace k0 := k0.below hb1
  have HB := hide (below_trans hA hb1)
  obtain ⟨x0, x1, x2, x3, x4⟩ := k0.cell
  clear hb1 hA hv0 hk hl k0
  cases hf : okT (d + 1) t with
  | false =>
    go_wp2_with fail
    go_ret
    exact ⟨by rw [hf]; rfl, HB.out⟩
  | true =>
    go_wp2_with fail
    go_ret
    exact ⟨by rw [hf]; rfl, HB.out⟩

/-- A row's value is a slice of just so many. -/
theorem VTo.slice {d N : Nat} {S : Nat → Prop} {w : World} {lv : Value} {xs : List (Tr d)} {vs : List Value} (h : VTo S N w lv xs vs) : ∃ a c, lv = .slice a xs.length c := by
  rcases h.1.2 with ⟨rfl, h0⟩ | ⟨g, cap, cur, rfl, _⟩
  · exact ⟨none, 0, by rw [h0]⟩
  · exact ⟨_, _, rfl⟩
/-- A row of nothing, as it is made. -/
theorem VTo.start {d : Nat} (S : Nat → Prop) (w : World) : VTo (d := d) S w.heap.size (w.alloc (.cells #[] 29)) (.slice (some ⟨w.heap.size, 0, none⟩) 0 0) [] [] :=
  ⟨⟨rfl, Or.inr ⟨w.heap.size, 0, #[], rfl, Nat.le_refl _, heap_alloc_new w _, Nat.le_refl _, Nat.zero_le _, rfl, rfl⟩⟩, fun j x h => by simp at h⟩
/-- One tree more, from elsewhere. -/
theorem VTo.push {d N : Nat} {S : Nat → Prop} {w1 wr w2 : World} {lv lv' : Value} {xs : List (Tr d)} {vs : List Value} {x : Tr d} {v0 v1 v2 v3 v4 : Value} {o : Obj} (h : VTo S N wr lv xs vs) (hS : ∀ b, S b → b < N) (hN : N ≤ wr.heap.size) (hb : Below N w1 wr) (hx : ValAt S wr d x (.agg #[v0, v1, v2, v3, v4]))
    (hown : w2.ownsRow N 29 5 lv' (xs.length + 1) (vs ++ [v0, v1, v2, v3, v4])) (hg : (wr.alloc o).grownBy w2 lv.ownBlock) : VTo S N w2 lv' (xs ++ [x]) (vs ++ [v0, v1, v2, v3, v4]) ∧ Below N w1 w2 ∧ N ≤ w2.heap.size := by
  have hz : (wr.alloc o).heap.size = wr.heap.size + 1 := by simp
  have hs2 := hg.size
  have hrow : ∀ g, lv.ownBlock = some g → N ≤ g := fun g hg' => (h.1.lt g hg').1
  have hblk : ∀ b, b < N → w2.heap[b]? = wr.heap[b]? := fun b hb' => (hg.block b (by omega) (fun e => by have := hrow b e.symm; omega)).trans (Below.heap_alloc _ _ _ (by omega))
  refine ⟨h.grow (fun b hb' => hblk b (hS b hb')) hx hown, ⟨hg.os.trans hb.os, hg.tape.trans hb.tape, hg.output.trans hb.output, ?_, fun b hb' => (hblk b hb').trans (hb.block b hb')⟩, by omega⟩
  have := hb.size
  omega
end Go.Proofs.YtilgbnnjecpneaaGreatDoor

/- RowKeys: trees by keys, out of pairs. -/
namespace Go.Proofs.YtilgbnnjecpneaaGreatDoor
open Go.RowKit Go.Deep

/-- What is known of the trees by keys that are there by then. -/
structure AccOk {d : Nat} (k : Nat) (acc : List (ByteArray × Tr (d + 1))) : Prop where
  len : acc.length ≤ k
  good : keysB (acc.map Prod.fst) = true
  trees : ∀ p ∈ acc, okT (d + 1) p.2 = true
theorem AccOk.nil {d : Nat} : AccOk (d := d) 0 [] := ⟨Nat.le_refl _, rfl, fun p h => by cases h⟩
theorem mem_putK {α : Type} {s : ByteArray} {x : α} : ∀ {ks : List ByteArray} {xs : List α} {p : ByteArray × α}, p ∈ putL ks xs s x → p ∈ ks.zip xs ∨ p = (s, x)
  | [], _, p, h => by rw [putL] at h; exact Or.inr (List.mem_singleton.1 h)
  | _ :: _, [], p, h => by rw [putL] at h; exact Or.inr (List.mem_singleton.1 h)
  | k :: ks, y :: ys, p, h => by
    rw [putL] at h
    rw [zip_cons]
    split at h
    · rcases List.mem_cons.1 h with h | h
      · exact Or.inl (by rw [h]; exact List.mem_cons_self ..)
      · rcases mem_putK h with h | h
        · exact Or.inl (List.mem_cons_of_mem _ h)
        · exact Or.inr h
    · split at h
      · rcases List.mem_cons.1 h with h | h
        · exact Or.inr h
        · exact Or.inl (List.mem_cons_of_mem _ h)
      · rcases List.mem_cons.1 h with h | h
        · exact Or.inr h
        · exact Or.inl h
theorem AccOk.put {d k : Nat} {acc : List (ByteArray × Tr (d + 1))} {s : ByteArray} {x : Tr (d + 1)} (h : AccOk k acc) (hs : strOk s = true) (hx : okT (d + 1) x = true) : AccOk (k + 1) (putL (acc.map Prod.fst) (acc.map Prod.snd) s x) := by
  have hl := putL_length (acc.map Prod.fst) (acc.map Prod.snd) s x
  rw [List.length_map] at hl
  refine ⟨by have := h.len; omega, putL_keys hs (by rw [List.length_map, List.length_map]) h.good (fun q e => by cases e), fun p hp => ?_⟩
  rcases mem_putK hp with hp | hp
  · rw [zip_unzip] at hp
    exact h.trees p hp
  · rw [hp]; exact hx
theorem AccOk.nodes {d k : Nat} {acc : List (ByteArray × Tr (d + 1))} (h : AccOk k acc) (hk : k ≤ 1000) : (nodes (d + 2) (mapT (d + 1) acc) : Int) ≤ 4194304 := by
  have h1 : ∀ y ∈ acc.map Prod.snd, Go.Proofs.YtilgbnnjecpneaaGreatDoor.nodes (d + 1) y ≤ 300 := fun y hy => by
    obtain ⟨p, hp, rfl⟩ := List.mem_map.1 hy
    exact nodes_ok (h.trees p hp)
  have h2 := sum_le_of h1
  rw [List.length_map] at h2
  have h3 := h.len
  have h4 : Go.Proofs.YtilgbnnjecpneaaGreatDoor.nodes (d + 2) (mapT (d + 1) acc) = 1 + ((acc.map Prod.snd).map (Go.Proofs.YtilgbnnjecpneaaGreatDoor.nodes (d + 1))).sum := rfl
  rw [h4]
  omega
/-- A map of the program's that is being made: its trees lie in blocks of S. -/
structure MapB {d : Nat} (S : Nat → Prop) (w : World) (r : Nat) (es : Array MapEntry) (ps acc : List (ByteArray × Tr d)) : Prop where
  obj : w.heap[r]? = some (.map es ps.length)
  perm : ps.Perm acc
  ent : MapG (TreeG S w d) es ps
theorem MapB.moved {d r : Nat} {S : Nat → Prop} {w w' : World} {es : Array MapEntry} {ps acc : List (ByteArray × Tr d)} (h : MapB S w r es ps acc) (hr : w'.heap[r]? = w.heap[r]?) (hs : Same S w w') : MapB S w' r es ps acc :=
  ⟨hr.trans h.obj, h.perm, h.ent.moved (fun x u hx => TreeG.moved hs (fun _ h => h) d x u hx)⟩
theorem set_perm {α : Type} {s : ByteArray} {x : α} {ps acc : List (ByteArray × α)} {i j : Nat} {y z : α} (hp : ps.Perm acc) (hnd : (acc.map Prod.fst).Nodup) (hi : ps[i]? = some (s, y)) (hj : acc[j]? = some (s, z)) : (ps.set i (s, x)).Perm (acc.set j (s, x)) := by
  have hndp : (ps.map Prod.fst).Nodup := (hp.map Prod.fst).nodup_iff.2 hnd
  have split : ∀ (l : List (ByteArray × α)) (k : Nat) (v : ByteArray × α), l[k]? = some v → l.Perm (v :: l.eraseIdx k) ∧ (l.set k (s, x)).Perm ((s, x) :: l.eraseIdx k) := by
    intro l
    induction l with
    | nil => intro k v h; simp at h
    | cons a r ih =>
      intro k v h
      cases k with
      | zero =>
        simp at h
        subst h
        exact ⟨List.Perm.refl _, List.Perm.refl _⟩
      | succ k =>
        simp at h
        obtain ⟨h1, h2⟩ := ih k v h
        simp only [List.eraseIdx_cons_succ, List.set_cons_succ]
        exact ⟨(List.Perm.cons a h1).trans (List.Perm.swap _ _ _), (List.Perm.cons a h2).trans (List.Perm.swap _ _ _)⟩
  obtain ⟨a1, a2⟩ := split ps i _ hi
  obtain ⟨b1, b2⟩ := split acc j _ hj
  have hyz : y = z := by
    have hm : (s, y) ∈ acc := hp.mem_iff.1 (List.mem_of_getElem? hi)
    have hn := (b1.map Prod.fst).nodup_iff.1 hnd
    rw [List.map_cons, List.nodup_cons] at hn
    rcases List.mem_cons.1 (b1.mem_iff.1 hm) with e | e
    · cases e; rfl
    · exact absurd (List.mem_map.2 ⟨_, e, rfl⟩) hn.1
  subst hyz
  have hc : (ps.eraseIdx i).Perm (acc.eraseIdx j) := (a1.symm.trans (hp.trans b1)).cons_inv
  exact a2.trans ((List.Perm.cons _ hc).trans b2.symm)
/-- A tree is put at a key of it. -/
theorem MapB.put {d r : Nat} {S : Nat → Prop} {w : World} {es : Array MapEntry} {ps acc : List (ByteArray × Tr d)} {s : ByteArray} {x : Tr d} {u : Value} (h : MapB S w r es ps acc) (hg : keysB (acc.map Prod.fst) = true) (hr : ¬ S r) (hu : TreeG S w d x u) :
    ∃ w' es' ps', (Instr.mapUpdate 118 (.map (some r)) (.string s) u).run Tryz.prog w = .ok () w' ∧ Below r w w' ∧ w'.heap.size = w.heap.size ∧ (∀ b, b ≠ r → w'.heap[b]? = w.heap[b]?) ∧ MapB S w' r es' ps' (putL (acc.map Prod.fst) (acc.map Prod.snd) s x) := by
  have hrl := (Array.getElem?_eq_some_iff.1 h.obj).1
  have hsz : ∀ o, (withObj w r o).heap.size = w.heap.size := fun o => by simp [withObj]
  have hblk : ∀ o b, b ≠ r → (withObj w r o).heap[b]? = w.heap[b]? := fun o b hb => withObj_block w r o b hb
  have hmv : ∀ o y v, TreeG S w d y v → TreeG S (withObj w r o) d y v := fun o y v hy => TreeG.moved (fun b hb => hblk o b (fun e => hr (e ▸ hb))) (fun _ h => h) d y v hy
  have hobj : ∀ o, (withObj w r o).heap[r]? = some o := fun o => by simp [withObj, hrl]
  have hlen : (acc.map Prod.fst).length = (acc.map Prod.snd).length := by rw [List.length_map, List.length_map]
  have hnd : (acc.map Prod.fst).Nodup := keysB_nodup hg
  have hndp : (ps.map Prod.fst).Nodup := (h.perm.map Prod.fst).nodup_iff.2 hnd
  by_cases hm : s ∈ acc.map Prod.fst
  · obtain ⟨q, hq, hqs⟩ := List.mem_map.1 hm
    obtain ⟨qs, qy⟩ := q
    have hqs : qs = s := hqs
    subst hqs
    obtain ⟨j, v, hpj, hej, _, hbefore⟩ := h.ent.find hndp (h.perm.mem_iff.2 hq)
    obtain ⟨k, hk⟩ := List.getElem?_of_mem hq
    have hkk : (acc.map Prod.fst)[k]? = some qs := by rw [List.getElem?_map, hk]; rfl
    have hth : putL (acc.map Prod.fst) (acc.map Prod.snd) qs x = acc.set k (qs, x) := by
      rw [putL_there (p := none) hlen hg hkk, zip_unzip]
    have hjl := (List.getElem?_eq_some_iff.1 hpj).1
    refine ⟨_, es.modify j fun e => { e with key := .string qs, val := u }, ps.set j (qs, x), run_mapSet w r ps.length j es qs u v j h.obj hej hbefore, below_withObj _ _ (Nat.le_refl _), hsz _, hblk _, ?_, ?_, ?_⟩
    · rw [hobj, List.length_set]
    · rw [hth]; exact set_perm h.perm hnd hpj hk
    · refine ⟨by rw [Array.size_modify, List.length_set]; exact h.ent.1, fun i k' z hi => ?_⟩
      by_cases e : j = i
      · subst e
        rw [List.getElem?_set_self (by omega)] at hi
        cases hi
        exact ⟨u, by simp [Array.getElem?_modify, hej], hmv _ _ _ hu⟩
      · rw [List.getElem?_set_ne e] at hi
        obtain ⟨v', hv', ha⟩ := h.ent.2 i k' z hi
        exact ⟨v', by rw [Array.getElem?_modify, if_neg e]; exact hv', hmv _ _ _ ha⟩
  · have hmiss := h.ent.miss (s := s) (fun hp => hm ((h.perm.map Prod.fst).mem_iff.1 hp))
    have hp := putL_new (x := x) hlen hm
    rw [zip_unzip] at hp
    refine ⟨_, es.push ⟨.string s, u, ps.length⟩, ps ++ [(s, x)], run_mapPush w r ps.length es s u h.obj hmiss, below_withObj _ _ (Nat.le_refl _), hsz _, hblk _, ?_, ?_, ?_⟩
    · rw [hobj, List.length_append, List.length_singleton]
    · exact (h.perm.append_right _).trans hp
    · refine ⟨by rw [Array.size_push, List.length_append, List.length_singleton, h.ent.1], fun i k z hi => ?_⟩
      have hes : es.size = ps.length := h.ent.1
      by_cases e : i < ps.length
      · rw [List.getElem?_append_left e] at hi
        obtain ⟨v', hv', ha⟩ := h.ent.2 i k z hi
        exact ⟨v', by rw [Array.getElem?_push, if_neg (by omega)]; exact hv', hmv _ _ _ ha⟩
      · have hil := (List.getElem?_eq_some_iff.1 hi).1
        rw [List.length_append, List.length_singleton] at hil
        obtain rfl : i = ps.length := by omega
        rw [List.getElem?_append_right (Nat.le_refl _), Nat.sub_self] at hi
        cases hi
        exact ⟨u, by rw [Array.getElem?_push, if_pos hes.symm], hmv _ _ _ hu⟩
/-- .. as a tree. -/
theorem MapB.tree {d r : Nat} {S : Nat → Prop} {w : World} {es : Array MapEntry} {ps acc : List (ByteArray × Tr d)} (h : MapB S w r es ps acc) (hg : keysB (acc.map Prod.fst) = true) (hl : acc.length ≤ 1000) {N : Nat} (hr : N ≤ r) (hS : ∀ b, S b → N ≤ b ∧ b < w.heap.size) : TreeG (fun b => N ≤ b ∧ b < w.heap.size) w (d + 1) (mapT d acc) (.iface 120 (.agg #[.map (some r)])) :=
  Or.inr (Or.inr (Or.inr (Or.inr ⟨acc.map Prod.fst, acc.map Prod.snd, ps, r, es, by rw [List.length_map]; exact hl, hg, by rw [List.length_map, List.length_map], by rw [zip_unzip]; exact h.perm, rfl, rfl, ⟨hr, (Array.getElem?_eq_some_iff.1 h.obj).1⟩, h.obj, h.ent.moved (fun x u hx => TreeG.mono hx hS)⟩)))
end Go.Proofs.YtilgbnnjecpneaaGreatDoor

/- addMaps of the program: two maps put into a third. -/
namespace Go.Proofs.YtilgbnnjecpneaaGreatDoor
open Go.RowKit Go.Deep

theorem range_pairs {α : Type} (qs : List α) : ∀ k, k ≤ qs.length → (List.range k).filterMap (fun i => qs[i]?) = qs.take k
  | 0, _ => by simp
  | k + 1, h => by
    have hk : k < qs.length := h
    rw [List.range_succ, List.filterMap_append, range_pairs qs k (by omega), List.take_succ_eq_append_getElem hk]
    simp [hk]
theorem seen_pairs {α : Type} (qs : List α) {seen : List Nat} (h : seen.Perm (List.range qs.length)) : (seen.filterMap (fun i => qs[i]?)).Perm qs := by
  have h1 := h.filterMap (fun i => qs[i]?)
  rw [range_pairs qs qs.length (Nat.le_refl _), List.take_of_length_le (Nat.le_refl _)] at h1
  exact h1
theorem putAll_push {α : Type} (ps : List (ByteArray × α)) (qs : List (ByteArray × α)) (seen : List Nat) (i : Nat) {q : ByteArray × α} (h : qs[i]? = some q) : putAll ps ((seen ++ [i]).filterMap (fun i => qs[i]?)) = putP (putAll ps (seen.filterMap (fun i => qs[i]?))) q := by
  rw [List.filterMap_append]
  unfold putAll
  rw [List.foldl_append]
  simp [h]
/-- What stands while the pairs of one map are put into another. -/
structure Adding {d : Nat} (S : Nat → Prop) (B : Nat) (w wr : World) (rp ri m : Nat) (qs acc0 : List (ByteArray × Tr d)) (seen : List Nat) (es : Array MapEntry) (ps : List (ByteArray × Tr d)) : Prop where
  nodup : seen.Nodup
  lt : ∀ i ∈ seen, i < qs.length
  iter : Iter wr ri m qs.length seen
  map : MapB S wr rp es ps (putAll acc0 (seen.filterMap (fun i => qs[i]?)))
  good : keysB ((putAll acc0 (seen.filterMap (fun i => qs[i]?))).map Prod.fst) = true
  but : ∀ c, c < ri → c ≠ rp → wr.heap[c]? = w.heap[c]?
  below : Below B w wr

theorem Adding.step {d B : Nat} {S : Nat → Prop} {w wr w1 w2 : World} {rp ri m i : Nat} {qs acc0 : List (ByteArray × Tr d)} {seen : List Nat} {es es2 : Array MapEntry} {ps ps2 : List (ByteArray × Tr d)} {s : ByteArray} {x : Tr d} (h : Adding S B w wr rp ri m qs acc0 seen es ps) (hi : i < qs.length) (hq : qs[i]? = some (s, x)) (hn : i ∉ seen) (hs : strOk s = true) (hI : Iter w1 ri m qs.length (seen ++ [i])) (hoff : OneOff ri wr w1) (hne : ri ≠ rp)
    (hsz : w2.heap.size = w1.heap.size) (hblk : ∀ b, b ≠ rp → w2.heap[b]? = w1.heap[b]?) (hbel : Below rp w1 w2) (hm2 : MapB S w2 rp es2 ps2 (putL ((putAll acc0 (seen.filterMap (fun i => qs[i]?))).map Prod.fst) ((putAll acc0 (seen.filterMap (fun i => qs[i]?))).map Prod.snd) s x)) (hB1 : B ≤ rp) (hB2 : B ≤ ri) : Adding S B w w2 rp ri m qs acc0 (seen ++ [i]) es2 ps2 := by
  have hpp := putAll_push acc0 qs seen i hq
  refine ⟨?_, fun j hj => ?_, (hblk ri hne).trans hI, ?_, ?_, fun c hc hcp => (hblk c hcp).trans ((hoff.block c (by omega)).trans (h.but c hc hcp)), ?_⟩
  · rw [List.nodup_append]
    exact ⟨h.nodup, by simp, fun a ha b hb e => by simp at hb; subst hb; subst e; exact hn ha⟩
  · rcases List.mem_append.1 hj with hj | hj
    · exact h.lt j hj
    · rw [List.mem_singleton.1 hj]; exact hi
  · rw [hpp]; exact hm2
  · rw [hpp]; exact putP_order (q := (s, x)) hs h.good
  · exact ⟨hbel.os.trans (hoff.os.trans h.below.os), hbel.tape.trans (hoff.tape.trans h.below.tape), hbel.output.trans (hoff.output.trans h.below.output), by rw [hsz, hoff.size]; exact h.below.size, fun c hc => (hblk c (by omega)).trans ((hoff.block c (by omega)).trans (h.below.block c hc))⟩

/-- What is known of a map that is gone through. -/
structure MapIn {d : Nat} (S : Nat → Prop) (w : World) (r : Nat) (es : Array MapEntry) (qs ps : List (ByteArray × Tr d)) : Prop where
  obj : w.heap[r]? = some (.map es qs.length)
  ent : MapG (TreeG S w d) es qs
  perm : qs.Perm ps
  keys : keysB (ps.map Prod.fst) = true
theorem MapIn.ok {d r : Nat} {S : Nat → Prop} {w : World} {es : Array MapEntry} {qs ps : List (ByteArray × Tr d)} (h : MapIn S w r es qs ps) {i : Nat} {s : ByteArray} {x : Tr d} (hq : qs[i]? = some (s, x)) : strOk s = true :=
  keys_ok h.keys (s, x) (h.perm.mem_iff.1 (List.mem_of_getElem? hq))
theorem MapIn.born {d r : Nat} {S : Nat → Prop} {w : World} {es : Array MapEntry} {qs ps : List (ByteArray × Tr d)} (h : MapIn S w r es qs ps) : ∀ (j : Nat) (e : MapEntry), es[j]? = some e → e.born = j := fun j e hx => by
  have hes := h.ent.1
  have hj := (Array.getElem?_eq_some_iff.1 hx).1
  obtain ⟨u, hu, _⟩ := h.ent.2 j qs[j].1 qs[j].2 (List.getElem?_eq_getElem (by omega))
  rw [hx] at hu
  cases hu
  rfl
theorem MapIn.at {d r : Nat} {S : Nat → Prop} {w : World} {es : Array MapEntry} {qs ps : List (ByteArray × Tr d)} (h : MapIn S w r es qs ps) {i : Nat} {e : MapEntry} (he : es[i]? = some e) : ∃ s x u, qs[i]? = some (s, x) ∧ e = ⟨.string s, u, i⟩ ∧ TreeG S w d x u := by
  have hes := h.ent.1
  have hj := (Array.getElem?_eq_some_iff.1 he).1
  have hq : qs[i]? = some (qs[i].1, qs[i].2) := List.getElem?_eq_getElem (by omega)
  obtain ⟨u, hu, hv⟩ := h.ent.2 i _ _ hq
  rw [he] at hu
  cases hu
  exact ⟨_, _, u, hq, rfl, hv⟩
theorem MapIn.done {d r : Nat} {S : Nat → Prop} {w : World} {es : Array MapEntry} {qs ps acc0 : List (ByteArray × Tr d)} (h : MapIn S w r es qs ps) {seen : List Nat} (hp : seen.Perm (List.range qs.length)) (ho : keysB (acc0.map Prod.fst) = true) : putAll acc0 (seen.filterMap (fun i => qs[i]?)) = putAll acc0 ps := by
  have h1 : (seen.filterMap (fun i => qs[i]?)).Perm ps := (seen_pairs qs hp).trans h.perm
  have h2 := keys_pairwise h.keys
  refine putAll_perm h1 (h1.symm.pairwise h2 (fun h => Ne.symm h)) (fun q hq => keys_ok h.keys q (h1.mem_iff.1 hq)) ho
theorem MapIn.later {d r : Nat} {S : Nat → Prop} {w w' : World} {es : Array MapEntry} {qs ps : List (ByteArray × Tr d)} (h : MapIn S w r es qs ps) (hr : w'.heap[r]? = w.heap[r]?) (hs : Same S w w') : MapIn S w' r es qs ps :=
  ⟨hr.trans h.obj, h.ent.moved (fun x u hx => TreeG.moved hs (fun _ h => h) d x u hx), h.perm, h.keys⟩

end Go.Proofs.YtilgbnnjecpneaaGreatDoor

/- The library's Grow at this program's numbers: laid by program. -/
namespace Go.Proofs
open Go.Shelf
def Tryz.laysG_ren : Go.Shelf.Ren := ⟨fun | 4 => 100 | n => n, fun | 22 => 74 | 25 => 64 | 3 => 3 | 4 => 4 | 9 => 9 | 20 => 20 | 0 => 0 | n => n, fun | n => n⟩
theorem Tryz.laysG : Go.Proofs.Lays8.n4 Tryz.prog Tryz.laysG_ren := {
  mixed := by kernel_rfl
  f4 := ⟨Tryz.f100.name, by decide, Tryz.func100.trans (congrArg some (by kernel_rfl))⟩
  t0 := Tryz.underlying0
  a0 := Tryz.isAgg0
  z0 := Tryz.sizeOf0
  v0 := Tryz.zeroValue0
  t3 := Tryz.underlying3
  a3 := Tryz.isAgg3
  z3 := Tryz.sizeOf3
  v3 := Tryz.zeroValue3
  t4 := Tryz.underlying4
  a4 := Tryz.isAgg4
  z4 := Tryz.sizeOf4
  v4 := Tryz.zeroValue4
  t9 := Tryz.underlying9
  a9 := Tryz.isAgg9
  z9 := Tryz.sizeOf9
  v9 := Tryz.zeroValue9
  t20 := Tryz.underlying20
  a20 := Tryz.isAgg20
  z20 := Tryz.sizeOf20
  v20 := Tryz.zeroValue20
  t22 := Tryz.underlying74
  a22 := Tryz.isAgg74
  z22 := Tryz.sizeOf74
  v22 := Tryz.zeroValue74 }
end Go.Proofs

/- l4Of of the model. -/
namespace Go.Proofs.YtilgbnnjecpneaaGreatDoor
open Go.RowKit Go.Deep

theorem l4Of_any (a : Option Addr) (n c : Nat) (w : World) : Calls Tryz.prog 34 #[.slice a n c] w fun e w' => e = .returned (.agg #[.int .i64 5, .int .i64 0, .string ByteArray.empty, .slice none 0 0, .slice a n c]) ∧ Below w.heap.size w w' := by
  go_enter Tryz.func34, Tryz.ntmps34
  go_wp2_with fail
  exact bodyPost_ret (v := .agg #[.int .i64 5, .int .i64 0, .string ByteArray.empty, .slice none 0 0, .slice a n c]) (by simp [results, Tryz.results34, go_sem]; rfl) rfl ⟨rfl, below_alloc1 _ _⟩
end Go.Proofs.YtilgbnnjecpneaaGreatDoor

/- RowFlat: the flat row; whole rows appended. -/
namespace Go.Proofs.YtilgbnnjecpneaaGreatDoor
open Go.RowKit Go.Deep

/-- A tree's kind and list, out of its five cells. -/
theorem ValAt.parts {S : Nat → Prop} {w : World} {d : Nat} {t : Tr (d + 1)} {k n : Int} {s : ByteArray} {ak al : Option Addr} {lk ck ll cl : Nat} (h : ValAt S w (d + 1) t (.agg #[.int .i64 k, .int .i64 n, .string s, .slice ak lk ck, .slice al ll cl])) :
    k = Nd.kind t ∧ ll = (Nd.list t).length ∧ RowAt S w (ValAt S w d) (.slice al ll cl) (Nd.list t) := by
  obtain ⟨vk, vl, hv, i1, i2, i3, hk, hl⟩ := h
  obtain ⟨a, c, rfl, _⟩ := hl.open'
  simp at hv
  obtain ⟨rfl, _, _, _, rfl, rfl, rfl⟩ := hv
  exact ⟨rfl, rfl, hl⟩

/-- Nothing, appended. -/
theorem run_append_none {t e ty : TypeId} {i : TypeInfo} {size : Nat} (hu : Tryz.prog.underlying t = some (.slice e)) (hi : Tryz.prog.info? e = some i) (hz : i.size = size) (w : World) {N n : Nat} {v : Value} {xs : List Value} (h : w.ownsRow N e size v n xs) :
    (Builtin.append_ #[t, t] ty #[v, .slice none 0 0]).run Tryz.prog w = .ok v w := by
  rcases h.2 with ⟨rfl, _⟩ | ⟨g, cap, cur, rfl, _, _, hle, _⟩
  · simp [Builtin.append_, run_underlying hu, sizeOf, typeInfo, hi, Builtin.lenOf, Builtin.firstCells, Result.andThen, hz]
  · simp [Builtin.append_, run_underlying hu, sizeOf, typeInfo, hi, Builtin.lenOf, Builtin.firstCells, loadCells, storeCells, Result.andThen, hz, hle]

end Go.Proofs.YtilgbnnjecpneaaGreatDoor

/- The program's own trees: one deeper; whole rows of them appended. -/
namespace Go.Proofs.YtilgbnnjecpneaaGreatDoor
open Go.RowKit Go.Deep

theorem Row1At.up {α β : Type} {S : Nat → Prop} {w : World} {At : α → Value → Prop} {At' : β → Value → Prop} {v : Value} {xs : List α} (f : α → β) (h : Row1At S w At v xs) (hi : ∀ x u, At x u → At' (f x) u) : Row1At S w At' v (xs.map f) := by
  obtain ⟨h1, a, cap, hv, h3⟩ := h
  refine ⟨by rw [List.length_map]; exact h1, a, cap, by rw [List.length_map]; exact hv, ?_⟩
  rcases h3 with h3 | ⟨b, o, hB, ha, hc⟩
  · exact Or.inl (by rw [h3]; rfl)
  · refine Or.inr ⟨b, o, hB, ha, fun i x hx => ?_⟩
    rw [List.getElem?_map] at hx
    obtain ⟨y, hy, rfl⟩ := Option.map_eq_some_iff.1 hx
    obtain ⟨u, e0, e1⟩ := hc i y hy
    exact ⟨u, e0, hi _ _ e1⟩
theorem MapG.up {α β : Type} {At : α → Value → Prop} {At' : β → Value → Prop} {es : Array MapEntry} {ps : List (ByteArray × α)} (f : α → β) (h : MapG At es ps) (hi : ∀ x u, At x u → At' (f x) u) : MapG At' es (ps.map (fun p => (p.1, f p.2))) := by
  refine ⟨by rw [List.length_map]; exact h.1, fun i k x hp => ?_⟩
  rw [List.getElem?_map] at hp
  obtain ⟨⟨k', y⟩, hy, e⟩ := Option.map_eq_some_iff.1 hp
  cases e
  obtain ⟨u, e0, e1⟩ := h.2 i k' y hy
  exact ⟨u, e0, hi _ _ e1⟩
theorem zip_up {α β γ : Type} (f : β → γ) : ∀ (ks : List α) (xs : List β), ks.zip (xs.map f) = (ks.zip xs).map (fun p => (p.1, f p.2))
  | [], _ => rfl
  | _ :: _, [] => rfl
  | k :: r, x :: s => by rw [List.map_cons, List.zip_cons_cons, List.zip_cons_cons, List.map_cons, zip_up f r s]
theorem TreeG.up {S : Nat → Prop} {w : World} : ∀ (d : Nat) (t : Tr d) (v : Value), TreeG S w d t v → TreeG S w (d + 1) (up d t) v
  | 0, _, _, h => h.elim
  | d + 1, t, v, h => by
    rcases h with ⟨k, h1, rfl, h3⟩ | ⟨n, h1, rfl, h3⟩ | ⟨s, h1, rfl, h3⟩ | ⟨xs, sv, h1, rfl, h3, hr⟩ | ⟨keys, xs, ps, r, es, h1, h2, h3, h4, rfl, h6, hr, hm, he⟩
    · exact Or.inl ⟨k, h1, rfl, h3⟩
    · exact Or.inr (Or.inl ⟨n, h1, rfl, h3⟩)
    · exact Or.inr (Or.inr (Or.inl ⟨s, h1, rfl, h3⟩))
    · exact Or.inr (Or.inr (Or.inr (Or.inl ⟨xs.map (Go.Proofs.YtilgbnnjecpneaaGreatDoor.up d), sv, by rw [List.length_map]; exact h1, rfl, h3, hr.up (At' := TreeG S w (d + 1)) _ (fun x u hx => TreeG.up d x u hx)⟩)))
    · refine Or.inr (Or.inr (Or.inr (Or.inr ⟨keys, xs.map (Go.Proofs.YtilgbnnjecpneaaGreatDoor.up d), ps.map (fun p => (p.1, Go.Proofs.YtilgbnnjecpneaaGreatDoor.up d p.2)), r, es, by rw [List.length_map]; exact h1, h2, by rw [List.length_map]; exact h3, ?_, rfl, h6, hr, by rw [List.length_map]; exact hm, he.up (At' := TreeG S w (d + 1)) _ (fun x u hx => TreeG.up d x u hx)⟩)))
      rw [zip_up]
      exact h4.map _

/-- A row of the program's that owns its cells; its trees lie in blocks of S. -/
def GF {d : Nat} (S : Nat → Prop) (N : Nat) (w : World) (sv : Value) (xs : List (Tr d)) (vs : List Value) : Prop :=
  w.ownsRow N 64 1 sv xs.length vs ∧ ∀ (j : Nat) (x : Tr d) (u : Value), xs[j]? = some x → vs[j]? = some u → TreeG S w d x u
theorem GF.nil {d : Nat} (S : Nat → Prop) (N : Nat) (w : World) : GF (d := d) S N w (.slice none 0 0) [] [] := ⟨World.ownsRow_nil _ _ _ _, fun j x u h => by simp at h⟩
theorem GF.slice {d N : Nat} {S : Nat → Prop} {w : World} {lv : Value} {xs : List (Tr d)} {vs : List Value} (h : GF S N w lv xs vs) : ∃ a c, lv = .slice a xs.length c := by
  rcases h.1.2 with ⟨rfl, h0⟩ | ⟨g, cap, cur, rfl, _⟩
  · exact ⟨none, 0, by rw [h0]⟩
  · exact ⟨_, _, rfl⟩
theorem GF.grow {d N : Nat} {S : Nat → Prop} {wr w2 : World} {lv lv' : Value} {xs ys : List (Tr d)} {vs us : List Value} (h : GF S N wr lv xs vs) (hs : Same S wr w2) (hy : ∀ (j : Nat) (x : Tr d) (u : Value), ys[j]? = some x → us[j]? = some u → TreeG S wr d x u) (hown : w2.ownsRow N 64 1 lv' (xs.length + ys.length) (vs ++ us)) : GF S N w2 lv' (xs ++ ys) (vs ++ us) := by
  have hlen : vs.length = xs.length := by have := h.1.1; omega
  refine ⟨by rw [List.length_append]; exact hown, fun j x u hx hu => ?_⟩
  by_cases e : j < xs.length
  · rw [List.getElem?_append_left e] at hx
    rw [List.getElem?_append_left (by omega)] at hu
    exact (h.2 j x u hx hu).same hs
  · rw [List.getElem?_append_right (by omega)] at hx
    rw [List.getElem?_append_right (by omega), hlen] at hu
    exact (hy _ x u hx hu).same hs
theorem GF.tree {d N M : Nat} {S : Nat → Prop} {w : World} {sv : Value} {xs : List (Tr d)} {vs : List Value} (h : GF S N w sv xs vs) (hl : xs.length ≤ 1000) (hM : M ≤ N) (hSM : ∀ b, S b → M ≤ b ∧ b < w.heap.size) : TreeG (fun b => M ≤ b ∧ b < w.heap.size) w (d + 1) (rowT d xs) (.iface 80 (.agg #[sv])) := by
  refine Or.inr (Or.inr (Or.inr (Or.inl ⟨xs, sv, hl, rfl, rfl, by omega, ?_⟩)))
  obtain ⟨h1, h2⟩ := h
  have hlen := h1.1
  rw [Nat.mul_one] at hlen
  rcases h1.2 with ⟨rfl, h0⟩ | ⟨g, cap, cur, rfl, hg, hh, _, _, _, _⟩
  · exact ⟨none, 0, by rw [h0], Or.inl (List.eq_nil_of_length_eq_zero h0)⟩
  · refine ⟨some ⟨g, 0, none⟩, cap, rfl, Or.inr ⟨g, 0, ⟨by omega, (Array.getElem?_eq_some_iff.1 hh).1⟩, rfl, fun i x hx => ?_⟩⟩
    have hi := (List.getElem?_eq_some_iff.1 hx).1
    have hvi : vs[i]? = some vs[i] := List.getElem?_eq_getElem (by omega)
    have hc := h1.cells (g := g) rfl i _ hvi
    have hadd : (⟨g, 0, none⟩ : Addr).add i = ⟨g, 0 + i, none⟩ := by unfold Addr.add; split <;> simp_all
    rw [hadd] at hc
    exact ⟨vs[i], hc, (h2 i x _ hx hvi).mono hSM⟩

/-- Trees of the program's, appended behind others. -/
theorem run_append_onto_trees {d N : Nat} {S : Nat → Prop} {w : World} {lv : Value} {xs : List (Tr d)} {vs : List Value} (h : GF S N w lv xs vs) (hSN : ∀ b, S b → b < N) (hN : N ≤ w.heap.size) (ys : List (Tr d)) (al : Option Addr) (cl n : Nat) (ty : TypeId) (hn : n = ys.length) (hv : Row1At S w (TreeG S w d) (.slice al n cl) ys) (hsm : xs.length + ys.length ≤ 100000) :
    ∃ v' w', (Builtin.append_ #[74, 74] ty #[lv, .slice al n cl]).run Tryz.prog w = .ok v' w' ∧ ((∃ vs', GF S N w' v' (xs ++ ys) vs') ∧ w.grownBy w' lv.ownBlock ∧ ∃ a c, v' = .slice a (xs.length + ys.length) c) := by
  subst hn
  obtain ⟨i0, hi, hz0, hz1, hz2⟩ := info_parts Tryz.infoTree
  have hu : Tryz.prog.underlying 74 = some (.slice 64) := Tryz.underlying74
  have hbk : ∀ w', w.grownBy w' lv.ownBlock → Same S w w' := fun w' hgr b hb => hgr.block b (Nat.lt_of_lt_of_le (hSN b hb) hN) (fun e => by have := (h.1.lt b e.symm).1; have := hSN b hb; omega)
  have hfin : ∀ v' w' us, (∀ (j : Nat) (x : Tr d) (u : Value), ys[j]? = some x → us[j]? = some u → TreeG S w d x u) → w'.ownsRow N 64 1 v' (xs.length + ys.length) (vs ++ us) → w.grownBy w' lv.ownBlock → ((∃ vs', GF S N w' v' (xs ++ ys) vs') ∧ w.grownBy w' lv.ownBlock ∧ ∃ a c, v' = .slice a (xs.length + ys.length) c) := fun v' w' us hus ho hgr => by
    have hto := h.grow (hbk w' hgr) hus ho
    obtain ⟨a, c, e⟩ := hto.slice
    rw [List.length_append] at e
    exact ⟨⟨_, hto⟩, hgr, a, c, e⟩
  by_cases h0 : ys = []
  · subst h0
    cases al with
    | none =>
      refine ⟨lv, w, ?_, hfin lv w [] (fun j x u h => by simp at h) (by rw [List.append_nil]; exact h.1) ⟨rfl, rfl, rfl, Nat.le_refl _, fun _ _ _ => rfl⟩⟩
      rcases h.1.2 with ⟨rfl, _⟩ | ⟨g, cap, cur, rfl, _, _, hle, _⟩
      · simp [Builtin.append_, run_underlying hu, sizeOf, typeInfo, hi, Builtin.lenOf, Builtin.firstCells, Result.andThen, hz1]
      · simp [Builtin.append_, run_underlying hu, sizeOf, typeInfo, hi, Builtin.lenOf, Builtin.firstCells, storeCells, Result.andThen, hz1, hle]
    | some a =>
      obtain ⟨v', w', hr, ho, hgr, _⟩ := run_append_own_at (P := Tryz.prog) w N 74 ty 64 i0 .nilIface 1 16 hu hi hz0 hz1 hz2 rfl (by decide) lv xs.length vs h.1 a 0 cl [] rfl (fun j u hj => by simp at hj) (fun u hu => by simp at hu) (by unfold maxLen; omega) (by omega) hN
      exact ⟨v', w', hr, hfin v' w' [] (fun j x u h => by simp at h) ho hgr⟩
  · have hpos : 0 < ys.length := List.length_pos_iff.2 h0
    obtain ⟨_, a', c', hv', h3⟩ := hv
    cases hv'
    rcases h3 with h3 | ⟨b, o, hbS, rfl, hc⟩
    · exact absurd h3 h0
    have hex : ∀ j, j < ys.length → ∃ u, w.cell? ⟨b, o + j, none⟩ = some u ∧ u.oneCell' = true ∧ ∀ x, ys[j]? = some x → TreeG S w d x u := by
      intro j hj
      obtain ⟨u, e0, e1⟩ := hc j _ (List.getElem?_eq_getElem hj)
      obtain ⟨T, u', rfl⟩ := e1.iface
      refine ⟨_, e0, rfl, fun x hx => ?_⟩
      rw [List.getElem?_eq_getElem hj] at hx
      cases hx
      exact e1
    obtain ⟨news, hnl, hnews⟩ : ∃ news : List Value, news.length = ys.length ∧ ∀ j, j < ys.length → ∃ u, news[j]? = some u ∧ w.cell? ⟨b, o + j, none⟩ = some u ∧ u.oneCell' = true ∧ ∀ x, ys[j]? = some x → TreeG S w d x u := by
      refine ⟨(List.range ys.length).map (fun j => (w.cell? ⟨b, o + j, none⟩).getD undef), by simp, fun j hj => ?_⟩
      obtain ⟨u, hu, h1⟩ := hex j hj
      exact ⟨u, by simp [hj, hu], hu, h1⟩
    have hat : ∀ j u, news[j]? = some u → w.cell? ⟨b, o + j, none⟩ = some u ∧ u.oneCell' = true ∧ ∀ x, ys[j]? = some x → TreeG S w d x u := by
      intro j u hj
      obtain ⟨u', h1, h2⟩ := hnews j (by have := (List.getElem?_eq_some_iff.1 hj).1; omega)
      rw [hj] at h1
      cases h1
      exact h2
    have hadd : ∀ j, (⟨b, o, none⟩ : Addr).add j = ⟨b, o + j, none⟩ := fun j => by unfold Addr.add; split <;> simp_all
    obtain ⟨v', w', hr, ho, hgr, _⟩ := run_append_own_at (P := Tryz.prog) w N 74 ty 64 i0 .nilIface 1 16 hu hi hz0 hz1 hz2 rfl (by decide) lv xs.length vs h.1 ⟨b, o, none⟩ ys.length cl news (by omega)
      (fun j u hj => by rw [hadd]; exact (hat j u hj).1) (fun u hu => by obtain ⟨j, hj⟩ := List.getElem?_of_mem hu; exact (hat j u hj).2.1) (by unfold maxLen; omega) (by omega) hN
    exact ⟨v', w', hr, hfin v' w' news (fun j x u hx hu => (hat j u hu).2.2 x hx) ho hgr⟩
end Go.Proofs.YtilgbnnjecpneaaGreatDoor
