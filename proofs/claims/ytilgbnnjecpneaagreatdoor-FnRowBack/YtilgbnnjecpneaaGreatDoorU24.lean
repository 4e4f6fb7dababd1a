/- Texts of the proof, put together by program: WRowP, WRowS, WKbP, WAddM. -/
import Derived.Test.YtilgbnnjecpneaaGreatDoorU23
import Derived.Test.YtilgbnnjecpneaaGreatDoorU22
import Derived.Test.YtilgbnnjecpneaaGreatDoorU21
import Derived.Test.YtilgbnnjecpneaaGreatDoorU10
/- Rows of trees: what is told of the trees of a row. -/
namespace Go.Proofs.YtilgbnnjecpneaaGreatDoor
open Go.RowKit Go.Deep

/-- What is told of a row, f being what is told of its trees. -/
def rowTell {d e : Nat} (f : List (Tr d) → Option (Tr (e + 1))) (t : Tr (d + 1)) : Tr (e + 1) × Bool :=
  match treesL d t with
  | none => (zeroT e, false)
  | some xs =>
    match f xs with
    | none => (zeroT e, false)
    | some x => (toldT e x, okT (e + 1) x)
theorem okT_rowTell {d e : Nat} (f : List (Tr d) → Option (Tr (e + 1))) (t : Tr (d + 1)) : okT (e + 1) (rowTell f t).1 = true := by
  unfold rowTell
  split
  · exact okT_zero _
  · split
    · exact okT_zero _
    · exact okT_told _ _
theorem rowTell_none {d e : Nat} {f : List (Tr d) → Option (Tr (e + 1))} {t : Tr (d + 1)} (h : treesL d t = none) : rowTell f t = (zeroT e, false) := by
  unfold rowTell
  rw [h]
theorem rowTell_fault {d e : Nat} {f : List (Tr d) → Option (Tr (e + 1))} {t : Tr (d + 1)} {xs : List (Tr d)} (h : treesL d t = some xs) (hf : f xs = none) : rowTell f t = (zeroT e, false) := by
  unfold rowTell
  rw [h]
  show (match f xs with | none => _ | some x => _) = _
  rw [hf]
theorem rowTell_some {d e : Nat} {f : List (Tr d) → Option (Tr (e + 1))} {t : Tr (d + 1)} {xs : List (Tr d)} {x : Tr (e + 1)} (h : treesL d t = some xs) (hf : f xs = some x) : rowTell f t = (toldT e x, okT (e + 1) x) := by
  unfold rowTell
  rw [h]
  show (match f xs with | none => _ | some x => _) = _
  rw [hf]
/-- Rows of trees that are ok are small. -/
theorem nodes_row {d : Nat} {xs : List (Tr d)} (hxs : ∀ x ∈ xs, okT d x = true) (hl : xs.length ≤ 10000) : (nodes (d + 1) (rowT d xs) : Int) ≤ 4194304 := by
  have h1 : (xs.map (nodes d)).sum ≤ 300 * xs.length := sum_le_of (fun x hx => nodes_ok (hxs x hx))
  have h2 : nodes (d + 1) (rowT d xs) = 1 + (xs.map (nodes d)).sum := rfl
  rw [h2]
  omega
/-- What a function that tells of the trees of a row is asked to give. -/
def TellF (e N : Nat) (r : Option (Tr (e + 1))) (w : World) (en : Ending) (w' : World) : Prop :=
  Below N w w' ∧ ((∃ x u, r = some x ∧ en = .returned (.tuple #[u, .nilIface]) ∧ TreeG (fun b => N ≤ b ∧ b < w'.heap.size) w' (e + 1) x u) ∨ (r = none ∧ ∃ why, en = .returned (.tuple #[.nilIface, faultV why])))

end Go.Proofs.YtilgbnnjecpneaaGreatDoor

/- Rows of the model: l4Row, l4Of. -/
namespace Go.Proofs.YtilgbnnjecpneaaGreatDoor
open Go.RowKit Go.Deep

theorem treesL_isSome {d : Nat} (t : Tr (d + 1)) : (treesL d t).isSome = (okT (d + 1) t && (Nd.kind t == 5)) := by
  unfold treesL
  cases okT (d + 1) t with
  | false => rfl
  | true =>
    rw [if_pos rfl]
    by_cases h : Nd.kind t = 5
    · rw [if_pos h]; simp [h]
    · rw [if_neg h]; simp [h]

set_option maxRecDepth 100000 in
set_option maxHeartbeats 1000000 in
theorem l4Row_any (d : Nat) (S : Nat → Prop) (t : Tr (d + 1)) (v : Value) (w : World) (hv : ValAt S w (d + 1) t v) (hS : Within S w) (hsm : (nodes (d + 1) t : Int) ≤ 4194304) :
    Calls Tryz.prog 32 #[v] w fun e w' => e = .returned (.bool (treesL d t).isSome) ∧ Below w.heap.size w w' := by
  rw [treesL_isSome]
  have hv0 := hv
  obtain ⟨vk, vl, rfl, i1, i2, i3, hk, hl⟩ := hv
  obtain ⟨ak, ck, rfl, hkl⟩ := hk.open'
  obtain ⟨al, cl, rfl, hll⟩ := hl.open'
  have hA := below_alloc1 w (.cells #[.int .i64 t.kind, .int .i64 t.num, .string t.str, .slice ak t.keys.length ck, .slice al t.list.length cl] 29)
  have k0 := Blk5.new w 29 (.int .i64 t.kind) (.int .i64 t.num) (.string t.str) (.slice ak t.keys.length ck) (.slice al t.list.length cl)
  go_enter Tryz.func32, Tryz.ntmps32
  go_wp2_with fail
  refine (specValOk_any (d + 1) S t _ _ (hv0.same (hS.same hA)) (hS.later hA.size) hsm).mono ?_
  rintro e w1 ⟨rfl, hb1⟩
  replace k0 := k0.below hb1
  have HB := hide (below_trans hA hb1)
  obtain ⟨x0, x1, x2, x3, x4⟩ := k0.cell
  clear hb1 hA hv0 hk hl k0
  cases hf : okT (d + 1) t with
  | false =>
    go_wp2_with fail
    go_ret
    exact ⟨by rw [hf]; rfl, HB.out⟩
  | true =>
    go_wp2_with fail
    go_ret
    exact ⟨by rw [hf]; rfl, HB.out⟩

/-- A row of the model's, made out of trees that lie elsewhere, as a tree. -/
theorem rowV_at {d N : Nat} {S : Nat → Prop} {w w' : World} {lv : Value} {xs : List (Tr d)} {vs : List Value} (h : VTo S N w lv xs vs) (hl : xs.length ≤ 100000) (hb : Below w.heap.size w w') (hS : Within S w) :
    ValAt (fun b => S b ∨ (N ≤ b ∧ b < w'.heap.size)) w' (d + 1) (rowT d xs) (.agg #[.int .i64 5, .int .i64 0, .string ByteArray.empty, .slice none 0 0, lv]) := by
  have hz := hb.size
  have hrow := h.at (by omega)
  have hmv : Same (fun b => S b ∨ (N ≤ b ∧ b < w.heap.size)) w w' := fun b hb' => hb.block b (by rcases hb' with h | h; exact hS b h; exact h.2)
  have hin : ∀ b, (S b ∨ (N ≤ b ∧ b < w.heap.size)) → (S b ∨ (N ≤ b ∧ b < w'.heap.size)) := fun b hb' => by
    rcases hb' with h | h
    · exact Or.inl h
    · exact Or.inr ⟨h.1, by omega⟩
  exact ⟨_, _, rfl, ⟨by show _ ≤ (5 : Int); omega, by show (5 : Int) ≤ _; omega⟩, ⟨by show _ ≤ (0 : Int); omega, by show (0 : Int) ≤ _; omega⟩, by show (0 : Nat) < _; omega, ⟨by show (0 : Nat) < _; omega, (fun s hs => by cases hs), none, 0, rfl, Or.inl rfl⟩, hrow.moved hmv hin (fun y u hy => ValAt.moved hmv hin _ y u hy)⟩
/-- A row's value is a slice of just so many. -/
theorem VTo.slice {d N : Nat} {S : Nat → Prop} {w : World} {lv : Value} {xs : List (Tr d)} {vs : List Value} (h : VTo S N w lv xs vs) : ∃ a c, lv = .slice a xs.length c := by
  rcases h.1.2 with ⟨rfl, h0⟩ | ⟨g, cap, cur, rfl, _⟩
  · exact ⟨none, 0, by rw [h0]⟩
  · exact ⟨_, _, rfl⟩
/-- A row of nothing, as it is made. -/
theorem VTo.start {d : Nat} (S : Nat → Prop) (w : World) : VTo (d := d) S w.heap.size (w.alloc (.cells #[] 29)) (.slice (some ⟨w.heap.size, 0, none⟩) 0 0) [] [] :=
  ⟨⟨rfl, Or.inr ⟨w.heap.size, 0, #[], rfl, Nat.le_refl _, heap_alloc_new w _, Nat.le_refl _, Nat.zero_le _, rfl, rfl⟩⟩, fun j x h => by simp at h⟩
/-- One tree more, from elsewhere. -/
theorem VTo.push {d N : Nat} {S : Nat → Prop} {w1 wr w2 : World} {lv lv' : Value} {xs : List (Tr d)} {vs : List Value} {x : Tr d} {v0 v1 v2 v3 v4 : Value} {o : Obj} (h : VTo S N wr lv xs vs) (hS : ∀ b, S b → b < N) (hN : N ≤ wr.heap.size) (hb : Below N w1 wr) (hx : ValAt S wr d x (.agg #[v0, v1, v2, v3, v4]))
    (hown : w2.ownsRow N 29 5 lv' (xs.length + 1) (vs ++ [v0, v1, v2, v3, v4])) (hg : (wr.alloc o).grownBy w2 lv.ownBlock) : VTo S N w2 lv' (xs ++ [x]) (vs ++ [v0, v1, v2, v3, v4]) ∧ Below N w1 w2 ∧ N ≤ w2.heap.size := by
  have hz : (wr.alloc o).heap.size = wr.heap.size + 1 := by simp
  have hs2 := hg.size
  have hrow : ∀ g, lv.ownBlock = some g → N ≤ g := fun g hg' => (h.1.lt g hg').1
  have hblk : ∀ b, b < N → w2.heap[b]? = wr.heap[b]? := fun b hb' => (hg.block b (by omega) (fun e => by have := hrow b e.symm; omega)).trans (Below.heap_alloc _ _ _ (by omega))
  refine ⟨h.grow (fun b hb' => hblk b (hS b hb')) hx hown, ⟨hg.os.trans hb.os, hg.tape.trans hb.tape, hg.output.trans hb.output, ?_, fun b hb' => (hblk b hb').trans (hb.block b hb')⟩, by omega⟩
  have := hb.size
  omega
end Go.Proofs.YtilgbnnjecpneaaGreatDoor

/- RowKeys: trees by keys, out of pairs. -/
namespace Go.Proofs.YtilgbnnjecpneaaGreatDoor
open Go.RowKit Go.Deep

/-- What is known of the trees by keys that are there by then. -/
structure AccOk {d : Nat} (k : Nat) (acc : List (ByteArray × Tr (d + 1))) : Prop where
  len : acc.length ≤ k
  good : keysB (acc.map Prod.fst) = true
  trees : ∀ p ∈ acc, okT (d + 1) p.2 = true
theorem AccOk.nil {d : Nat} : AccOk (d := d) 0 [] := ⟨Nat.le_refl _, rfl, fun p h => by cases h⟩
theorem mem_putK {α : Type} {s : ByteArray} {x : α} : ∀ {ks : List ByteArray} {xs : List α} {p : ByteArray × α}, p ∈ putL ks xs s x → p ∈ ks.zip xs ∨ p = (s, x)
  | [], _, p, h => by rw [putL] at h; exact Or.inr (List.mem_singleton.1 h)
  | _ :: _, [], p, h => by rw [putL] at h; exact Or.inr (List.mem_singleton.1 h)
  | k :: ks, y :: ys, p, h => by
    rw [putL] at h
    rw [zip_cons]
    split at h
    · rcases List.mem_cons.1 h with h | h
      · exact Or.inl (by rw [h]; exact List.mem_cons_self ..)
      · rcases mem_putK h with h | h
        · exact Or.inl (List.mem_cons_of_mem _ h)
        · exact Or.inr h
    · split at h
      · rcases List.mem_cons.1 h with h | h
        · exact Or.inr h
        · exact Or.inl (List.mem_cons_of_mem _ h)
      · rcases List.mem_cons.1 h with h | h
        · exact Or.inr h
        · exact Or.inl h
theorem AccOk.put {d k : Nat} {acc : List (ByteArray × Tr (d + 1))} {s : ByteArray} {x : Tr (d + 1)} (h : AccOk k acc) (hs : strOk s = true) (hx : okT (d + 1) x = true) : AccOk (k + 1) (putL (acc.map Prod.fst) (acc.map Prod.snd) s x) := by
  have hl := putL_length (acc.map Prod.fst) (acc.map Prod.snd) s x
  rw [List.length_map] at hl
  refine ⟨by have := h.len; omega, putL_keys hs (by rw [List.length_map, List.length_map]) h.good (fun q e => by cases e), fun p hp => ?_⟩
  rcases mem_putK hp with hp | hp
  · rw [zip_unzip] at hp
    exact h.trees p hp
  · rw [hp]; exact hx
theorem AccOk.nodes {d k : Nat} {acc : List (ByteArray × Tr (d + 1))} (h : AccOk k acc) (hk : k ≤ 1000) : (nodes (d + 2) (mapT (d + 1) acc) : Int) ≤ 4194304 := by
  have h1 : ∀ y ∈ acc.map Prod.snd, Go.Proofs.YtilgbnnjecpneaaGreatDoor.nodes (d + 1) y ≤ 300 := fun y hy => by
    obtain ⟨p, hp, rfl⟩ := List.mem_map.1 hy
    exact nodes_ok (h.trees p hp)
  have h2 := sum_le_of h1
  rw [List.length_map] at h2
  have h3 := h.len
  have h4 : Go.Proofs.YtilgbnnjecpneaaGreatDoor.nodes (d + 2) (mapT (d + 1) acc) = 1 + ((acc.map Prod.snd).map (Go.Proofs.YtilgbnnjecpneaaGreatDoor.nodes (d + 1))).sum := rfl
  rw [h4]
  omega
/-- The parts of an ok pair. -/
theorem okT_text {d : Nat} {t : Tr (d + 1)} (h : okT (d + 1) t = true) (h4 : Nd.kind t = 4) : strOk (Nd.str t) = true := by
  obtain ⟨hf, _⟩ := okT_form h
  obtain ⟨kind, num, str, keys, list⟩ := t
  have h4 : kind = 4 := h4
  subst h4
  cases hb : headBad 4 num str keys.length list.length 6 with
  | true => rw [formT_bad hb] at hf; cases hf
  | false =>
    rw [formT_good hb] at hf
    exact hf

/-- A map of the program's that is being made: its trees lie in blocks of S. -/
structure MapB {d : Nat} (S : Nat → Prop) (w : World) (r : Nat) (es : Array MapEntry) (ps acc : List (ByteArray × Tr d)) : Prop where
  obj : w.heap[r]? = some (.map es ps.length)
  perm : ps.Perm acc
  ent : MapG (TreeG S w d) es ps
theorem MapB.moved {d r : Nat} {S : Nat → Prop} {w w' : World} {es : Array MapEntry} {ps acc : List (ByteArray × Tr d)} (h : MapB S w r es ps acc) (hr : w'.heap[r]? = w.heap[r]?) (hs : Same S w w') : MapB S w' r es ps acc :=
  ⟨hr.trans h.obj, h.perm, h.ent.moved (fun x u hx => TreeG.moved hs (fun _ h => h) d x u hx)⟩
theorem set_perm {α : Type} {s : ByteArray} {x : α} {ps acc : List (ByteArray × α)} {i j : Nat} {y z : α} (hp : ps.Perm acc) (hnd : (acc.map Prod.fst).Nodup) (hi : ps[i]? = some (s, y)) (hj : acc[j]? = some (s, z)) : (ps.set i (s, x)).Perm (acc.set j (s, x)) := by
  have hndp : (ps.map Prod.fst).Nodup := (hp.map Prod.fst).nodup_iff.2 hnd
  have split : ∀ (l : List (ByteArray × α)) (k : Nat) (v : ByteArray × α), l[k]? = some v → l.Perm (v :: l.eraseIdx k) ∧ (l.set k (s, x)).Perm ((s, x) :: l.eraseIdx k) := by
    intro l
    induction l with
    | nil => intro k v h; simp at h
    | cons a r ih =>
      intro k v h
      cases k with
      | zero =>
        simp at h
        subst h
        exact ⟨List.Perm.refl _, List.Perm.refl _⟩
      | succ k =>
        simp at h
        obtain ⟨h1, h2⟩ := ih k v h
        simp only [List.eraseIdx_cons_succ, List.set_cons_succ]
        exact ⟨(List.Perm.cons a h1).trans (List.Perm.swap _ _ _), (List.Perm.cons a h2).trans (List.Perm.swap _ _ _)⟩
  obtain ⟨a1, a2⟩ := split ps i _ hi
  obtain ⟨b1, b2⟩ := split acc j _ hj
  have hyz : y = z := by
    have hm : (s, y) ∈ acc := hp.mem_iff.1 (List.mem_of_getElem? hi)
    have hn := (b1.map Prod.fst).nodup_iff.1 hnd
    rw [List.map_cons, List.nodup_cons] at hn
    rcases List.mem_cons.1 (b1.mem_iff.1 hm) with e | e
    · cases e; rfl
    · exact absurd (List.mem_map.2 ⟨_, e, rfl⟩) hn.1
  subst hyz
  have hc : (ps.eraseIdx i).Perm (acc.eraseIdx j) := (a1.symm.trans (hp.trans b1)).cons_inv
  exact a2.trans ((List.Perm.cons _ hc).trans b2.symm)
/-- A tree is put at a key of it. -/
theorem MapB.put {d r : Nat} {S : Nat → Prop} {w : World} {es : Array MapEntry} {ps acc : List (ByteArray × Tr d)} {s : ByteArray} {x : Tr d} {u : Value} (h : MapB S w r es ps acc) (hg : keysB (acc.map Prod.fst) = true) (hr : ¬ S r) (hu : TreeG S w d x u) :
    ∃ w' es' ps', (Instr.mapUpdate 118 (.map (some r)) (.string s) u).run Tryz.prog w = .ok () w' ∧ Below r w w' ∧ w'.heap.size = w.heap.size ∧ (∀ b, b ≠ r → w'.heap[b]? = w.heap[b]?) ∧ MapB S w' r es' ps' (putL (acc.map Prod.fst) (acc.map Prod.snd) s x) := by
  have hrl := (Array.getElem?_eq_some_iff.1 h.obj).1
  have hsz : ∀ o, (withObj w r o).heap.size = w.heap.size := fun o => by simp [withObj]
  have hblk : ∀ o b, b ≠ r → (withObj w r o).heap[b]? = w.heap[b]? := fun o b hb => withObj_block w r o b hb
  have hmv : ∀ o y v, TreeG S w d y v → TreeG S (withObj w r o) d y v := fun o y v hy => TreeG.moved (fun b hb => hblk o b (fun e => hr (e ▸ hb))) (fun _ h => h) d y v hy
  have hobj : ∀ o, (withObj w r o).heap[r]? = some o := fun o => by simp [withObj, hrl]
  have hlen : (acc.map Prod.fst).length = (acc.map Prod.snd).length := by rw [List.length_map, List.length_map]
  have hnd : (acc.map Prod.fst).Nodup := keysB_nodup hg
  have hndp : (ps.map Prod.fst).Nodup := (h.perm.map Prod.fst).nodup_iff.2 hnd
  by_cases hm : s ∈ acc.map Prod.fst
  · obtain ⟨q, hq, hqs⟩ := List.mem_map.1 hm
    obtain ⟨qs, qy⟩ := q
    have hqs : qs = s := hqs
    subst hqs
    obtain ⟨j, v, hpj, hej, _, hbefore⟩ := h.ent.find hndp (h.perm.mem_iff.2 hq)
    obtain ⟨k, hk⟩ := List.getElem?_of_mem hq
    have hkk : (acc.map Prod.fst)[k]? = some qs := by rw [List.getElem?_map, hk]; rfl
    have hth : putL (acc.map Prod.fst) (acc.map Prod.snd) qs x = acc.set k (qs, x) := by
      rw [putL_there (p := none) hlen hg hkk, zip_unzip]
    have hjl := (List.getElem?_eq_some_iff.1 hpj).1
    refine ⟨_, es.modify j fun e => { e with key := .string qs, val := u }, ps.set j (qs, x), run_mapSet w r ps.length j es qs u v j h.obj hej hbefore, below_withObj _ _ (Nat.le_refl _), hsz _, hblk _, ?_, ?_, ?_⟩
    · rw [hobj, List.length_set]
    · rw [hth]; exact set_perm h.perm hnd hpj hk
    · refine ⟨by rw [Array.size_modify, List.length_set]; exact h.ent.1, fun i k' z hi => ?_⟩
      by_cases e : j = i
      · subst e
        rw [List.getElem?_set_self (by omega)] at hi
        cases hi
        exact ⟨u, by simp [Array.getElem?_modify, hej], hmv _ _ _ hu⟩
      · rw [List.getElem?_set_ne e] at hi
        obtain ⟨v', hv', ha⟩ := h.ent.2 i k' z hi
        exact ⟨v', by rw [Array.getElem?_modify, if_neg e]; exact hv', hmv _ _ _ ha⟩
  · have hmiss := h.ent.miss (s := s) (fun hp => hm ((h.perm.map Prod.fst).mem_iff.1 hp))
    have hp := putL_new (x := x) hlen hm
    rw [zip_unzip] at hp
    refine ⟨_, es.push ⟨.string s, u, ps.length⟩, ps ++ [(s, x)], run_mapPush w r ps.length es s u h.obj hmiss, below_withObj _ _ (Nat.le_refl _), hsz _, hblk _, ?_, ?_, ?_⟩
    · rw [hobj, List.length_append, List.length_singleton]
    · exact (h.perm.append_right _).trans hp
    · refine ⟨by rw [Array.size_push, List.length_append, List.length_singleton, h.ent.1], fun i k z hi => ?_⟩
      have hes : es.size = ps.length := h.ent.1
      by_cases e : i < ps.length
      · rw [List.getElem?_append_left e] at hi
        obtain ⟨v', hv', ha⟩ := h.ent.2 i k z hi
        exact ⟨v', by rw [Array.getElem?_push, if_neg (by omega)]; exact hv', hmv _ _ _ ha⟩
      · have hil := (List.getElem?_eq_some_iff.1 hi).1
        rw [List.length_append, List.length_singleton] at hil
        obtain rfl : i = ps.length := by omega
        rw [List.getElem?_append_right (Nat.le_refl _), Nat.sub_self] at hi
        cases hi
        exact ⟨u, by rw [Array.getElem?_push, if_pos hes.symm], hmv _ _ _ hu⟩
/-- .. as a tree. -/
theorem MapB.tree {d r : Nat} {S : Nat → Prop} {w : World} {es : Array MapEntry} {ps acc : List (ByteArray × Tr d)} (h : MapB S w r es ps acc) (hg : keysB (acc.map Prod.fst) = true) (hl : acc.length ≤ 1000) {N : Nat} (hr : N ≤ r) (hS : ∀ b, S b → N ≤ b ∧ b < w.heap.size) : TreeG (fun b => N ≤ b ∧ b < w.heap.size) w (d + 1) (mapT d acc) (.iface 120 (.agg #[.map (some r)])) :=
  Or.inr (Or.inr (Or.inr (Or.inr ⟨acc.map Prod.fst, acc.map Prod.snd, ps, r, es, by rw [List.length_map]; exact hl, hg, by rw [List.length_map, List.length_map], by rw [zip_unzip]; exact h.perm, rfl, rfl, ⟨hr, (Array.getElem?_eq_some_iff.1 h.obj).1⟩, h.obj, h.ent.moved (fun x u hx => TreeG.mono hx hS)⟩)))
end Go.Proofs.YtilgbnnjecpneaaGreatDoor

/- addMaps of the program: two maps put into a third. -/
namespace Go.Proofs.YtilgbnnjecpneaaGreatDoor
open Go.RowKit Go.Deep

theorem range_pairs {α : Type} (qs : List α) : ∀ k, k ≤ qs.length → (List.range k).filterMap (fun i => qs[i]?) = qs.take k
  | 0, _ => by simp
  | k + 1, h => by
    have hk : k < qs.length := h
    rw [List.range_succ, List.filterMap_append, range_pairs qs k (by omega), List.take_succ_eq_append_getElem hk]
    simp [hk]
theorem seen_pairs {α : Type} (qs : List α) {seen : List Nat} (h : seen.Perm (List.range qs.length)) : (seen.filterMap (fun i => qs[i]?)).Perm qs := by
  have h1 := h.filterMap (fun i => qs[i]?)
  rw [range_pairs qs qs.length (Nat.le_refl _), List.take_of_length_le (Nat.le_refl _)] at h1
  exact h1
theorem putAll_push {α : Type} (ps : List (ByteArray × α)) (qs : List (ByteArray × α)) (seen : List Nat) (i : Nat) {q : ByteArray × α} (h : qs[i]? = some q) : putAll ps ((seen ++ [i]).filterMap (fun i => qs[i]?)) = putP (putAll ps (seen.filterMap (fun i => qs[i]?))) q := by
  rw [List.filterMap_append]
  unfold putAll
  rw [List.foldl_append]
  simp [h]
theorem putP_len {α : Type} (ps : List (ByteArray × α)) (q : ByteArray × α) : (putP ps q).length ≤ ps.length + 1 := by
  have := putL_length (ps.map Prod.fst) (ps.map Prod.snd) q.1 q.2
  rw [List.length_map] at this
  exact this
theorem putAll_len {α : Type} : ∀ (qs ps : List (ByteArray × α)), (putAll ps qs).length ≤ ps.length + qs.length
  | [], _ => Nat.le_refl _
  | q :: r, ps => by
    have h1 := putAll_len r (putP ps q)
    have h2 := putP_len ps q
    show (putAll (putP ps q) r).length ≤ _
    rw [List.length_cons]
    omega

theorem num_bounds {d : Nat} {t : Tr (d + 1)} (h : okT (d + 1) t = true) : Nd.kind t = 3 → -1000000 ≤ Nd.num t ∧ Nd.num t ≤ 1000000 := fun h3 => by
  obtain ⟨hf, _⟩ := okT_form h
  obtain ⟨kind, num, str, keys, list⟩ := t
  have h3 : kind = 3 := h3
  subst h3
  cases hb : headBad 3 num str keys.length list.length 6 with
  | true => rw [formT_bad hb] at hf; cases hf
  | false =>
    rw [formT_good hb] at hf
    simp at hf
    exact hf
theorem str_bounds {d : Nat} {t : Tr (d + 1)} (h : okT (d + 1) t = true) : Nd.kind t = 4 → (Nd.str t).size ≤ 12 := fun h4 => strOk_size (okT_text h h4)

/-- What stands while the pairs of one map are put into another. -/
structure Adding {d : Nat} (S : Nat → Prop) (B : Nat) (w wr : World) (rp ri m : Nat) (qs acc0 : List (ByteArray × Tr d)) (seen : List Nat) (es : Array MapEntry) (ps : List (ByteArray × Tr d)) : Prop where
  nodup : seen.Nodup
  lt : ∀ i ∈ seen, i < qs.length
  iter : Iter wr ri m qs.length seen
  map : MapB S wr rp es ps (putAll acc0 (seen.filterMap (fun i => qs[i]?)))
  good : keysB ((putAll acc0 (seen.filterMap (fun i => qs[i]?))).map Prod.fst) = true
  but : ∀ c, c < ri → c ≠ rp → wr.heap[c]? = w.heap[c]?
  below : Below B w wr

theorem Adding.step {d B : Nat} {S : Nat → Prop} {w wr w1 w2 : World} {rp ri m i : Nat} {qs acc0 : List (ByteArray × Tr d)} {seen : List Nat} {es es2 : Array MapEntry} {ps ps2 : List (ByteArray × Tr d)} {s : ByteArray} {x : Tr d} (h : Adding S B w wr rp ri m qs acc0 seen es ps) (hi : i < qs.length) (hq : qs[i]? = some (s, x)) (hn : i ∉ seen) (hs : strOk s = true) (hI : Iter w1 ri m qs.length (seen ++ [i])) (hoff : OneOff ri wr w1) (hne : ri ≠ rp)
    (hsz : w2.heap.size = w1.heap.size) (hblk : ∀ b, b ≠ rp → w2.heap[b]? = w1.heap[b]?) (hbel : Below rp w1 w2) (hm2 : MapB S w2 rp es2 ps2 (putL ((putAll acc0 (seen.filterMap (fun i => qs[i]?))).map Prod.fst) ((putAll acc0 (seen.filterMap (fun i => qs[i]?))).map Prod.snd) s x)) (hB1 : B ≤ rp) (hB2 : B ≤ ri) : Adding S B w w2 rp ri m qs acc0 (seen ++ [i]) es2 ps2 := by
  have hpp := putAll_push acc0 qs seen i hq
  refine ⟨?_, fun j hj => ?_, (hblk ri hne).trans hI, ?_, ?_, fun c hc hcp => (hblk c hcp).trans ((hoff.block c (by omega)).trans (h.but c hc hcp)), ?_⟩
  · rw [List.nodup_append]
    exact ⟨h.nodup, by simp, fun a ha b hb e => by simp at hb; subst hb; subst e; exact hn ha⟩
  · rcases List.mem_append.1 hj with hj | hj
    · exact h.lt j hj
    · rw [List.mem_singleton.1 hj]; exact hi
  · rw [hpp]; exact hm2
  · rw [hpp]; exact putP_order (q := (s, x)) hs h.good
  · exact ⟨hbel.os.trans (hoff.os.trans h.below.os), hbel.tape.trans (hoff.tape.trans h.below.tape), hbel.output.trans (hoff.output.trans h.below.output), by rw [hsz, hoff.size]; exact h.below.size, fun c hc => (hblk c (by omega)).trans ((hoff.block c (by omega)).trans (h.below.block c hc))⟩

/-- What is known of a map that is gone through. -/
structure MapIn {d : Nat} (S : Nat → Prop) (w : World) (r : Nat) (es : Array MapEntry) (qs ps : List (ByteArray × Tr d)) : Prop where
  obj : w.heap[r]? = some (.map es qs.length)
  ent : MapG (TreeG S w d) es qs
  perm : qs.Perm ps
  keys : keysB (ps.map Prod.fst) = true
theorem MapIn.ok {d r : Nat} {S : Nat → Prop} {w : World} {es : Array MapEntry} {qs ps : List (ByteArray × Tr d)} (h : MapIn S w r es qs ps) {i : Nat} {s : ByteArray} {x : Tr d} (hq : qs[i]? = some (s, x)) : strOk s = true :=
  keys_ok h.keys (s, x) (h.perm.mem_iff.1 (List.mem_of_getElem? hq))
theorem MapIn.born {d r : Nat} {S : Nat → Prop} {w : World} {es : Array MapEntry} {qs ps : List (ByteArray × Tr d)} (h : MapIn S w r es qs ps) : ∀ (j : Nat) (e : MapEntry), es[j]? = some e → e.born = j := fun j e hx => by
  have hes := h.ent.1
  have hj := (Array.getElem?_eq_some_iff.1 hx).1
  obtain ⟨u, hu, _⟩ := h.ent.2 j qs[j].1 qs[j].2 (List.getElem?_eq_getElem (by omega))
  rw [hx] at hu
  cases hu
  rfl
theorem MapIn.at {d r : Nat} {S : Nat → Prop} {w : World} {es : Array MapEntry} {qs ps : List (ByteArray × Tr d)} (h : MapIn S w r es qs ps) {i : Nat} {e : MapEntry} (he : es[i]? = some e) : ∃ s x u, qs[i]? = some (s, x) ∧ e = ⟨.string s, u, i⟩ ∧ TreeG S w d x u := by
  have hes := h.ent.1
  have hj := (Array.getElem?_eq_some_iff.1 he).1
  have hq : qs[i]? = some (qs[i].1, qs[i].2) := List.getElem?_eq_getElem (by omega)
  obtain ⟨u, hu, hv⟩ := h.ent.2 i _ _ hq
  rw [he] at hu
  cases hu
  exact ⟨_, _, u, hq, rfl, hv⟩
theorem MapIn.done {d r : Nat} {S : Nat → Prop} {w : World} {es : Array MapEntry} {qs ps acc0 : List (ByteArray × Tr d)} (h : MapIn S w r es qs ps) {seen : List Nat} (hp : seen.Perm (List.range qs.length)) (ho : keysB (acc0.map Prod.fst) = true) : putAll acc0 (seen.filterMap (fun i => qs[i]?)) = putAll acc0 ps := by
  have h1 : (seen.filterMap (fun i => qs[i]?)).Perm ps := (seen_pairs qs hp).trans h.perm
  have h2 := keys_pairwise h.keys
  refine putAll_perm h1 (h1.symm.pairwise h2 (fun h => Ne.symm h)) (fun q hq => keys_ok h.keys q (h1.mem_iff.1 hq)) ho
theorem MapIn.later {d r : Nat} {S : Nat → Prop} {w w' : World} {es : Array MapEntry} {qs ps : List (ByteArray × Tr d)} (h : MapIn S w r es qs ps) (hr : w'.heap[r]? = w.heap[r]?) (hs : Same S w w') : MapIn S w' r es qs ps :=
  ⟨hr.trans h.obj, h.ent.moved (fun x u hx => TreeG.moved hs (fun _ h => h) d x u hx), h.perm, h.keys⟩

set_option maxRecDepth 100000 in
set_option maxHeartbeats 4000000 in
theorem addMaps_any (d N : Nat) (S : Nat → Prop) (ra rb : Nat) (ea eb : Array MapEntry) (qa pa qb pb : List (ByteArray × Tr d)) (w : World) (ha : MapIn S w ra ea qa pa) (hb : MapIn S w rb eb qb pb) (hS : ∀ c, S c → N ≤ c ∧ c < w.heap.size) (hN : N ≤ w.heap.size) (hl : pa.length + pb.length ≤ 1000) :
    Calls Tryz.prog 83 #[.agg #[.map (some ra)], .agg #[.map (some rb)]] w fun e w' => ∃ u, e = .returned u ∧ TreeG (fun c => N ≤ c ∧ c < w'.heap.size) w' (d + 1) (mapT d (putAll pa pb)) u ∧ Below w.heap.size w w' := by
  have hral := (Array.getElem?_eq_some_iff.1 ha.obj).1
  have hrbl := (Array.getElem?_eq_some_iff.1 hb.obj).1
  have hmk := fun w => run_makeMap (P := Tryz.prog) 118 w
  obtain ⟨W1, hW1⟩ : ∃ W1, W1 = ((w.alloc (.cells #[.map (some ra)] 120)).alloc (.cells #[.map (some rb)] 120)).alloc (.map #[] 0) := ⟨_, rfl⟩
  have hB1 : Below w.heap.size w W1 := by rw [hW1]; exact below_trans (below_trans (below_alloc1 _ _) (below_alloc1 _ _)) (below_alloc1 _ _)
  have hz1 : W1.heap.size = w.heap.size + 3 := by rw [hW1]; simp
  have hp1 : W1.heap[w.heap.size + 2]? = some (.map #[] 0) := by
    have := heap_alloc_new ((w.alloc (.cells #[.map (some ra)] 120)).alloc (.cells #[.map (some rb)] 120)) (.map #[] 0)
    rw [hW1]
    simpa using this
  have hbx : W1.heap[w.heap.size + 1]? = some (.cells #[.map (some rb)] 120 (0, 0)) := by
    have h1 := heap_alloc_new (w.alloc (.cells #[.map (some ra)] 120)) (.cells #[.map (some rb)] 120)
    rw [World.size_alloc] at h1
    rw [hW1, Below.heap_alloc _ _ _ (by simp)]
    exact h1
  have hSw : Within S w := fun c hc => (hS c hc).2
  have HA := hide (ha.later (hB1.block ra hral) (hSw.same hB1))
  have HB := hide (hb.later (hB1.block rb hrbl) (hSw.same hB1))
  have hnS : ¬ S (w.heap.size + 2) := fun h => by have := hSw _ h; omega
  have hrunA := run_range_map (P := Tryz.prog) (T := 118) Tryz.underlying118 W1 ra qa.length ea HA.out.obj
  obtain ⟨W2, hW2⟩ : ∃ W2, W2 = W1.alloc (.mapIter (some ra) qa.length #[] qa.length) := ⟨_, rfl⟩
  have hB2 : Below W1.heap.size W1 W2 := by rw [hW2]; exact below_alloc1 _ _
  have hz2 : W2.heap.size = w.heap.size + 4 := by rw [hW2]; simp [hz1]
  have H1 : Hid (Adding (d := d) S w.heap.size W2 W2 (w.heap.size + 2) (w.heap.size + 3) ra qa [] [] #[] []) := by
    refine ⟨List.nodup_nil, (fun i h => by cases h), ?_, ⟨?_, List.Perm.refl _, rfl, fun i k x h => by simp at h⟩, rfl, fun _ _ _ => rfl, Below.refl _ _⟩
    · have := heap_alloc_new W1 (.mapIter (some ra) qa.length #[] qa.length)
      rw [hz1] at this
      rw [hW2]
      exact this
    · rw [hB2.block _ (by omega)]
      exact hp1
  have HW1 := hide hW1
  have HW2 := hide hW2
  have HA2 := hide (HA.out.later (hB2.block ra (by omega)) (fun c hc => hB2.block c (by have := hSw c hc; omega)))
  have HB2' := hide (HB.out.later (hB2.block rb (by omega)) (fun c hc => hB2.block c (by have := hSw c hc; omega)))
  have HBX : Hid (W2.heap[w.heap.size + 1]? = some (.cells #[.map (some rb)] 120 (0, 0))) := (hB2.block _ (by omega)).trans hbx
  have HB12 : Hid (Below w.heap.size w W2) := below_trans hB1 hB2
  have HL := hide hl
  clear hW1 hW2 ha hb HA HB hp1 hbx hB1 hB2 hl
  go_enter Tryz.func83, Tryz.ntmps83
  go_upto_region 2 with fail
  rw [← HW1.out]
  have hcA : W1.cell? ⟨w.heap.size, 0, none⟩ = some (.map (some ra)) := by
    have hh : W1.heap[w.heap.size]? = some (.cells #[.map (some ra)] 120 (0, 0)) := by
      rw [HW1.out, Below.heap_alloc _ _ _ (by simp; omega), Below.heap_alloc _ _ _ (by simp)]
      exact heap_alloc_new _ _
    simp [World.cell?, hh]
  go_wp2_with fail
  rw [← HW2.out]
  clear hrunA hcA
  go_loopg [6] qa.length (fun gk _ wr => ∃ (seen : List Nat) (es : Array MapEntry) (ps : List (ByteArray × Tr d)), seen.length + gk = qa.length ∧ Hid (Adding (d := d) S w.heap.size W2 wr (w.heap.size + 2) (w.heap.size + 3) ra qa [] seen es ps))
  case atStart => exact ⟨[], _, _, by simp, H1⟩
  case round =>
    clear H1
    obtain ⟨seen, es, ps, hlen, had⟩ := hrel
    have hobj2 : wr.heap[ra]? = some (.map ea qa.length) := (had.out.but ra (by omega) (by omega)).trans HA2.out.obj
    rcases run_next_map (P := Tryz.prog) wr (w.heap.size + 3) ra qa.length seen ea had.out.iter hobj2 HA2.out.ent.1 HA2.out.born with ⟨hall, hnext⟩ | ⟨i, e, w1, hi, hns, hei, hI, hoff, hnext⟩
    · have hperm := seen_all_perm had.out.nodup had.out.lt hall
      have hacc : putAll [] (seen.filterMap (fun i => qa[i]?)) = pa := by rw [HA2.out.done hperm rfl, putAll_nil HA2.out.keys]
      have hM1 := had.out.map
      rw [hacc] at hM1
      have hBr : Below w.heap.size w wr := HB12.out.trans had.out.below
      have hbut := had.out.but
      have hzr : W2.heap.size ≤ wr.heap.size := had.out.below.size
      have hobjb : wr.heap[rb]? = some (.map eb qb.length) := (hbut rb (by omega) (by omega)).trans HB2'.out.obj
      have hcB : wr.cell? ⟨w.heap.size + 1, 0, none⟩ = some (.map (some rb)) := by
        have hh := (hbut (w.heap.size + 1) (by omega) (by omega)).trans HBX.out
        simp [World.cell?, hh]
      have hrunB := run_range_map (P := Tryz.prog) (T := 118) Tryz.underlying118 wr rb qb.length eb hobjb
      obtain ⟨W3, hW3⟩ : ∃ W3, W3 = wr.alloc (.mapIter (some rb) qb.length #[] qb.length) := ⟨_, rfl⟩
      have hB3 : Below wr.heap.size wr W3 := by rw [hW3]; exact below_alloc1 _ _
      have HW3 := hide hW3
      have hri : wr.heap.size ≠ w.heap.size + 2 := by omega
      have HB3 := hide (HB2'.out.later (w' := W3) ((hB3.block rb (by omega)).trans (hbut rb (by omega) (by omega))) (fun c hc => (hB3.block c (by have := hSw c hc; omega)).trans (hbut c (by have := hSw c hc; omega) (by have := hSw c hc; omega))))
      have H2 : Hid (Adding (d := d) S w.heap.size W3 W3 (w.heap.size + 2) wr.heap.size rb qb pa [] es ps) := by
        refine ⟨List.nodup_nil, (fun i h => by cases h), ?_, hM1.moved (hB3.block _ (by omega)) (fun c hc => hB3.block c (by have := hSw c hc; omega)), HA2.out.keys, fun _ _ _ => rfl, Below.refl _ _⟩
        have := heap_alloc_new wr (.mapIter (some rb) qb.length #[] qb.length)
        rw [hW3]
        exact this
      have HB3w : Hid (Below w.heap.size w W3) := below_trans hBr hB3
      have hzb : w.heap.size + 4 ≤ wr.heap.size := by omega
      clear hM1 hacc hperm had hbut hB3 hBr hW3 hobj2 hall HB12 HBX hlen hobjb
      go_wp2_with fail
      rw [← HW3.out]
      clear hrunB hcB hnext
      obtain ⟨wo, hwo⟩ : ∃ wo : Nat, wo = wr.heap.size := ⟨_, rfl⟩
      go_loopg [8] qb.length (fun gk _ wz => ∃ (seen : List Nat) (es : Array MapEntry) (ps : List (ByteArray × Tr d)), seen.length + gk = qb.length ∧ Hid (Adding (d := d) S w.heap.size W3 wz (w.heap.size + 2) wr.heap.size rb qb pa seen es ps))
      case atStart => exact ⟨[], _, _, by simp, H2⟩
      case round =>
        rename World => wz
        clear H2
        obtain ⟨seen2, es2, ps2, hlen2, had2⟩ := hrel
        have hobj3 : wz.heap[rb]? = some (.map eb qb.length) := (had2.out.but rb (by omega) (by omega)).trans HB3.out.obj
        rcases run_next_map (P := Tryz.prog) wz wr.heap.size rb qb.length seen2 eb had2.out.iter hobj3 HB3.out.ent.1 HB3.out.born with ⟨hall, hnext⟩ | ⟨i, e, w1, hi, hns, hei, hI, hoff, hnext⟩
        · have hperm := seen_all_perm had2.out.nodup had2.out.lt hall
          have hacc : putAll pa (seen2.filterMap (fun i => qb[i]?)) = putAll pa pb := HB3.out.done hperm HA2.out.keys
          have hM2 := had2.out.map
          have hgd := had2.out.good
          rw [hacc] at hM2 hgd
          have hBz : Below w.heap.size w wz := HB3w.out.trans had2.out.below
          have hpl := putAll_len pb pa
          have HT := hide (hM2.tree hgd (by have := HL.out; omega) (N := N) (by omega) (fun c hc => ⟨(hS c hc).1, by have := (hS c hc).2; have := hBz.size; omega⟩))
          have HBZ := hide hBz
          clear hM2 hgd hacc hperm had2 hBz hobj3 hall hlen2 hpl
          go_wp2_with fail
          go_ret
          exact ⟨_, rfl, HT.out, HBZ.out⟩
        · obtain ⟨s, x, u, hq, rfl, hu⟩ := HB3.out.at hei
          have hentry := run_entry_map (P := Tryz.prog) w1 wr.heap.size rb qb.length i seen2 eb _ hI ((hoff.block rb (by omega)).trans hobj3) HB3.out.born hei
          have hsame : Same S W3 w1 := fun c hc => (hoff.block c (by have := hSw c hc; omega)).trans (had2.out.but c (by have := hSw c hc; omega) (by have := hSw c hc; omega))
          have hm1 := had2.out.map.moved (w' := w1) (hoff.block _ (by omega)) (fun c hc => hoff.block c (by have := hSw c hc; omega))
          have hu1 : TreeG S w1 d x u := TreeG.moved hsame (fun _ h => h) d x u hu
          obtain ⟨w2, es3, ps3, hrun, hbp, hsz2, hblk2, hm2⟩ := hm1.put (s := s) had2.out.good hnS hu1
          obtain ⟨Tu, u', rfl⟩ := hu1.iface
          have HAD := hide (had2.out.step hi hq hns (HB3.out.ok hq) hI hoff (by omega) hsz2 hblk2 hbp hm2 (by omega) (by omega))
          have hgk : 1 ≤ gk := by
            have h1 := seen_len_le HAD.out.nodup HAD.out.lt
            simp at h1
            omega
          clear hm2 hbp hblk2 hsz2 hm1 hsame hu hu1 had2 hq hI hoff hei hobj3 hns
          have HLN := hide hlen2
          clear hlen2
          go_wp2_with fail
          go_roundg (gk - 1)
          case rel => exact ⟨seen2 ++ [i], es3, ps3, by have := HLN.out; simp; omega, HAD⟩
          case measure => omega
    · obtain ⟨s, x, u, hq, rfl, hu⟩ := HA2.out.at hei
      have hentry := run_entry_map (P := Tryz.prog) w1 (w.heap.size + 3) ra qa.length i seen ea _ hI ((hoff.block ra (by omega)).trans hobj2) HA2.out.born hei
      have hsame : Same S W2 w1 := fun c hc => (hoff.block c (by have := hSw c hc; omega)).trans (had.out.but c (by have := hSw c hc; omega) (by have := hSw c hc; omega))
      have hm1 := had.out.map.moved (w' := w1) (hoff.block _ (by omega)) (fun c hc => hoff.block c (by have := hSw c hc; omega))
      have hu1 : TreeG S w1 d x u := TreeG.moved hsame (fun _ h => h) d x u hu
      obtain ⟨w2, es3, ps3, hrun, hbp, hsz2, hblk2, hm2⟩ := hm1.put (s := s) had.out.good hnS hu1
      obtain ⟨Tu, u', rfl⟩ := hu1.iface
      have HAD := hide (had.out.step hi hq hns (HA2.out.ok hq) hI hoff (by omega) hsz2 hblk2 hbp hm2 (by omega) (by omega))
      have hgk : 1 ≤ gk := by
        have h1 := seen_len_le HAD.out.nodup HAD.out.lt
        simp at h1
        omega
      clear hm2 hbp hblk2 hsz2 hm1 hsame hu hu1 had hq hI hoff hei hobj2 hns
      have HLN := hide hlen
      clear hlen
      go_wp2_with fail
      go_roundg (gk - 1)
      case rel => exact ⟨seen ++ [i], es3, ps3, by have := HLN.out; simp; omega, HAD⟩
      case measure => omega
end Go.Proofs.YtilgbnnjecpneaaGreatDoor
