/- What the walk keeps to: the stack says how the trees stand; what was met is known to be the same, or is open. -/
import Derived.Test.YtdmlpbkiomgloaaWWalkD
import Derived.Test.YtdmlpbkiomgloaaWMany
namespace Go.Proofs.Ytdmlpbkiomgloaa
open Go.RowKit Go.Deep

/-- Two trees, of whatever depth they are said to be, that are one. -/
def Alike : (d d' : Nat) → Tr d → Tr d' → Prop
  | d + 1, d' + 1, t, t' => Nd.kind t = Nd.kind t' ∧ Nd.num t = Nd.num t' ∧ Nd.str t = Nd.str t' ∧ Nd.keys t = Nd.keys t' ∧ (Nd.list t).length = (Nd.list t').length ∧
      ∀ (i : Nat) x x', (Nd.list t)[i]? = some x → (Nd.list t')[i]? = some x' → Alike d d' x x'
  | _, _, _, _ => False
def AlikeL (d d' : Nat) (xs : List (Tr d)) (ys : List (Tr d')) : Prop := xs.length = ys.length ∧ ∀ (i : Nat) x y, xs[i]? = some x → ys[i]? = some y → Alike d d' x y

theorem strs_det {S S' : Nat → Prop} {w : World} {v : Value} {ss ss' : List ByteArray} (h : StrsAt S w v ss) (h' : StrsAt S' w v ss') : ss = ss' := by
  obtain ⟨_, _, a, cap, rfl, h3⟩ := h
  obtain ⟨_, _, a', cap', hv, h3'⟩ := h'
  simp only [Value.slice.injEq] at hv
  obtain ⟨hva, hlen, _⟩ := hv
  rcases h3 with rfl | ⟨b, o, _, rfl, hc⟩
  · exact (List.eq_nil_of_length_eq_zero hlen.symm).symm
  rcases h3' with rfl | ⟨b', o', _, rfl, hc'⟩
  · exact List.eq_nil_of_length_eq_zero hlen
  cases hva
  refine List.ext_getElem hlen (fun i h1 h2 => ?_)
  have e1 := hc i _ (List.getElem?_eq_getElem h1)
  have e2 := hc' i _ (List.getElem?_eq_getElem h2)
  rw [e1] at e2
  simp only [Option.some.injEq, Value.string.injEq] at e2
  exact e2
theorem row_det {d d' : Nat} {S S' : Nat → Prop} {w : World} (ih : ∀ (t : Tr d) (t' : Tr d') (v : Value), ValAt S w d t v → ValAt S' w d' t' v → Alike d d' t t') {a : Option Addr} {n c c' : Nat} {xs : List (Tr d)} {ys : List (Tr d')}
    (h : RowAt S w (ValAt S w d) (.slice a n c) xs) (h' : RowAt S' w (ValAt S' w d') (.slice a n c') ys) : AlikeL d d' xs ys := by
  have hl : n = xs.length := by
    obtain ⟨_, a1, c1, hv, _⟩ := h
    cases hv
    rfl
  have hl' : n = ys.length := by
    obtain ⟨_, a1, c1, hv, _⟩ := h'
    cases hv
    rfl
  refine ⟨by omega, fun i x y hx hy => ?_⟩
  have hi := (List.getElem?_eq_some_iff.1 hx).1
  obtain ⟨b, o, x1, c0, c1, c2, c3, c4, rfl, _, hx1, e0, e1, e2, e3, e4, hval⟩ := h.cell hi
  obtain ⟨b', o', y1, c0', c1', c2', c3', c4', hab, _, hy1, e0', e1', e2', e3', e4', hval'⟩ := h'.cell (k := i) (by omega)
  cases hab
  rw [hx] at hx1
  cases hx1
  rw [hy] at hy1
  cases hy1
  rw [e0] at e0'
  rw [e1] at e1'
  rw [e2] at e2'
  rw [e3] at e3'
  rw [e4] at e4'
  cases e0'
  cases e1'
  cases e2'
  cases e3'
  cases e4'
  exact ih _ _ _ hval hval'
theorem val_det {S S' : Nat → Prop} {w : World} : ∀ (d d' : Nat) (t : Tr d) (t' : Tr d') (v : Value), ValAt S w d t v → ValAt S' w d' t' v → Alike d d' t t'
  | 0, _, _, _, _, h, _ => h.elim
  | d + 1, 0, _, _, _, _, h => h.elim
  | d + 1, d' + 1, t, t', v, h, h' => by
    obtain ⟨vk, vl, rfl, _, _, _, hk, hl⟩ := h
    obtain ⟨vk', vl', hv, _, _, _, hk', hl'⟩ := h'
    obtain ⟨al, cl, rfl, _⟩ := hl.open'
    simp only [Value.agg.injEq, Array.mk.injEq, List.cons.injEq, Value.int.injEq, Value.string.injEq, true_and, and_true] at hv
    obtain ⟨e0, e1, e2, rfl, rfl⟩ := hv
    obtain ⟨h1, h2⟩ := row_det (fun t t' v => val_det d d' t t' v) hl hl'
    exact ⟨e0, e1, e2, strs_det hk hk', h1, h2⟩

theorem alike_sum {d d' : Nat} (ih : ∀ (t : Tr d) (t' : Tr d'), Alike d d' t t' → nodes d t = nodes d' t') : ∀ (xs : List (Tr d)) (ys : List (Tr d')), AlikeL d d' xs ys → (xs.map (nodes d)).sum = (ys.map (nodes d')).sum
  | [], [], _ => rfl
  | [], _ :: _, h => absurd h.1 (by simp)
  | _ :: _, [], h => absurd h.1 (by simp)
  | x :: r, y :: s, h => by
    have h1 := ih x y (h.2 0 x y rfl rfl)
    have h2 := alike_sum ih r s ⟨by have := h.1; simpa using this, fun i a b ha hb => h.2 (i + 1) a b (by simpa using ha) (by simpa using hb)⟩
    simp only [List.map_cons, List.sum_cons, h1, h2]
theorem alike_nodes : ∀ (d d' : Nat) (t : Tr d) (t' : Tr d'), Alike d d' t t' → nodes d t = nodes d' t'
  | 0, _, _, _, h => by simp [Alike] at h
  | _ + 1, 0, _, _, h => by simp [Alike] at h
  | d + 1, d' + 1, t, t', h => by
    rw [nodes, nodes, alike_sum (alike_nodes d d') (Nd.list t) (Nd.list t') ⟨h.2.2.2.2.1, h.2.2.2.2.2⟩]
theorem alike_ordL {d d' : Nat} (ih : ∀ (a b : Tr d) (a' b' : Tr d'), Alike d d' a a' → Alike d d' b b' → ordT d a b = ordT d' a' b') : ∀ (xs ys : List (Tr d)) (xs' ys' : List (Tr d')), AlikeL d d' xs xs' → AlikeL d d' ys ys' →
    ordL (ordT d) xs ys = ordL (ordT d') xs' ys'
  | [], [], [], [], _, _ => rfl
  | [], _ :: _, [], _ :: _, _, _ => rfl
  | _ :: _, [], _ :: _, [], _, _ => rfl
  | x :: r, y :: s, x' :: r', y' :: s', h, k => by
    have h1 := ih x y x' y' (h.2 0 x x' rfl rfl) (k.2 0 y y' rfl rfl)
    have h2 := alike_ordL ih r s r' s' ⟨by have := h.1; simpa using this, fun i a b ha hb => h.2 (i + 1) a b (by simpa using ha) (by simpa using hb)⟩ ⟨by have := k.1; simpa using this, fun i a b ha hb => k.2 (i + 1) a b (by simpa using ha) (by simpa using hb)⟩
    rw [ordL, ordL, h1, h2]
  | [], _, _ :: _, _, h, _ => absurd h.1 (by simp)
  | _ :: _, _, [], _, h, _ => absurd h.1 (by simp)
  | _, [], _, _ :: _, _, k => absurd k.1 (by simp)
  | _, _ :: _, _, [], _, k => absurd k.1 (by simp)
theorem alike_ord : ∀ (d d' : Nat) (a b : Tr d) (a' b' : Tr d'), Alike d d' a a' → Alike d d' b b' → ordT d a b = ordT d' a' b'
  | 0, _, _, _, _, _, h, _ => by simp [Alike] at h
  | _ + 1, 0, _, _, _, _, h, _ => by simp [Alike] at h
  | d + 1, d' + 1, a, b, a', b', h, k => by
    have hl := alike_ordL (alike_ord d d') (Nd.list a) (Nd.list b) (Nd.list a') (Nd.list b') ⟨h.2.2.2.2.1, h.2.2.2.2.2⟩ ⟨k.2.2.2.2.1, k.2.2.2.2.2⟩
    obtain ⟨h1, h2, h3, h4, _⟩ := h
    obtain ⟨k1, k2, k3, k4, _⟩ := k
    have hh : headO (α := Tr d) a b = headO (α := Tr d') a' b' := by
      show orI (cmpI (Nd.kind a) (Nd.kind b)) (orI (cmpI (Nd.num a) (Nd.num b)) (orI (cmpS (Nd.str a) (Nd.str b)) (ordL cmpS (Nd.keys a) (Nd.keys b)))) = orI (cmpI (Nd.kind a') (Nd.kind b')) (orI (cmpI (Nd.num a') (Nd.num b')) (orI (cmpS (Nd.str a') (Nd.str b')) (ordL cmpS (Nd.keys a') (Nd.keys b'))))
      rw [h1, h2, h3, h4, k1, k2, k3, k4]
    rw [ordT, ordT, hl, hh]

/-- How the rest of two open lists stands. -/
def rest (f : Fr) : Int := ordL (ordT f.d) (f.la.drop f.pos) (f.lb.drop f.pos)
def full (f : Fr) : Int := ordL (ordT f.d) f.la f.lb
def ordS : List Fr → Int
  | [] => 0
  | f :: r => orI (rest f) (ordS r)
/-- Each two open lists stand as what is above them and their own rest. -/
def StkEq : Int → List Fr → Prop
  | _, [] => True
  | acc, f :: r => full f = orI acc (rest f) ∧ StkEq (orI acc (rest f)) r
/-- How many parts the first of two lists has. -/
def size1 (f : Fr) : Nat := (f.la.map (nodes f.d)).sum
def todo (f : Fr) : Nat := ((f.la.drop f.pos).map (nodes f.d)).sum
/-- What is left to be done. -/
def left : List Fr → Nat
  | [] => 0
  | f :: r => 2 * todo f + 1 + left r
def parts : List Fr → Nat
  | [] => 0
  | f :: r => todo f + parts r
/-- Two lists lie in memory. -/
def FrOk (S S' : Nat → Prop) (w : World) (f : Fr) : Prop := RowAt S w (ValAt S w f.d) f.va f.la ∧ RowAt S' w (ValAt S' w f.d) f.vb f.lb ∧ f.pos ≤ f.la.length ∧ f.pos ≤ f.lb.length
/-- The key of two lists. -/
def KeyOf (f : Fr) (k : Value) : Prop := ∃ a b ca cb, f.va = .slice (some a) f.la.length ca ∧ f.vb = .slice (some b) f.lb.length cb ∧ k = pairKey a b f.la.length f.lb.length
/-- What was met is the same, or open. -/
def Seen (S S' : Nat → Prop) (w : World) (es : List MapEntry) (stk : List Fr) : Prop := ∀ e ∈ es, ∃ f, FrOk S S' w f ∧ KeyOf f e.key ∧ (full f = 0 ∨ ∃ g ∈ stk, KeyOf g e.key)

theorem FrOk.moved {S S' : Nat → Prop} {w w' : World} {f : Fr} (h : FrOk S S' w f) (hs : Same S w w') (hs' : Same S' w w') : FrOk S S' w' f := ⟨h.1.same hs, h.2.1.same hs', h.2.2⟩

structure Inv (S S' : Nat → Prop) (w : World) (stk : List Fr) (es : List MapEntry) : Prop where
  ok : ∀ f ∈ stk, FrOk S S' w f
  eq : StkEq 0 stk
  nest : stk.Pairwise (fun f g => size1 f < size1 g)
  seen : Seen S S' w es stk
theorem Inv.moved {S S' : Nat → Prop} {w w' : World} {stk : List Fr} {es : List MapEntry} (h : Inv S S' w stk es) (hs : Same S w w') (hs' : Same S' w w') : Inv S S' w' stk es :=
  ⟨fun f hf => (h.ok f hf).moved hs hs', h.eq, h.nest, fun e he => by
    obtain ⟨f, h1, h2⟩ := h.seen e he
    exact ⟨f, h1.moved hs hs', h2⟩⟩

theorem Inv.pop {S S' : Nat → Prop} {w : World} {f : Fr} {r : List Fr} {es : List MapEntry} (h : Inv S S' w (f :: r) es) (h0 : rest f = 0) : Inv S S' w r es := by
  obtain ⟨h1, h2, h3, h4⟩ := h
  have hf : full f = 0 := by rw [h2.1, orI_zero, h0]
  refine ⟨fun g hg => h1 g (by simp [hg]), ?_, (List.pairwise_cons.1 h3).2, fun e he => ?_⟩
  · have := h2.2
    rwa [orI_zero, h0] at this
  · obtain ⟨g, k1, k2, k3⟩ := h4 e he
    rcases k3 with k3 | ⟨g', hg', k3⟩
    · exact ⟨g, k1, k2, Or.inl k3⟩
    · rcases List.mem_cons.1 hg' with rfl | hg'
      · exact ⟨g', h1 g' (by simp), k3, Or.inl hf⟩
      · exact ⟨g, k1, k2, Or.inr ⟨g', hg', k3⟩⟩

theorem ordT_parts {d : Nat} (x y : Tr (d + 1)) (xa xb : Value) : ordT (d + 1) x y = orI (headO (α := Tr d) x y) (full ⟨d, Nd.list x, Nd.list y, 0, xa, xb⟩) := rfl
theorem rest_new (d : Nat) (la lb : List (Tr d)) (va vb : Value) : rest ⟨d, la, lb, 0, va, vb⟩ = full ⟨d, la, lb, 0, va, vb⟩ := rfl
theorem rest_step {d pos : Nat} {la lb : List (Tr (d + 1))} {va vb xa xb : Value} {x y : Tr (d + 1)} (hx : la[pos]? = some x) (hy : lb[pos]? = some y) :
    rest ⟨d + 1, la, lb, pos, va, vb⟩ = orI (headO (α := Tr d) x y) (orI (full ⟨d, Nd.list x, Nd.list y, 0, xa, xb⟩) (rest ⟨d + 1, la, lb, pos + 1, va, vb⟩)) := by
  rw [← orI_assoc, ← ordT_parts]
  exact ordL_drop (ordT (d + 1)) hx hy
theorem size_child {d pos : Nat} {la lb : List (Tr (d + 1))} {va vb xa xb : Value} {x y : Tr (d + 1)} (hx : la[pos]? = some x) : size1 ⟨d, Nd.list x, Nd.list y, 0, xa, xb⟩ < size1 ⟨d + 1, la, lb, pos, va, vb⟩ := by
  have h := mem_sum_le (nodes (d + 1)) hx
  have e : nodes (d + 1) x = 1 + ((Nd.list x).map (nodes d)).sum := rfl
  show ((Nd.list x).map (nodes d)).sum < (la.map (nodes (d + 1))).sum
  omega
theorem todo_step {d pos : Nat} {la lb : List (Tr (d + 1))} {va vb xa xb : Value} {x y : Tr (d + 1)} (hx : la[pos]? = some x) :
    todo ⟨d + 1, la, lb, pos, va, vb⟩ = 1 + todo ⟨d, Nd.list x, Nd.list y, 0, xa, xb⟩ + todo ⟨d + 1, la, lb, pos + 1, va, vb⟩ := by
  obtain ⟨hk, e⟩ := List.getElem?_eq_some_iff.1 hx
  show ((la.drop pos).map (nodes (d + 1))).sum = 1 + (((Nd.list x).drop 0).map (nodes d)).sum + ((la.drop (pos + 1)).map (nodes (d + 1))).sum
  rw [List.drop_eq_getElem_cons hk, e]
  rfl

theorem Inv.push {S S' : Nat → Prop} {w : World} {d pos : Nat} {la lb : List (Tr (d + 1))} {va vb xa xb : Value} {r : List Fr} {x y : Tr (d + 1)} {es : List MapEntry} (h : Inv S S' w (⟨d + 1, la, lb, pos, va, vb⟩ :: r) es)
    (hx : la[pos]? = some x) (hy : lb[pos]? = some y) (h0 : headO (α := Tr d) x y = 0) (ha : RowAt S w (ValAt S w d) xa (Nd.list x)) (hb : RowAt S' w (ValAt S' w d) xb (Nd.list y)) :
    Inv S S' w (⟨d, Nd.list x, Nd.list y, 0, xa, xb⟩ :: ⟨d + 1, la, lb, pos + 1, va, vb⟩ :: r) es := by
  obtain ⟨h1, h2, h3, h4⟩ := h
  have hpa := (List.getElem?_eq_some_iff.1 hx).1
  have hpb := (List.getElem?_eq_some_iff.1 hy).1
  have hr := rest_step (va := va) (vb := vb) (xa := xa) (xb := xb) hx hy
  rw [h0, orI_zero] at hr
  have hf := h1 _ (List.mem_cons_self ..)
  obtain ⟨hn1, hn2⟩ := List.pairwise_cons.1 h3
  refine ⟨?_, ?_, ?_, ?_⟩
  · intro f hf'
    rcases List.mem_cons.1 hf' with rfl | hf'
    · exact ⟨ha, hb, Nat.zero_le _, Nat.zero_le _⟩
    · rcases List.mem_cons.1 hf' with rfl | hf'
      · exact ⟨hf.1, hf.2.1, hpa, hpb⟩
      · exact h1 f (by simp [hf'])
  · refine ⟨rfl, ?_, ?_⟩
    · rw [orI_zero, rest_new, ← hr]
      exact h2.1
    · rw [orI_zero, rest_new, ← hr]
      exact h2.2
  · refine List.pairwise_cons.2 ⟨?_, List.pairwise_cons.2 ⟨hn1, hn2⟩⟩
    intro g hg
    have hsz := size_child (lb := lb) (va := va) (vb := vb) (xa := xa) (xb := xb) (y := y) hx
    rcases List.mem_cons.1 hg with rfl | hg
    · exact hsz
    · exact Nat.lt_trans hsz (hn1 g hg)
  · intro e he
    obtain ⟨g, k1, k2, k3⟩ := h4 e he
    rcases k3 with k3 | ⟨g', hg', k3⟩
    · exact ⟨g, k1, k2, Or.inl k3⟩
    · rcases List.mem_cons.1 hg' with rfl | hg'
      · exact ⟨g, k1, k2, Or.inr ⟨⟨d + 1, la, lb, pos + 1, va, vb⟩, by simp, k3⟩⟩
      · exact ⟨g, k1, k2, Or.inr ⟨g', by simp [hg'], k3⟩⟩

theorem Inv.mark {S S' : Nat → Prop} {w : World} {f : Fr} {r : List Fr} {es : List MapEntry} (h : Inv S S' w (f :: r) es) {e : MapEntry} (hk : KeyOf f e.key) : Inv S S' w (f :: r) (es ++ [e]) := by
  refine ⟨h.ok, h.eq, h.nest, fun e' he => ?_⟩
  rcases List.mem_append.1 he with he | he
  · exact h.seen e' he
  · obtain rfl : e' = e := by simpa using he
    exact ⟨f, h.ok f (by simp), hk, Or.inr ⟨f, by simp, hk⟩⟩

theorem keyOf_alike {S S' : Nat → Prop} {w : World} {f : Fr} {d : Nat} {xs ys : List (Tr d)} {a b : Addr} {la lb ca cb : Nat} (hf : FrOk S S' w f) (hk : KeyOf f (pairKey a b la lb)) (hx : RowAt S w (ValAt S w d) (.slice (some a) la ca) xs) (hy : RowAt S' w (ValAt S' w d) (.slice (some b) lb cb) ys) :
    AlikeL f.d d f.la xs ∧ AlikeL f.d d f.lb ys := by
  obtain ⟨a', b', ca', cb', e1, e2, e3⟩ := hk
  simp only [pairKey, Value.agg.injEq] at e3
  simp at e3
  obtain ⟨rfl, rfl, e4, e5⟩ := e3
  have e4' : la = f.la.length := by omega
  have e5' : lb = f.lb.length := by omega
  subst e4'
  subst e5'
  have h1 := hf.1
  have h2 := hf.2.1
  rw [e1] at h1
  rw [e2] at h2
  exact ⟨row_det (fun t t' v => val_det f.d d t t' v) h1 hx, row_det (fun t t' v => val_det f.d d t t' v) h2 hy⟩

/-- What was met before is the same. -/
theorem Inv.met {S S' : Nat → Prop} {w : World} {d pos : Nat} {la lb : List (Tr (d + 1))} {va vb : Value} {r : List Fr} {x y : Tr (d + 1)} {es : List MapEntry} (h : Inv S S' w (⟨d + 1, la, lb, pos, va, vb⟩ :: r) es) (hx : la[pos]? = some x)
    {a b : Addr} {m n ca cb : Nat} (ha : RowAt S w (ValAt S w d) (.slice (some a) m ca) (Nd.list x)) (hb : RowAt S' w (ValAt S' w d) (.slice (some b) n cb) (Nd.list y)) (he : ∃ e ∈ es, e.key = pairKey a b m n) : ordL (ordT d) (Nd.list x) (Nd.list y) = 0 := by
  obtain ⟨e, he, hk⟩ := he
  obtain ⟨f, k1, k2, k3⟩ := h.seen e he
  rw [hk] at k2 k3
  rcases k3 with k3 | ⟨g, hg, k3⟩
  · obtain ⟨q1, q2⟩ := keyOf_alike k1 k2 ha hb
    rw [← alike_ordL (alike_ord f.d d) _ _ _ _ q1 q2]
    exact k3
  · exfalso
    obtain ⟨q1, _⟩ := keyOf_alike (h.ok g hg) k3 ha hb
    have hs : size1 g = ((Nd.list x).map (nodes d)).sum := alike_sum (alike_nodes g.d d) _ _ q1
    have hc : ((Nd.list x).map (nodes d)).sum < size1 ⟨d + 1, la, lb, pos, va, vb⟩ := size_child (lb := lb) (va := va) (vb := vb) (xa := va) (xb := vb) (y := y) hx
    rcases List.mem_cons.1 hg with rfl | hg
    · omega
    · have := (List.pairwise_cons.1 h.nest).1 g hg
      omega
theorem Inv.skip {S S' : Nat → Prop} {w : World} {d pos : Nat} {la lb : List (Tr (d + 1))} {va vb : Value} {r : List Fr} {x y : Tr (d + 1)} {es : List MapEntry} (h : Inv S S' w (⟨d + 1, la, lb, pos, va, vb⟩ :: r) es)
    (hx : la[pos]? = some x) (hy : lb[pos]? = some y) (h0 : headO (α := Tr d) x y = 0) (h5 : ordL (ordT d) (Nd.list x) (Nd.list y) = 0) : Inv S S' w (⟨d + 1, la, lb, pos + 1, va, vb⟩ :: r) es := by
  obtain ⟨h1, h2, h3, h4⟩ := h
  have hpa := (List.getElem?_eq_some_iff.1 hx).1
  have hpb := (List.getElem?_eq_some_iff.1 hy).1
  have hr := rest_step (va := va) (vb := vb) (xa := va) (xb := vb) hx hy
  have hfull : full ⟨d, Nd.list x, Nd.list y, 0, va, vb⟩ = 0 := h5
  rw [h0, orI_zero, hfull, orI_zero] at hr
  have hf := h1 _ (List.mem_cons_self ..)
  obtain ⟨hn1, hn2⟩ := List.pairwise_cons.1 h3
  refine ⟨?_, ?_, List.pairwise_cons.2 ⟨hn1, hn2⟩, ?_⟩
  · intro f hf'
    rcases List.mem_cons.1 hf' with rfl | hf'
    · exact ⟨hf.1, hf.2.1, hpa, hpb⟩
    · exact h1 f (by simp [hf'])
  · refine ⟨?_, ?_⟩
    · rw [← hr]
      exact h2.1
    · rw [← hr]
      exact h2.2
  · intro e he
    obtain ⟨g, k1, k2, k3⟩ := h4 e he
    rcases k3 with k3 | ⟨g', hg', k3⟩
    · exact ⟨g, k1, k2, Or.inl k3⟩
    · rcases List.mem_cons.1 hg' with rfl | hg'
      · exact ⟨g, k1, k2, Or.inr ⟨⟨d + 1, la, lb, pos + 1, va, vb⟩, by simp, k3⟩⟩
      · exact ⟨g, k1, k2, Or.inr ⟨g', by simp [hg'], k3⟩⟩
end Go.Proofs.Ytdmlpbkiomgloaa
