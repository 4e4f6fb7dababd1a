/- Texts of the proof, put together by program: WInv, WImplO. -/
import Derived.Test.YtilgbnnjecpneaaGreatDoorV19
import Derived.Test.YtilgbnnjecpneaaGreatDoorV2
/- What the walk keeps to: the stack says how the trees stand; what was met is known to be the same, or is open. -/
namespace Go.Proofs.YtilgbnnjecpneaaGreatDoor
open Go.RowKit Go.Deep

/-- Two trees, of whatever depth they are said to be, that are one. -/
def Alike : (d d' : Nat) → Tr d → Tr d' → Prop
  | d + 1, d' + 1, t, t' => Nd.kind t = Nd.kind t' ∧ Nd.num t = Nd.num t' ∧ Nd.str t = Nd.str t' ∧ Nd.keys t = Nd.keys t' ∧ (Nd.list t).length = (Nd.list t').length ∧
      ∀ (i : Nat) x x', (Nd.list t)[i]? = some x → (Nd.list t')[i]? = some x' → Alike d d' x x'
  | _, _, _, _ => False
def AlikeL (d d' : Nat) (xs : List (Tr d)) (ys : List (Tr d')) : Prop := xs.length = ys.length ∧ ∀ (i : Nat) x y, xs[i]? = some x → ys[i]? = some y → Alike d d' x y

theorem strs_det {S S' : Nat → Prop} {w : World} {v : Value} {ss ss' : List ByteArray} (h : StrsAt S w v ss) (h' : StrsAt S' w v ss') : ss = ss' := by
  obtain ⟨_, _, a, cap, rfl, h3⟩ := h
  obtain ⟨_, _, a', cap', hv, h3'⟩ := h'
  simp only [Value.slice.injEq] at hv
  obtain ⟨hva, hlen, _⟩ := hv
  rcases h3 with rfl | ⟨b, o, _, rfl, hc⟩
  · exact (List.eq_nil_of_length_eq_zero hlen.symm).symm
  rcases h3' with rfl | ⟨b', o', _, rfl, hc'⟩
  · exact List.eq_nil_of_length_eq_zero hlen
  cases hva
  refine List.ext_getElem hlen (fun i h1 h2 => ?_)
  have e1 := hc i _ (List.getElem?_eq_getElem h1)
  have e2 := hc' i _ (List.getElem?_eq_getElem h2)
  rw [e1] at e2
  simp only [Option.some.injEq, Value.string.injEq] at e2
  exact e2
theorem row_det {d d' : Nat} {S S' : Nat → Prop} {w : World} (ih : ∀ (t : Tr d) (t' : Tr d') (v : Value), ValAt S w d t v → ValAt S' w d' t' v → Alike d d' t t') {a : Option Addr} {n c c' : Nat} {xs : List (Tr d)} {ys : List (Tr d')}
    (h : RowAt S w (ValAt S w d) (.slice a n c) xs) (h' : RowAt S' w (ValAt S' w d') (.slice a n c') ys) : AlikeL d d' xs ys := by
  have hl : n = xs.length := by
    obtain ⟨_, a1, c1, hv, _⟩ := h
    cases hv
    rfl
  have hl' : n = ys.length := by
    obtain ⟨_, a1, c1, hv, _⟩ := h'
    cases hv
    rfl
  refine ⟨by omega, fun i x y hx hy => ?_⟩
  have hi := (List.getElem?_eq_some_iff.1 hx).1
  obtain ⟨b, o, x1, c0, c1, c2, c3, c4, rfl, _, hx1, e0, e1, e2, e3, e4, hval⟩ := h.cell hi
  obtain ⟨b', o', y1, c0', c1', c2', c3', c4', hab, _, hy1, e0', e1', e2', e3', e4', hval'⟩ := h'.cell (k := i) (by omega)
  cases hab
  rw [hx] at hx1
  cases hx1
  rw [hy] at hy1
  cases hy1
  rw [e0] at e0'
  rw [e1] at e1'
  rw [e2] at e2'
  rw [e3] at e3'
  rw [e4] at e4'
  cases e0'
  cases e1'
  cases e2'
  cases e3'
  cases e4'
  exact ih _ _ _ hval hval'
theorem val_det {S S' : Nat → Prop} {w : World} : ∀ (d d' : Nat) (t : Tr d) (t' : Tr d') (v : Value), ValAt S w d t v → ValAt S' w d' t' v → Alike d d' t t'
  | 0, _, _, _, _, h, _ => h.elim
  | d + 1, 0, _, _, _, _, h => h.elim
  | d + 1, d' + 1, t, t', v, h, h' => by
    obtain ⟨vk, vl, rfl, _, _, _, hk, hl⟩ := h
    obtain ⟨vk', vl', hv, _, _, _, hk', hl'⟩ := h'
    obtain ⟨al, cl, rfl, _⟩ := hl.open'
    simp only [Value.agg.injEq, Array.mk.injEq, List.cons.injEq, Value.int.injEq, Value.string.injEq, true_and, and_true] at hv
    obtain ⟨e0, e1, e2, rfl, rfl⟩ := hv
    obtain ⟨h1, h2⟩ := row_det (fun t t' v => val_det d d' t t' v) hl hl'
    exact ⟨e0, e1, e2, strs_det hk hk', h1, h2⟩

theorem alike_sum {d d' : Nat} (ih : ∀ (t : Tr d) (t' : Tr d'), Alike d d' t t' → nodes d t = nodes d' t') : ∀ (xs : List (Tr d)) (ys : List (Tr d')), AlikeL d d' xs ys → (xs.map (nodes d)).sum = (ys.map (nodes d')).sum
  | [], [], _ => rfl
  | [], _ :: _, h => absurd h.1 (by simp)
  | _ :: _, [], h => absurd h.1 (by simp)
  | x :: r, y :: s, h => by
    have h1 := ih x y (h.2 0 x y rfl rfl)
    have h2 := alike_sum ih r s ⟨by have := h.1; simpa using this, fun i a b ha hb => h.2 (i + 1) a b (by simpa using ha) (by simpa using hb)⟩
    simp only [List.map_cons, List.sum_cons, h1, h2]
theorem alike_nodes : ∀ (d d' : Nat) (t : Tr d) (t' : Tr d'), Alike d d' t t' → nodes d t = nodes d' t'
  | 0, _, _, _, h => by simp [Alike] at h
  | _ + 1, 0, _, _, h => by simp [Alike] at h
  | d + 1, d' + 1, t, t', h => by
    rw [nodes, nodes, alike_sum (alike_nodes d d') (Nd.list t) (Nd.list t') ⟨h.2.2.2.2.1, h.2.2.2.2.2⟩]
theorem alike_ordL {d d' : Nat} (ih : ∀ (a b : Tr d) (a' b' : Tr d'), Alike d d' a a' → Alike d d' b b' → ordT d a b = ordT d' a' b') : ∀ (xs ys : List (Tr d)) (xs' ys' : List (Tr d')), AlikeL d d' xs xs' → AlikeL d d' ys ys' →
    ordL (ordT d) xs ys = ordL (ordT d') xs' ys'
  | [], [], [], [], _, _ => rfl
  | [], _ :: _, [], _ :: _, _, _ => rfl
  | _ :: _, [], _ :: _, [], _, _ => rfl
  | x :: r, y :: s, x' :: r', y' :: s', h, k => by
    have h1 := ih x y x' y' (h.2 0 x x' rfl rfl) (k.2 0 y y' rfl rfl)
    have h2 := alike_ordL ih r s r' s' ⟨by have := h.1; simpa using this, fun i a b ha hb => h.2 (i + 1) a b (by simpa using ha) (by simpa using hb)⟩ ⟨by have := k.1; simpa using this, fun i a b ha hb => k.2 (i + 1) a b (by simpa using ha) (by simpa using hb)⟩
    rw [ordL, ordL, h1, h2]
  | [], _, _ :: _, _, h, _ => absurd h.1 (by simp)
  | _ :: _, _, [], _, h, _ => absurd h.1 (by simp)
  | _, [], _, _ :: _, _, k => absurd k.1 (by simp)
  | _, _ :: _, _, [], _, k => absurd k.1 (by simp)
theorem alike_ord : ∀ (d d' : Nat) (a b : Tr d) (a' b' : Tr d'), Alike d d' a a' → Alike d d' b b' → ordT d a b = ordT d' a' b'
  | 0, _, _, _, _, _, h, _ => by simp [Alike] at h
  | _ + 1, 0, _, _, _, _, h, _ => by simp [Alike] at h
  | d + 1, d' + 1, a, b, a', b', h, k => by
    have hl := alike_ordL (alike_ord d d') (Nd.list a) (Nd.list b) (Nd.list a') (Nd.list b') ⟨h.2.2.2.2.1, h.2.2.2.2.2⟩ ⟨k.2.2.2.2.1, k.2.2.2.2.2⟩
    obtain ⟨h1, h2, h3, h4, _⟩ := h
    obtain ⟨k1, k2, k3, k4, _⟩ := k
    have hh : headO (α := Tr d) a b = headO (α := Tr d') a' b' := by
      show orI (cmpI (Nd.kind a) (Nd.kind b)) (orI (cmpI (Nd.num a) (Nd.num b)) (orI (cmpS (Nd.str a) (Nd.str b)) (ordL cmpS (Nd.keys a) (Nd.keys b)))) = orI (cmpI (Nd.kind a') (Nd.kind b')) (orI (cmpI (Nd.num a') (Nd.num b')) (orI (cmpS (Nd.str a') (Nd.str b')) (ordL cmpS (Nd.keys a') (Nd.keys b'))))
      rw [h1, h2, h3, h4, k1, k2, k3, k4]
    rw [ordT, ordT, hl, hh]

/-- How the rest of two open lists stands. -/
def rest (f : Fr) : Int := ordL (ordT f.d) (f.la.drop f.pos) (f.lb.drop f.pos)
def full (f : Fr) : Int := ordL (ordT f.d) f.la f.lb
def ordS : List Fr → Int
  | [] => 0
  | f :: r => orI (rest f) (ordS r)
/-- Each two open lists stand as what is above them and their own rest. -/
def StkEq : Int → List Fr → Prop
  | _, [] => True
  | acc, f :: r => full f = orI acc (rest f) ∧ StkEq (orI acc (rest f)) r
/-- How many parts the first of two lists has. -/
def size1 (f : Fr) : Nat := (f.la.map (nodes f.d)).sum
def todo (f : Fr) : Nat := ((f.la.drop f.pos).map (nodes f.d)).sum
/-- What is left to be done. -/
def left : List Fr → Nat
  | [] => 0
  | f :: r => 2 * todo f + 1 + left r
def parts : List Fr → Nat
  | [] => 0
  | f :: r => todo f + parts r
/-- Two lists lie in memory. -/
def FrOk (S S' : Nat → Prop) (w : World) (f : Fr) : Prop := RowAt S w (ValAt S w f.d) f.va f.la ∧ RowAt S' w (ValAt S' w f.d) f.vb f.lb ∧ f.pos ≤ f.la.length ∧ f.pos ≤ f.lb.length
/-- The key of two lists. -/
def KeyOf (f : Fr) (k : Value) : Prop := ∃ a b ca cb, f.va = .slice (some a) f.la.length ca ∧ f.vb = .slice (some b) f.lb.length cb ∧ k = pairKey a b f.la.length f.lb.length
/-- What was met is the same, or open. -/
def Seen (S S' : Nat → Prop) (w : World) (es : List MapEntry) (stk : List Fr) : Prop := ∀ e ∈ es, ∃ f, FrOk S S' w f ∧ KeyOf f e.key ∧ (full f = 0 ∨ ∃ g ∈ stk, KeyOf g e.key)

theorem FrOk.moved {S S' : Nat → Prop} {w w' : World} {f : Fr} (h : FrOk S S' w f) (hs : Same S w w') (hs' : Same S' w w') : FrOk S S' w' f := ⟨h.1.same hs, h.2.1.same hs', h.2.2⟩

structure Inv (S S' : Nat → Prop) (w : World) (stk : List Fr) (es : List MapEntry) : Prop where
  ok : ∀ f ∈ stk, FrOk S S' w f
  eq : StkEq 0 stk
  nest : stk.Pairwise (fun f g => size1 f < size1 g)
  seen : Seen S S' w es stk
theorem Inv.moved {S S' : Nat → Prop} {w w' : World} {stk : List Fr} {es : List MapEntry} (h : Inv S S' w stk es) (hs : Same S w w') (hs' : Same S' w w') : Inv S S' w' stk es :=
  ⟨fun f hf => (h.ok f hf).moved hs hs', h.eq, h.nest, fun e he => by
    obtain ⟨f, h1, h2⟩ := h.seen e he
    exact ⟨f, h1.moved hs hs', h2⟩⟩

theorem Inv.pop {S S' : Nat → Prop} {w : World} {f : Fr} {r : List Fr} {es : List MapEntry} (h : Inv S S' w (f :: r) es) (h0 : rest f = 0) : Inv S S' w r es := by
  obtain ⟨h1, h2, h3, h4⟩ := h
  have hf : full f = 0 := by rw [h2.1, orI_zero, h0]
  refine ⟨fun g hg => h1 g (by simp [hg]), ?_, (List.pairwise_cons.1 h3).2, fun e he => ?_⟩
  · have := h2.2
    rwa [orI_zero, h0] at this
  · obtain ⟨g, k1, k2, k3⟩ := h4 e he
    rcases k3 with k3 | ⟨g', hg', k3⟩
    · exact ⟨g, k1, k2, Or.inl k3⟩
    · rcases List.mem_cons.1 hg' with rfl | hg'
      · exact ⟨g', h1 g' (by simp), k3, Or.inl hf⟩
      · exact ⟨g, k1, k2, Or.inr ⟨g', hg', k3⟩⟩

theorem ordT_parts {d : Nat} (x y : Tr (d + 1)) (xa xb : Value) : ordT (d + 1) x y = orI (headO (α := Tr d) x y) (full ⟨d, Nd.list x, Nd.list y, 0, xa, xb⟩) := rfl
theorem rest_new (d : Nat) (la lb : List (Tr d)) (va vb : Value) : rest ⟨d, la, lb, 0, va, vb⟩ = full ⟨d, la, lb, 0, va, vb⟩ := rfl
theorem rest_step {d pos : Nat} {la lb : List (Tr (d + 1))} {va vb xa xb : Value} {x y : Tr (d + 1)} (hx : la[pos]? = some x) (hy : lb[pos]? = some y) :
    rest ⟨d + 1, la, lb, pos, va, vb⟩ = orI (headO (α := Tr d) x y) (orI (full ⟨d, Nd.list x, Nd.list y, 0, xa, xb⟩) (rest ⟨d + 1, la, lb, pos + 1, va, vb⟩)) := by
  rw [← orI_assoc, ← ordT_parts]
  exact ordL_drop (ordT (d + 1)) hx hy
theorem size_child {d pos : Nat} {la lb : List (Tr (d + 1))} {va vb xa xb : Value} {x y : Tr (d + 1)} (hx : la[pos]? = some x) : size1 ⟨d, Nd.list x, Nd.list y, 0, xa, xb⟩ < size1 ⟨d + 1, la, lb, pos, va, vb⟩ := by
  have h := mem_sum_le (nodes (d + 1)) hx
  have e : nodes (d + 1) x = 1 + ((Nd.list x).map (nodes d)).sum := rfl
  show ((Nd.list x).map (nodes d)).sum < (la.map (nodes (d + 1))).sum
  omega
theorem todo_step {d pos : Nat} {la lb : List (Tr (d + 1))} {va vb xa xb : Value} {x y : Tr (d + 1)} (hx : la[pos]? = some x) :
    todo ⟨d + 1, la, lb, pos, va, vb⟩ = 1 + todo ⟨d, Nd.list x, Nd.list y, 0, xa, xb⟩ + todo ⟨d + 1, la, lb, pos + 1, va, vb⟩ := by
  obtain ⟨hk, e⟩ := List.getElem?_eq_some_iff.1 hx
  show ((la.drop pos).map (nodes (d + 1))).sum = 1 + (((Nd.list x).drop 0).map (nodes d)).sum + ((la.drop (pos + 1)).map (nodes (d + 1))).sum
  rw [List.drop_eq_getElem_cons hk, e]
  rfl

theorem Inv.push {S S' : Nat → Prop} {w : World} {d pos : Nat} {la lb : List (Tr (d + 1))} {va vb xa xb : Value} {r : List Fr} {x y : Tr (d + 1)} {es : List MapEntry} (h : Inv S S' w (⟨d + 1, la, lb, pos, va, vb⟩ :: r) es)
    (hx : la[pos]? = some x) (hy : lb[pos]? = some y) (h0 : headO (α := Tr d) x y = 0) (ha : RowAt S w (ValAt S w d) xa (Nd.list x)) (hb : RowAt S' w (ValAt S' w d) xb (Nd.list y)) :
    Inv S S' w (⟨d, Nd.list x, Nd.list y, 0, xa, xb⟩ :: ⟨d + 1, la, lb, pos + 1, va, vb⟩ :: r) es := by
  obtain ⟨h1, h2, h3, h4⟩ := h
  have hpa := (List.getElem?_eq_some_iff.1 hx).1
  have hpb := (List.getElem?_eq_some_iff.1 hy).1
  have hr := rest_step (va := va) (vb := vb) (xa := xa) (xb := xb) hx hy
  rw [h0, orI_zero] at hr
  have hf := h1 _ (List.mem_cons_self ..)
  obtain ⟨hn1, hn2⟩ := List.pairwise_cons.1 h3
  refine ⟨?_, ?_, ?_, ?_⟩
  · intro f hf'
    rcases List.mem_cons.1 hf' with rfl | hf'
    · exact ⟨ha, hb, Nat.zero_le _, Nat.zero_le _⟩
    · rcases List.mem_cons.1 hf' with rfl | hf'
      · exact ⟨hf.1, hf.2.1, hpa, hpb⟩
      · exact h1 f (by simp [hf'])
  · refine ⟨rfl, ?_, ?_⟩
    · rw [orI_zero, rest_new, ← hr]
      exact h2.1
    · rw [orI_zero, rest_new, ← hr]
      exact h2.2
  · refine List.pairwise_cons.2 ⟨?_, List.pairwise_cons.2 ⟨hn1, hn2⟩⟩
    intro g hg
    have hsz := size_child (lb := lb) (va := va) (vb := vb) (xa := xa) (xb := xb) (y := y) hx
    rcases List.mem_cons.1 hg with rfl | hg
    · exact hsz
    · exact Nat.lt_trans hsz (hn1 g hg)
  · intro e he
    obtain ⟨g, k1, k2, k3⟩ := h4 e he
    rcases k3 with k3 | ⟨g', hg', k3⟩
    · exact ⟨g, k1, k2, Or.inl k3⟩
    · rcases List.mem_cons.1 hg' with rfl | hg'
      · exact ⟨g, k1, k2, Or.inr ⟨⟨d + 1, la, lb, pos + 1, va, vb⟩, by simp, k3⟩⟩
      · exact ⟨g, k1, k2, Or.inr ⟨g', by simp [hg'], k3⟩⟩

theorem Inv.mark {S S' : Nat → Prop} {w : World} {f : Fr} {r : List Fr} {es : List MapEntry} (h : Inv S S' w (f :: r) es) {e : MapEntry} (hk : KeyOf f e.key) : Inv S S' w (f :: r) (es ++ [e]) := by
  refine ⟨h.ok, h.eq, h.nest, fun e' he => ?_⟩
  rcases List.mem_append.1 he with he | he
  · exact h.seen e' he
  · obtain rfl : e' = e := by simpa using he
    exact ⟨f, h.ok f (by simp), hk, Or.inr ⟨f, by simp, hk⟩⟩

theorem keyOf_alike {S S' : Nat → Prop} {w : World} {f : Fr} {d : Nat} {xs ys : List (Tr d)} {a b : Addr} {la lb ca cb : Nat} (hf : FrOk S S' w f) (hk : KeyOf f (pairKey a b la lb)) (hx : RowAt S w (ValAt S w d) (.slice (some a) la ca) xs) (hy : RowAt S' w (ValAt S' w d) (.slice (some b) lb cb) ys) :
    AlikeL f.d d f.la xs ∧ AlikeL f.d d f.lb ys := by
  obtain ⟨a', b', ca', cb', e1, e2, e3⟩ := hk
  simp only [pairKey, Value.agg.injEq] at e3
  simp at e3
  obtain ⟨rfl, rfl, e4, e5⟩ := e3
  have e4' : la = f.la.length := by omega
  have e5' : lb = f.lb.length := by omega
  subst e4'
  subst e5'
  have h1 := hf.1
  have h2 := hf.2.1
  rw [e1] at h1
  rw [e2] at h2
  exact ⟨row_det (fun t t' v => val_det f.d d t t' v) h1 hx, row_det (fun t t' v => val_det f.d d t t' v) h2 hy⟩

/-- What was met before is the same. -/
theorem Inv.met {S S' : Nat → Prop} {w : World} {d pos : Nat} {la lb : List (Tr (d + 1))} {va vb : Value} {r : List Fr} {x y : Tr (d + 1)} {es : List MapEntry} (h : Inv S S' w (⟨d + 1, la, lb, pos, va, vb⟩ :: r) es) (hx : la[pos]? = some x)
    {a b : Addr} {m n ca cb : Nat} (ha : RowAt S w (ValAt S w d) (.slice (some a) m ca) (Nd.list x)) (hb : RowAt S' w (ValAt S' w d) (.slice (some b) n cb) (Nd.list y)) (he : ∃ e ∈ es, e.key = pairKey a b m n) : ordL (ordT d) (Nd.list x) (Nd.list y) = 0 := by
  obtain ⟨e, he, hk⟩ := he
  obtain ⟨f, k1, k2, k3⟩ := h.seen e he
  rw [hk] at k2 k3
  rcases k3 with k3 | ⟨g, hg, k3⟩
  · obtain ⟨q1, q2⟩ := keyOf_alike k1 k2 ha hb
    rw [← alike_ordL (alike_ord f.d d) _ _ _ _ q1 q2]
    exact k3
  · exfalso
    obtain ⟨q1, _⟩ := keyOf_alike (h.ok g hg) k3 ha hb
    have hs : size1 g = ((Nd.list x).map (nodes d)).sum := alike_sum (alike_nodes g.d d) _ _ q1
    have hc : ((Nd.list x).map (nodes d)).sum < size1 ⟨d + 1, la, lb, pos, va, vb⟩ := size_child (lb := lb) (va := va) (vb := vb) (xa := va) (xb := vb) (y := y) hx
    rcases List.mem_cons.1 hg with rfl | hg
    · omega
    · have := (List.pairwise_cons.1 h.nest).1 g hg
      omega
theorem Inv.skip {S S' : Nat → Prop} {w : World} {d pos : Nat} {la lb : List (Tr (d + 1))} {va vb : Value} {r : List Fr} {x y : Tr (d + 1)} {es : List MapEntry} (h : Inv S S' w (⟨d + 1, la, lb, pos, va, vb⟩ :: r) es)
    (hx : la[pos]? = some x) (hy : lb[pos]? = some y) (h0 : headO (α := Tr d) x y = 0) (h5 : ordL (ordT d) (Nd.list x) (Nd.list y) = 0) : Inv S S' w (⟨d + 1, la, lb, pos + 1, va, vb⟩ :: r) es := by
  obtain ⟨h1, h2, h3, h4⟩ := h
  have hpa := (List.getElem?_eq_some_iff.1 hx).1
  have hpb := (List.getElem?_eq_some_iff.1 hy).1
  have hr := rest_step (va := va) (vb := vb) (xa := va) (xb := vb) hx hy
  have hfull : full ⟨d, Nd.list x, Nd.list y, 0, va, vb⟩ = 0 := h5
  rw [h0, orI_zero, hfull, orI_zero] at hr
  have hf := h1 _ (List.mem_cons_self ..)
  obtain ⟨hn1, hn2⟩ := List.pairwise_cons.1 h3
  refine ⟨?_, ?_, List.pairwise_cons.2 ⟨hn1, hn2⟩, ?_⟩
  · intro f hf'
    rcases List.mem_cons.1 hf' with rfl | hf'
    · exact ⟨hf.1, hf.2.1, hpa, hpb⟩
    · exact h1 f (by simp [hf'])
  · refine ⟨?_, ?_⟩
    · rw [← hr]
      exact h2.1
    · rw [← hr]
      exact h2.2
  · intro e he
    obtain ⟨g, k1, k2, k3⟩ := h4 e he
    rcases k3 with k3 | ⟨g', hg', k3⟩
    · exact ⟨g, k1, k2, Or.inl k3⟩
    · rcases List.mem_cons.1 hg' with rfl | hg'
      · exact ⟨g, k1, k2, Or.inr ⟨⟨d + 1, la, lb, pos + 1, va, vb⟩, by simp, k3⟩⟩
      · exact ⟨g, k1, k2, Or.inr ⟨g', by simp [hg'], k3⟩⟩
end Go.Proofs.YtilgbnnjecpneaaGreatDoor

/- ValOrder and ValSame of the program. -/
namespace Go.Proofs.YtilgbnnjecpneaaGreatDoor
open Go.RowKit Go.Deep

theorem row_addr {α : Type} {S : Nat → Prop} {w : World} {At : α → Value → Prop} {xs : List α} {a : Addr} {n c : Nat} (h : RowAt S w At (.slice (some a) n c) xs) (hn : 0 < n) : n = xs.length ∧ S a.block := by
  have hl : n = xs.length := by
    obtain ⟨_, a1, c1, hv, _⟩ := h
    cases hv
    rfl
  obtain ⟨b, o, x, _, _, _, _, _, hab, hb, _⟩ := h.cell (k := 0) (by omega)
  cases hab
  exact ⟨hl, hb⟩

/-- Where the loop stands. -/
def Loop (S S' : Nat → Prop) (N rb mr base : Nat) (R : Int) (T gk : Nat) (ord : Int) (w w' : World) : Prop :=
  ∃ (stk : List Fr) (sv : Value) (met : Int) (es : Array MapEntry), Walk w' rb mr base sv met es stk.length (flat stk) ∧ PairIn w' N es.toList ∧ Below N w w' ∧ (ord = 0 → Inv S S' w' stk es.toList) ∧ R = orI ord (ordS stk) ∧ gk = left stk ∧
    0 ≤ met ∧ met + parts stk ≤ T ∧ (stk.length : Int) ≤ met

theorem pair_push {S S' : Nat → Prop} {w w' : World} {N d : Nat} {es es' : Array MapEntry} {xs ys : List (Tr d)} {xa xb : Value} (hp : PairIn w' N es.toList) (hS : Under S w' N) (hS' : Under S' w' N) (ha : RowAt S w (ValAt S w d) xa xs) (hb : RowAt S' w (ValAt S' w d) xb ys)
    (h : es' = es ∨ ∃ a b la lb ca cb, xa = .slice (some a) la ca ∧ xb = .slice (some b) lb cb ∧ 0 < la ∧ 0 < lb ∧ es' = es.push ⟨pairKey a b la lb, .agg #[], es.size⟩) :
    PairIn w' N es'.toList ∧ (es' = es ∨ ∃ e, es'.toList = es.toList ++ [e] ∧ KeyOf ⟨d, xs, ys, 0, xa, xb⟩ e.key) := by
  rcases h with rfl | ⟨a, b, la, lb, ca, cb, rfl, rfl, h1, h2, rfl⟩
  · exact ⟨hp, Or.inl rfl⟩
  · obtain ⟨e1, s1⟩ := row_addr ha h1
    obtain ⟨e2, s2⟩ := row_addr hb h2
    refine ⟨?_, Or.inr ⟨_, Array.toList_push .., a, b, ca, cb, ?_, ?_, ?_⟩⟩
    · rw [Array.toList_push]
      intro e he
      rcases List.mem_append.1 he with he | he
      · exact hp e he
      · obtain rfl : e = _ := by simpa using he
        exact ⟨a, b, la, lb, rfl, rfl, hS _ s1, hS' _ s2⟩
    · show Value.slice (some a) la ca = .slice (some a) xs.length ca
      rw [e1]
    · show Value.slice (some b) lb cb = .slice (some b) ys.length cb
      rw [e2]
    · show pairKey a b la lb = pairKey a b xs.length ys.length
      rw [e1, e2]

/-- One step of the walk. -/
theorem step_any (S S' : Nat → Prop) (N rb mr base : Nat) (R : Int) (T : Nat) (f : Fr) (r : List Fr) (sv : Value) (met : Int) (es : Array MapEntry) (w w1 : World) (hw : Walk w1 rb mr base sv met es (r.length + 1) (flat (f :: r))) (hp : PairIn w1 N es.toList) (hbel : Below N w w1)
    (hinv : Inv S S' w1 (f :: r) es.toList) (hR : R = ordS (f :: r)) (h0 : 0 ≤ met) (hT : met + parts (f :: r) ≤ T) (hl : ((f :: r).length : Int) ≤ met) (hT2 : T ≤ 4194304) (hS : Under S w1 N) (hS' : Under S' w1 N) (hNr : N ≤ rb) (hNm : N ≤ mr) :
    Calls Tryz.prog 53 #[.pointer (some ⟨rb, 0, none⟩)] w1 fun e w' => ∃ ord gk, e = .returned (.int .i64 ord) ∧ gk < left (f :: r) ∧ Loop S S' N rb mr base R T gk ord w w' := by
  have hlr : r.length + 1 ≤ 4194304 := by
    simp only [List.length_cons] at hl
    omega
  have hok := hinv.ok f (by simp)
  by_cases hc : f.pos < f.la.length ∧ f.pos < f.lb.length
  · obtain ⟨fd, la, lb, pos, va, vb⟩ := f
    have hca : pos < la.length := hc.1
    have hcb : pos < lb.length := hc.2
    have hx := List.getElem?_eq_getElem hca
    have hy := List.getElem?_eq_getElem hcb
    cases fd with
    | zero => exact (la[pos]'hca).elim
    | succ d =>
      generalize la[pos]'hca = x at hx
      generalize lb[pos]'hcb = y at hy
      refine (step_go d N S S' rb mr base sv met es la lb pos va vb r x y w1 hw hok.1 hok.2.1 hx hy hS hS' hp hNr hNm (by omega) h0 (by omega)).mono ?_
      rintro e w' ⟨rfl, hb1, xa, xb, ha, hb, hcase⟩
      have hs : Same S w1 w' := fun b h => hb1.block b (hS b h).2
      have hs' : Same S' w1 w' := fun b h => hb1.block b (hS' b h).2
      have hp' := hp.moved hb1.block
      have hrs := rest_step (va := va) (vb := vb) (xa := xa) (xb := xb) hx hy
      have htd := todo_step (lb := lb) (va := va) (vb := vb) (xa := xa) (xb := xb) (y := y) hx
      rcases hcase with ⟨sv', es', hw', he⟩ | ⟨a, b, m, n, ca, cb, rfl, rfl, p1, p2, he, sv', hw'⟩
      · obtain ⟨q1, q2⟩ := pair_push hp' (hS.moved hb1.block) (hS'.moved hb1.block) ha hb he
        refine ⟨_, left (⟨d, Nd.list x, Nd.list y, 0, xa, xb⟩ :: ⟨d + 1, la, lb, pos + 1, va, vb⟩ :: r), rfl, ?_, (⟨d, Nd.list x, Nd.list y, 0, xa, xb⟩ :: ⟨d + 1, la, lb, pos + 1, va, vb⟩ :: r), sv', met + 1, es', hw', q1, hbel.trans hb1, ?_, ?_, rfl, by omega, ?_, ?_⟩
        · show 2 * todo ⟨d, Nd.list x, Nd.list y, 0, xa, xb⟩ + 1 + (2 * todo ⟨d + 1, la, lb, pos + 1, va, vb⟩ + 1 + left r) < 2 * todo ⟨d + 1, la, lb, pos, va, vb⟩ + 1 + left r
          rw [htd]
          omega
        · intro hz
          have hi := (hinv.push hx hy hz ha hb).moved hs hs'
          rcases q2 with rfl | ⟨e, q2, q3⟩
          · exact hi
          · rw [q2]
            exact hi.mark q3
        · rw [hR, ordS, hrs, ordS, ordS, rest_new, orI_assoc, orI_assoc]
        · have hT' : met + ((todo ⟨d + 1, la, lb, pos, va, vb⟩ + parts r : Nat) : Int) ≤ T := hT
          rw [htd] at hT'
          show met + 1 + ((todo ⟨d, Nd.list x, Nd.list y, 0, xa, xb⟩ + (todo ⟨d + 1, la, lb, pos + 1, va, vb⟩ + parts r) : Nat) : Int) ≤ T
          omega
        · simp only [List.length_cons] at hl ⊢
          omega
      · have hz5 := hinv.met hx ha hb he
        have hfull : full ⟨d, Nd.list x, Nd.list y, 0, .slice (some a) m ca, .slice (some b) n cb⟩ = 0 := hz5
        refine ⟨_, left (⟨d + 1, la, lb, pos + 1, va, vb⟩ :: r), rfl, ?_, (⟨d + 1, la, lb, pos + 1, va, vb⟩ :: r), sv', met + 1, es, hw', hp', hbel.trans hb1, ?_, ?_, rfl, by omega, ?_, ?_⟩
        · show 2 * todo ⟨d + 1, la, lb, pos + 1, va, vb⟩ + 1 + left r < 2 * todo ⟨d + 1, la, lb, pos, va, vb⟩ + 1 + left r
          rw [htd]
          omega
        · intro hz
          exact (hinv.skip hx hy hz hz5).moved hs hs'
        · rw [hR, ordS, hrs, hfull, orI_zero, ordS, orI_assoc]
        · have hT' : met + ((todo ⟨d + 1, la, lb, pos, va, vb⟩ + parts r : Nat) : Int) ≤ T := hT
          rw [htd] at hT'
          show met + 1 + ((todo ⟨d + 1, la, lb, pos + 1, va, vb⟩ + parts r : Nat) : Int) ≤ T
          omega
        · simp only [List.length_cons] at hl ⊢
          omega
  · obtain ⟨aa, ca, hva, _⟩ := hok.1.open'
    obtain ⟨ab, cb, hvb, _⟩ := hok.2.1.open'
    have hre : rest f = cmpI f.la.length f.lb.length := ordL_end (ordT f.d) hok.2.2.1 hok.2.2.2 hc
    have hown : ∀ g, sv.ownBlock = some g → N ≤ g := fun g e => by
      have h1 := hw.own e
      have h2 := hw.rlt
      omega
    have hbig : N ≤ w1.heap.size := by
      have h1 := hw.big
      have h2 := hw.rlt
      omega
    refine (step_pop rb mr base sv met es f r aa ab _ _ ca cb w1 hw hva hvb (by omega) hc).mono ?_
    rintro e w' ⟨rfl, ⟨sv', hw'⟩, hb3⟩
    have hb1 := hb3.under hNr hNm hown hbig
    have hs : Same S w1 w' := fun b h => hb1.block b (hS b h).2
    have hs' : Same S' w1 w' := fun b h => hb1.block b (hS' b h).2
    refine ⟨_, left r, rfl, by simp only [left]; omega, r, sv', met, es, hw', hp.moved hb1.block, hbel.trans hb1, ?_, ?_, rfl, h0, ?_, ?_⟩
    · intro hz
      exact (hinv.pop (hre.trans hz)).moved hs hs'
    · rw [hR, ordS, hre]
    · simp only [parts] at hT
      omega
    · simp only [List.length_cons] at hl
      omega

set_option maxRecDepth 100000 in
set_option maxHeartbeats 2000000 in
theorem implOrder_any (d : Nat) (S S' : Nat → Prop) (t t' : Tr d) (v v' : Value) (w : World) (hv : ValAt S w d t v) (hv' : ValAt S' w d t' v') (hS : Under S w w.heap.size) (hS' : Under S' w w.heap.size) (hsm : (nodes d t : Int) ≤ 4194304) :
    Calls Tryz.prog 23 #[v, v'] w fun e w' => e = .returned (.int .i64 (ordT d t t')) ∧ Below w.heap.size w w' := by
  cases d with
  | zero => exact hv.elim
  | succ d =>
  obtain ⟨k, n, s, ak, lk, ck, al, ll, cl, rfl⟩ := hv.shape
  obtain ⟨k', n', s', ak', lk', ck', al', ll', cl', rfl⟩ := hv'.shape
  have hmk := fun w => run_makeMap (P := Tryz.prog) 58 w
  go_enter Tryz.func23, Tryz.ntmps23
  go_wp2_with fail
  obtain ⟨rb, hrb⟩ : ∃ rb, rb = w.heap.size + 1 + 1 + 1 := ⟨_, rfl⟩
  obtain ⟨mr, hmr⟩ : ∃ mr, mr = w.heap.size + 1 + 1 := ⟨_, rfl⟩
  rw [← hrb, ← hmr]
  obtain ⟨W0, HE0⟩ : ∃ W0, Hid (W0 = (((w.alloc (.cells #[.int .i64 k, .int .i64 n, .string s, .slice ak lk ck, .slice al ll cl] 29)).alloc (.cells #[.int .i64 k', .int .i64 n', .string s', .slice ak' lk' ck', .slice al' ll' cl'] 29)).alloc
    (.map #[] 0)).alloc (.cells #[.slice none 0 0, .int .i64 0, .map (some mr)] 61)) := ⟨_, rfl⟩
  rw [← HE0.out]
  have hB0 : Below w.heap.size w W0 := by
    rw [HE0.out]
    exact below_trans (below_trans (below_trans (below_alloc1 _ _) (below_alloc1 _ _)) (below_alloc1 _ _)) (below_alloc1 _ _)
  have hw0 : Walk W0 rb mr (rb + 1) (.slice none 0 0) 0 #[] 0 (flat []) := by
    refine ⟨by omega, by omega, by omega, ?_, ?_, ?_, World.ownsRow_nil _ _ _ _⟩
    · rw [HE0.out]
      simp
      omega
    · rw [HE0.out]
      have := heap_alloc_new (((w.alloc (.cells #[.int .i64 k, .int .i64 n, .string s, .slice ak lk ck, .slice al ll cl] 29)).alloc (.cells #[.int .i64 k', .int .i64 n', .string s', .slice ak' lk' ck', .slice al' ll' cl'] 29)).alloc
        (.map #[] 0)) (.cells #[.slice none 0 0, .int .i64 0, .map (some mr)] 61)
      simp only [World.size_alloc] at this
      rw [hrb]
      exact this
    · rw [HE0.out, Below.heap_alloc _ _ _ (by simp; omega)]
      have := heap_alloc_new ((w.alloc (.cells #[.int .i64 k, .int .i64 n, .string s, .slice ak lk ck, .slice al ll cl] 29)).alloc (.cells #[.int .i64 k', .int .i64 n', .string s', .slice ak' lk' ck', .slice al' ll' cl'] 29)) (.map #[] 0)
      simp only [World.size_alloc] at this
      rw [hmr]
      exact this
  have hS0 := hS.moved hB0.block
  have hS0' := hS'.moved hB0.block
  have hv0 := hv.same (fun b hb => hB0.block b (hS b hb).2)
  have hv0' := hv'.same (fun b hb => hB0.block b (hS' b hb).2)
  have hNr : w.heap.size ≤ rb := by omega
  have hNm : w.heap.size ≤ mr := by omega
  refine (meet_any d w.heap.size S S' t t' _ _ rb mr (rb + 1) _ 0 #[] 0 _ W0 hw0 hv0 hv0' hS0 hS0' (fun e he => by simp at he) hNr hNm (by omega) (by omega) (by omega)).mono ?_
  rintro e w1 ⟨rfl, va, vb, p0, p1, p2, p3, p0', p1', p2', p3', hva, hvb, hb1, hent⟩
  have hrow : RowAt S W0 (ValAt S W0 d) va (Nd.list t) ∧ RowAt S' W0 (ValAt S' W0 d) vb (Nd.list t') := by
    obtain ⟨vk, vl, hq, _, _, _, _, hl⟩ := hv0
    obtain ⟨vk', vl', hq', _, _, _, _, hl'⟩ := hv0'
    rw [hva] at hq
    rw [hvb] at hq'
    cases hq
    cases hq'
    exact ⟨hl, hl'⟩
  have hbw := hb1.under (N := w.heap.size) hNr hNm (fun g e => by cases e) hB0.size
  have hS1 := hS0.moved hbw.block
  have hS1' := hS0'.moved hbw.block
  have hB1 : Below w.heap.size w w1 := hB0.trans hbw
  have hloop : Hid (Loop S S' w.heap.size rb mr (rb + 1) (ordT (d + 1) t t') (nodes (d + 1) t) (left [⟨d, Nd.list t, Nd.list t', 0, va, vb⟩]) (headO (α := Tr d) t t') w w1) := by
    rcases hent with ⟨sv', es', h1, h2⟩ | ⟨_, _, _, _, _, _, _, _, _, _, ⟨e, he, _⟩, _⟩
    case inr => simp at he
    obtain ⟨q1, q2⟩ := pair_push (es := #[]) (w' := w1) (N := w.heap.size) (fun e he => by simp at he) hS1 hS1' hrow.1 hrow.2 h2
    have hok : FrOk S S' w1 ⟨d, Nd.list t, Nd.list t', 0, va, vb⟩ := ⟨hrow.1.same (fun b hb => hbw.block b (hS b hb).2), hrow.2.same (fun b hb => hbw.block b (hS' b hb).2), Nat.zero_le _, Nat.zero_le _⟩
    have hi : Inv S S' w1 [⟨d, Nd.list t, Nd.list t', 0, va, vb⟩] [] := ⟨fun f hf => (List.mem_singleton.1 hf) ▸ hok, ⟨rfl, trivial⟩, by simp, fun e he => by simp at he⟩
    refine ⟨[⟨d, Nd.list t, Nd.list t', 0, va, vb⟩], sv', 0 + 1, es', h1, q1, hB1, fun _ => ?_, ?_, rfl, by omega, ?_, by simp⟩
    · rcases q2 with rfl | ⟨e, q2, q3⟩
      · exact hi
      · rw [q2]
        exact hi.mark q3
    · rw [ordT_parts t t' va vb, ordS, ordS, orI_right, rest_new]
    · show (0 : Int) + 1 + ((todo ⟨d, Nd.list t, Nd.list t', 0, va, vb⟩ + 0 : Nat) : Int) ≤ ((1 + ((Nd.list t).map (nodes d)).sum : Nat) : Int)
      show (0 : Int) + 1 + ((((Nd.list t).drop 0).map (nodes d)).sum + 0 : Nat) ≤ _
      rw [List.drop_zero]
      omega
  clear hmk HE0 hw0 hS0 hS0' hv0 hv0' hv hv' hent hb1 hrow hbw hS1 hS1' hB1 hB0 hva hvb hrb hmr
  have hsm2 : nodes (d + 1) t ≤ 4194304 := by omega
  obtain ⟨R, HR⟩ : ∃ R, Hid (R = ordT (d + 1) t t') := ⟨_, rfl⟩
  rw [← HR.out] at hloop
  generalize nodes (d + 1) t = T at hloop hsm2
  go_wp2_with fail
  go_loopg [6] (left [⟨d, Nd.list t, Nd.list t', 0, va, vb⟩]) (fun gk v wr => ∃ ord, v = .int .i64 ord ∧ Hid (Loop S S' w.heap.size rb mr (rb + 1) R T gk ord w wr))
  case atStart => exact ⟨_, rfl, hloop⟩
  case round =>
    clear hloop
    obtain ⟨ord, rfl, hl⟩ := hrel
    obtain ⟨stk, sv, met, es, l1, l2, l3, l4, l5, l6, l7, l8, l9⟩ := hl.out
    have c0 := l1.cell.1
    by_cases h0 : ord = 0
    case neg =>
      have hf : Hid (R = ord) := by show _ = _; rw [l5, orI_ne h0]
      have HB : Hid (Below w.heap.size w wr) := l3
      clear hl l1 l2 l3 l4 l5 l6 l7 l8 l9
      go_wp2_with fail
      go_ret
      rw [← HR.out, hf.out]
      exact ⟨rfl, HB.out⟩
    case pos =>
    subst h0
    cases stk with
    | nil =>
      have hf : Hid (R = 0) := by show _ = _; rw [l5]; rfl
      have HB : Hid (Below w.heap.size w wr) := l3
      obtain ⟨sa, sc, rfl⟩ : ∃ sa sc, sv = .slice sa 0 sc := by
        rcases l1.row.2 with ⟨h, _⟩ | ⟨g, cap, cur, h, _⟩
        · exact ⟨_, _, h⟩
        · exact ⟨_, _, h⟩
      clear hl l1 l2 l3 l4 l5 l6 l7 l8 l9
      go_wp2_with fail
      go_ret
      rw [← HR.out, hf.out]
      exact ⟨rfl, HB.out⟩
    | cons f r =>
      obtain ⟨g, cap, rfl⟩ := row_succ l1.row
      have HS := step_any S S' w.heap.size rb mr (rb + 1) R T f r _ met es w wr l1 l2 l3 (l4 rfl) l5 l7 l8 l9 hsm2 (hS.moved l3.block) (hS'.moved l3.block) hNr hNm
      have HC : Hid _ := HS
      have H6 : Hid (gk = left (f :: r)) := l6
      have hlen : (0 : Int) < ((r.length + 1 : Nat) : Int) := by omega
      clear HS hl l1 l2 l3 l4 l5 l6 l7 l8 l9
      go_wp2_with fail
      refine Calls.mono (R := fun e w' => ∃ ord gk, e = .returned (.int .i64 ord) ∧ gk < left (f :: r) ∧ Loop S S' w.heap.size rb mr (rb + 1) R T gk ord w w') HC.out ?_
      rintro e w2 ⟨ord, gk', rfl, hlt, hl2⟩
      have HL : Hid _ := hl2
      clear hl2 HC
      go_wp2_with fail
      go_roundg gk'
      case rel => exact ⟨ord, rfl, HL.out⟩
      case measure => rw [H6.out]; exact hlt
end Go.Proofs.YtilgbnnjecpneaaGreatDoor
