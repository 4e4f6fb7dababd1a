/- ValOrder and ValSame of the program. -/
import Derived.Test.YtdmlpbkiomgloaaWWalkE
import Derived.Test.YtdmlpbkiomgloaaWInv
namespace Go.Proofs.Ytdmlpbkiomgloaa
open Go.RowKit Go.Deep

theorem row_addr {α : Type} {S : Nat → Prop} {w : World} {At : α → Value → Prop} {xs : List α} {a : Addr} {n c : Nat} (h : RowAt S w At (.slice (some a) n c) xs) (hn : 0 < n) : n = xs.length ∧ S a.block := by
  have hl : n = xs.length := by
    obtain ⟨_, a1, c1, hv, _⟩ := h
    cases hv
    rfl
  obtain ⟨b, o, x, _, _, _, _, _, hab, hb, _⟩ := h.cell (k := 0) (by omega)
  cases hab
  exact ⟨hl, hb⟩

/-- Where the loop stands. -/
def Loop (S S' : Nat → Prop) (N rb mr base : Nat) (R : Int) (T gk : Nat) (ord : Int) (w w' : World) : Prop :=
  ∃ (stk : List Fr) (sv : Value) (met : Int) (es : Array MapEntry), Walk w' rb mr base sv met es stk.length (flat stk) ∧ PairIn w' N es.toList ∧ Below N w w' ∧ (ord = 0 → Inv S S' w' stk es.toList) ∧ R = orI ord (ordS stk) ∧ gk = left stk ∧
    0 ≤ met ∧ met + parts stk ≤ T ∧ (stk.length : Int) ≤ met

theorem pair_push {S S' : Nat → Prop} {w w' : World} {N d : Nat} {es es' : Array MapEntry} {xs ys : List (Tr d)} {xa xb : Value} (hp : PairIn w' N es.toList) (hS : Under S w' N) (hS' : Under S' w' N) (ha : RowAt S w (ValAt S w d) xa xs) (hb : RowAt S' w (ValAt S' w d) xb ys)
    (h : es' = es ∨ ∃ a b la lb ca cb, xa = .slice (some a) la ca ∧ xb = .slice (some b) lb cb ∧ 0 < la ∧ 0 < lb ∧ es' = es.push ⟨pairKey a b la lb, .agg #[], es.size⟩) :
    PairIn w' N es'.toList ∧ (es' = es ∨ ∃ e, es'.toList = es.toList ++ [e] ∧ KeyOf ⟨d, xs, ys, 0, xa, xb⟩ e.key) := by
  rcases h with rfl | ⟨a, b, la, lb, ca, cb, rfl, rfl, h1, h2, rfl⟩
  · exact ⟨hp, Or.inl rfl⟩
  · obtain ⟨e1, s1⟩ := row_addr ha h1
    obtain ⟨e2, s2⟩ := row_addr hb h2
    refine ⟨?_, Or.inr ⟨_, Array.toList_push .., a, b, ca, cb, ?_, ?_, ?_⟩⟩
    · rw [Array.toList_push]
      intro e he
      rcases List.mem_append.1 he with he | he
      · exact hp e he
      · obtain rfl : e = _ := by simpa using he
        exact ⟨a, b, la, lb, rfl, rfl, hS _ s1, hS' _ s2⟩
    · show Value.slice (some a) la ca = .slice (some a) xs.length ca
      rw [e1]
    · show Value.slice (some b) lb cb = .slice (some b) ys.length cb
      rw [e2]
    · show pairKey a b la lb = pairKey a b xs.length ys.length
      rw [e1, e2]

/-- One step of the walk. -/
theorem step_any (S S' : Nat → Prop) (N rb mr base : Nat) (R : Int) (T : Nat) (f : Fr) (r : List Fr) (sv : Value) (met : Int) (es : Array MapEntry) (w w1 : World) (hw : Walk w1 rb mr base sv met es (r.length + 1) (flat (f :: r))) (hp : PairIn w1 N es.toList) (hbel : Below N w w1)
    (hinv : Inv S S' w1 (f :: r) es.toList) (hR : R = ordS (f :: r)) (h0 : 0 ≤ met) (hT : met + parts (f :: r) ≤ T) (hl : ((f :: r).length : Int) ≤ met) (hT2 : T ≤ 4194304) (hS : Under S w1 N) (hS' : Under S' w1 N) (hNr : N ≤ rb) (hNm : N ≤ mr) :
    Calls Try.prog 34 #[.pointer (some ⟨rb, 0, none⟩)] w1 fun e w' => ∃ ord gk, e = .returned (.int .i64 ord) ∧ gk < left (f :: r) ∧ Loop S S' N rb mr base R T gk ord w w' := by
  have hlr : r.length + 1 ≤ 4194304 := by
    simp only [List.length_cons] at hl
    omega
  have hok := hinv.ok f (by simp)
  by_cases hc : f.pos < f.la.length ∧ f.pos < f.lb.length
  · obtain ⟨fd, la, lb, pos, va, vb⟩ := f
    have hca : pos < la.length := hc.1
    have hcb : pos < lb.length := hc.2
    have hx := List.getElem?_eq_getElem hca
    have hy := List.getElem?_eq_getElem hcb
    cases fd with
    | zero => exact (la[pos]'hca).elim
    | succ d =>
      generalize la[pos]'hca = x at hx
      generalize lb[pos]'hcb = y at hy
      refine (step_go d N S S' rb mr base sv met es la lb pos va vb r x y w1 hw hok.1 hok.2.1 hx hy hS hS' hp hNr hNm (by omega) h0 (by omega)).mono ?_
      rintro e w' ⟨rfl, hb1, xa, xb, ha, hb, hcase⟩
      have hs : Same S w1 w' := fun b h => hb1.block b (hS b h).2
      have hs' : Same S' w1 w' := fun b h => hb1.block b (hS' b h).2
      have hp' := hp.moved hb1.block
      have hrs := rest_step (va := va) (vb := vb) (xa := xa) (xb := xb) hx hy
      have htd := todo_step (lb := lb) (va := va) (vb := vb) (xa := xa) (xb := xb) (y := y) hx
      rcases hcase with ⟨sv', es', hw', he⟩ | ⟨a, b, m, n, ca, cb, rfl, rfl, p1, p2, he, sv', hw'⟩
      · obtain ⟨q1, q2⟩ := pair_push hp' (hS.moved hb1.block) (hS'.moved hb1.block) ha hb he
        refine ⟨_, left (⟨d, Nd.list x, Nd.list y, 0, xa, xb⟩ :: ⟨d + 1, la, lb, pos + 1, va, vb⟩ :: r), rfl, ?_, (⟨d, Nd.list x, Nd.list y, 0, xa, xb⟩ :: ⟨d + 1, la, lb, pos + 1, va, vb⟩ :: r), sv', met + 1, es', hw', q1, hbel.trans hb1, ?_, ?_, rfl, by omega, ?_, ?_⟩
        · show 2 * todo ⟨d, Nd.list x, Nd.list y, 0, xa, xb⟩ + 1 + (2 * todo ⟨d + 1, la, lb, pos + 1, va, vb⟩ + 1 + left r) < 2 * todo ⟨d + 1, la, lb, pos, va, vb⟩ + 1 + left r
          rw [htd]
          omega
        · intro hz
          have hi := (hinv.push hx hy hz ha hb).moved hs hs'
          rcases q2 with rfl | ⟨e, q2, q3⟩
          · exact hi
          · rw [q2]
            exact hi.mark q3
        · rw [hR, ordS, hrs, ordS, ordS, rest_new, orI_assoc, orI_assoc]
        · have hT' : met + ((todo ⟨d + 1, la, lb, pos, va, vb⟩ + parts r : Nat) : Int) ≤ T := hT
          rw [htd] at hT'
          show met + 1 + ((todo ⟨d, Nd.list x, Nd.list y, 0, xa, xb⟩ + (todo ⟨d + 1, la, lb, pos + 1, va, vb⟩ + parts r) : Nat) : Int) ≤ T
          omega
        · simp only [List.length_cons] at hl ⊢
          omega
      · have hz5 := hinv.met hx ha hb he
        have hfull : full ⟨d, Nd.list x, Nd.list y, 0, .slice (some a) m ca, .slice (some b) n cb⟩ = 0 := hz5
        refine ⟨_, left (⟨d + 1, la, lb, pos + 1, va, vb⟩ :: r), rfl, ?_, (⟨d + 1, la, lb, pos + 1, va, vb⟩ :: r), sv', met + 1, es, hw', hp', hbel.trans hb1, ?_, ?_, rfl, by omega, ?_, ?_⟩
        · show 2 * todo ⟨d + 1, la, lb, pos + 1, va, vb⟩ + 1 + left r < 2 * todo ⟨d + 1, la, lb, pos, va, vb⟩ + 1 + left r
          rw [htd]
          omega
        · intro hz
          exact (hinv.skip hx hy hz hz5).moved hs hs'
        · rw [hR, ordS, hrs, hfull, orI_zero, ordS, orI_assoc]
        · have hT' : met + ((todo ⟨d + 1, la, lb, pos, va, vb⟩ + parts r : Nat) : Int) ≤ T := hT
          rw [htd] at hT'
          show met + 1 + ((todo ⟨d + 1, la, lb, pos + 1, va, vb⟩ + parts r : Nat) : Int) ≤ T
          omega
        · simp only [List.length_cons] at hl ⊢
          omega
  · obtain ⟨aa, ca, hva, _⟩ := hok.1.open'
    obtain ⟨ab, cb, hvb, _⟩ := hok.2.1.open'
    have hre : rest f = cmpI f.la.length f.lb.length := ordL_end (ordT f.d) hok.2.2.1 hok.2.2.2 hc
    have hown : ∀ g, sv.ownBlock = some g → N ≤ g := fun g e => by
      have h1 := hw.own e
      have h2 := hw.rlt
      omega
    have hbig : N ≤ w1.heap.size := by
      have h1 := hw.big
      have h2 := hw.rlt
      omega
    refine (step_pop rb mr base sv met es f r aa ab _ _ ca cb w1 hw hva hvb (by omega) hc).mono ?_
    rintro e w' ⟨rfl, ⟨sv', hw'⟩, hb3⟩
    have hb1 := hb3.under hNr hNm hown hbig
    have hs : Same S w1 w' := fun b h => hb1.block b (hS b h).2
    have hs' : Same S' w1 w' := fun b h => hb1.block b (hS' b h).2
    refine ⟨_, left r, rfl, by simp only [left]; omega, r, sv', met, es, hw', hp.moved hb1.block, hbel.trans hb1, ?_, ?_, rfl, h0, ?_, ?_⟩
    · intro hz
      exact (hinv.pop (hre.trans hz)).moved hs hs'
    · rw [hR, ordS, hre]
    · simp only [parts] at hT
      omega
    · simp only [List.length_cons] at hl
      omega

set_option maxRecDepth 100000 in
set_option maxHeartbeats 2000000 in
theorem implOrder_any (d : Nat) (S S' : Nat → Prop) (t t' : Tr d) (v v' : Value) (w : World) (hv : ValAt S w d t v) (hv' : ValAt S' w d t' v') (hS : Under S w w.heap.size) (hS' : Under S' w w.heap.size) (hsm : (nodes d t : Int) ≤ 4194304) :
    Calls Try.prog 16 #[v, v'] w fun e w' => e = .returned (.int .i64 (ordT d t t')) ∧ Below w.heap.size w w' := by
  cases d with
  | zero => exact hv.elim
  | succ d =>
  obtain ⟨k, n, s, ak, lk, ck, al, ll, cl, rfl⟩ := hv.shape
  obtain ⟨k', n', s', ak', lk', ck', al', ll', cl', rfl⟩ := hv'.shape
  have hmk := fun w => run_makeMap (P := Try.prog) 53 w
  go_enter Try.func16, Try.ntmps16
  go_wp2_with fail
  obtain ⟨rb, hrb⟩ : ∃ rb, rb = w.heap.size + 1 + 1 + 1 := ⟨_, rfl⟩
  obtain ⟨mr, hmr⟩ : ∃ mr, mr = w.heap.size + 1 + 1 := ⟨_, rfl⟩
  rw [← hrb, ← hmr]
  obtain ⟨W0, HE0⟩ : ∃ W0, Hid (W0 = (((w.alloc (.cells #[.int .i64 k, .int .i64 n, .string s, .slice ak lk ck, .slice al ll cl] 30)).alloc (.cells #[.int .i64 k', .int .i64 n', .string s', .slice ak' lk' ck', .slice al' ll' cl'] 30)).alloc
    (.map #[] 0)).alloc (.cells #[.slice none 0 0, .int .i64 0, .map (some mr)] 56)) := ⟨_, rfl⟩
  rw [← HE0.out]
  have hB0 : Below w.heap.size w W0 := by
    rw [HE0.out]
    exact below_trans (below_trans (below_trans (below_alloc1 _ _) (below_alloc1 _ _)) (below_alloc1 _ _)) (below_alloc1 _ _)
  have hw0 : Walk W0 rb mr (rb + 1) (.slice none 0 0) 0 #[] 0 (flat []) := by
    refine ⟨by omega, by omega, by omega, ?_, ?_, ?_, World.ownsRow_nil _ _ _ _⟩
    · rw [HE0.out]
      simp
      omega
    · rw [HE0.out]
      have := heap_alloc_new (((w.alloc (.cells #[.int .i64 k, .int .i64 n, .string s, .slice ak lk ck, .slice al ll cl] 30)).alloc (.cells #[.int .i64 k', .int .i64 n', .string s', .slice ak' lk' ck', .slice al' ll' cl'] 30)).alloc
        (.map #[] 0)) (.cells #[.slice none 0 0, .int .i64 0, .map (some mr)] 56)
      simp only [World.size_alloc] at this
      rw [hrb]
      exact this
    · rw [HE0.out, Below.heap_alloc _ _ _ (by simp; omega)]
      have := heap_alloc_new ((w.alloc (.cells #[.int .i64 k, .int .i64 n, .string s, .slice ak lk ck, .slice al ll cl] 30)).alloc (.cells #[.int .i64 k', .int .i64 n', .string s', .slice ak' lk' ck', .slice al' ll' cl'] 30)) (.map #[] 0)
      simp only [World.size_alloc] at this
      rw [hmr]
      exact this
  have hS0 := hS.moved hB0.block
  have hS0' := hS'.moved hB0.block
  have hv0 := hv.same (fun b hb => hB0.block b (hS b hb).2)
  have hv0' := hv'.same (fun b hb => hB0.block b (hS' b hb).2)
  have hNr : w.heap.size ≤ rb := by omega
  have hNm : w.heap.size ≤ mr := by omega
  refine (meet_any d w.heap.size S S' t t' _ _ rb mr (rb + 1) _ 0 #[] 0 _ W0 hw0 hv0 hv0' hS0 hS0' (fun e he => by simp at he) hNr hNm (by omega) (by omega) (by omega)).mono ?_
  rintro e w1 ⟨rfl, va, vb, p0, p1, p2, p3, p0', p1', p2', p3', hva, hvb, hb1, hent⟩
  have hrow : RowAt S W0 (ValAt S W0 d) va (Nd.list t) ∧ RowAt S' W0 (ValAt S' W0 d) vb (Nd.list t') := by
    obtain ⟨vk, vl, hq, _, _, _, _, hl⟩ := hv0
    obtain ⟨vk', vl', hq', _, _, _, _, hl'⟩ := hv0'
    rw [hva] at hq
    rw [hvb] at hq'
    cases hq
    cases hq'
    exact ⟨hl, hl'⟩
  have hbw := hb1.under (N := w.heap.size) hNr hNm (fun g e => by cases e) hB0.size
  have hS1 := hS0.moved hbw.block
  have hS1' := hS0'.moved hbw.block
  have hB1 : Below w.heap.size w w1 := hB0.trans hbw
  have hloop : Hid (Loop S S' w.heap.size rb mr (rb + 1) (ordT (d + 1) t t') (nodes (d + 1) t) (left [⟨d, Nd.list t, Nd.list t', 0, va, vb⟩]) (headO (α := Tr d) t t') w w1) := by
    rcases hent with ⟨sv', es', h1, h2⟩ | ⟨_, _, _, _, _, _, _, _, _, _, ⟨e, he, _⟩, _⟩
    case inr => simp at he
    obtain ⟨q1, q2⟩ := pair_push (es := #[]) (w' := w1) (N := w.heap.size) (fun e he => by simp at he) hS1 hS1' hrow.1 hrow.2 h2
    have hok : FrOk S S' w1 ⟨d, Nd.list t, Nd.list t', 0, va, vb⟩ := ⟨hrow.1.same (fun b hb => hbw.block b (hS b hb).2), hrow.2.same (fun b hb => hbw.block b (hS' b hb).2), Nat.zero_le _, Nat.zero_le _⟩
    have hi : Inv S S' w1 [⟨d, Nd.list t, Nd.list t', 0, va, vb⟩] [] := ⟨fun f hf => (List.mem_singleton.1 hf) ▸ hok, ⟨rfl, trivial⟩, by simp, fun e he => by simp at he⟩
    refine ⟨[⟨d, Nd.list t, Nd.list t', 0, va, vb⟩], sv', 0 + 1, es', h1, q1, hB1, fun _ => ?_, ?_, rfl, by omega, ?_, by simp⟩
    · rcases q2 with rfl | ⟨e, q2, q3⟩
      · exact hi
      · rw [q2]
        exact hi.mark q3
    · rw [ordT_parts t t' va vb, ordS, ordS, orI_right, rest_new]
    · show (0 : Int) + 1 + ((todo ⟨d, Nd.list t, Nd.list t', 0, va, vb⟩ + 0 : Nat) : Int) ≤ ((1 + ((Nd.list t).map (nodes d)).sum : Nat) : Int)
      show (0 : Int) + 1 + ((((Nd.list t).drop 0).map (nodes d)).sum + 0 : Nat) ≤ _
      rw [List.drop_zero]
      omega
  clear hmk HE0 hw0 hS0 hS0' hv0 hv0' hv hv' hent hb1 hrow hbw hS1 hS1' hB1 hB0 hva hvb hrb hmr
  have hsm2 : nodes (d + 1) t ≤ 4194304 := by omega
  obtain ⟨R, HR⟩ : ∃ R, Hid (R = ordT (d + 1) t t') := ⟨_, rfl⟩
  rw [← HR.out] at hloop
  generalize nodes (d + 1) t = T at hloop hsm2
  go_wp2_with fail
  go_loopg [6] (left [⟨d, Nd.list t, Nd.list t', 0, va, vb⟩]) (fun gk v wr => ∃ ord, v = .int .i64 ord ∧ Hid (Loop S S' w.heap.size rb mr (rb + 1) R T gk ord w wr))
  case atStart => exact ⟨_, rfl, hloop⟩
  case round =>
    clear hloop
    obtain ⟨ord, rfl, hl⟩ := hrel
    obtain ⟨stk, sv, met, es, l1, l2, l3, l4, l5, l6, l7, l8, l9⟩ := hl.out
    have c0 := l1.cell.1
    by_cases h0 : ord = 0
    case neg =>
      have hf : Hid (R = ord) := by show _ = _; rw [l5, orI_ne h0]
      have HB : Hid (Below w.heap.size w wr) := l3
      clear hl l1 l2 l3 l4 l5 l6 l7 l8 l9
      go_wp2_with fail
      go_ret
      rw [← HR.out, hf.out]
      exact ⟨rfl, HB.out⟩
    case pos =>
    subst h0
    cases stk with
    | nil =>
      have hf : Hid (R = 0) := by show _ = _; rw [l5]; rfl
      have HB : Hid (Below w.heap.size w wr) := l3
      obtain ⟨sa, sc, rfl⟩ : ∃ sa sc, sv = .slice sa 0 sc := by
        rcases l1.row.2 with ⟨h, _⟩ | ⟨g, cap, cur, h, _⟩
        · exact ⟨_, _, h⟩
        · exact ⟨_, _, h⟩
      clear hl l1 l2 l3 l4 l5 l6 l7 l8 l9
      go_wp2_with fail
      go_ret
      rw [← HR.out, hf.out]
      exact ⟨rfl, HB.out⟩
    | cons f r =>
      obtain ⟨g, cap, rfl⟩ := row_succ l1.row
      have HS := step_any S S' w.heap.size rb mr (rb + 1) R T f r _ met es w wr l1 l2 l3 (l4 rfl) l5 l7 l8 l9 hsm2 (hS.moved l3.block) (hS'.moved l3.block) hNr hNm
      have HC : Hid _ := HS
      have H6 : Hid (gk = left (f :: r)) := l6
      have hlen : (0 : Int) < ((r.length + 1 : Nat) : Int) := by omega
      clear HS hl l1 l2 l3 l4 l5 l6 l7 l8 l9
      go_wp2_with fail
      refine Calls.mono (R := fun e w' => ∃ ord gk, e = .returned (.int .i64 ord) ∧ gk < left (f :: r) ∧ Loop S S' w.heap.size rb mr (rb + 1) R T gk ord w w') HC.out ?_
      rintro e w2 ⟨ord, gk', rfl, hlt, hl2⟩
      have HL : Hid _ := hl2
      clear hl2 HC
      go_wp2_with fail
      go_roundg gk'
      case rel => exact ⟨ord, rfl, HL.out⟩
      case measure => rw [H6.out]; exact hlt
end Go.Proofs.Ytdmlpbkiomgloaa
