/- Texts of the proof, put together by program: WImplO, WSameI, LDraw, LFnOrd, LFnRow0, WEq, WManyT, WManyM, LValMany, LFnMany0. -/
import Derived.Test.YtoangpfmjohhmaaGreatDoorQ19
import Derived.Test.YtoangpfmjohhmaaGreatDoorQ17
import Derived.Test.YtoangpfmjohhmaaGreatDoorQ18
import Derived.Test.YtoangpfmjohhmaaGreatDoorQ1
import Derived.Test.YtoangpfmjohhmaaGreatDoorQ4
import Derived.Test.YtoangpfmjohhmaaGreatDoorQ3
import Derived.Test.YtoangpfmjohhmaaGreatDoorQ5
import Derived.Deep.LoopGhost
import Derived.Deep.RegionHeld
import Derived.Test.YtoangpfmjohhmaaGreatDoorQ6
import Derived.Test.YtoangpfmjohhmaaGreatDoorQ7
/- ValOrder and ValSame of the program. -/
namespace Go.Proofs.YtoangpfmjohhmaaGreatDoor
open Go.RowKit Go.Deep

theorem row_addr {α : Type} {S : Nat → Prop} {w : World} {At : α → Value → Prop} {xs : List α} {a : Addr} {n c : Nat} (h : RowAt S w At (.slice (some a) n c) xs) (hn : 0 < n) : n = xs.length ∧ S a.block := by
  have hl : n = xs.length := by
    obtain ⟨_, a1, c1, hv, _⟩ := h
    cases hv
    rfl
  obtain ⟨b, o, x, _, _, _, _, _, hab, hb, _⟩ := h.cell (k := 0) (by omega)
  cases hab
  exact ⟨hl, hb⟩

/-- Where the loop stands. -/
def Loop (S S' : Nat → Prop) (N rb mr base : Nat) (R : Int) (T gk : Nat) (ord : Int) (w w' : World) : Prop :=
  ∃ (stk : List Fr) (sv : Value) (met : Int) (es : Array MapEntry), Walk w' rb mr base sv met es stk.length (flat stk) ∧ PairIn w' N es.toList ∧ Below N w w' ∧ (ord = 0 → Inv S S' w' stk es.toList) ∧ R = orI ord (ordS stk) ∧ gk = left stk ∧
    0 ≤ met ∧ met + parts stk ≤ T ∧ (stk.length : Int) ≤ met

theorem pair_push {S S' : Nat → Prop} {w w' : World} {N d : Nat} {es es' : Array MapEntry} {xs ys : List (Tr d)} {xa xb : Value} (hp : PairIn w' N es.toList) (hS : Under S w' N) (hS' : Under S' w' N) (ha : RowAt S w (ValAt S w d) xa xs) (hb : RowAt S' w (ValAt S' w d) xb ys)
    (h : es' = es ∨ ∃ a b la lb ca cb, xa = .slice (some a) la ca ∧ xb = .slice (some b) lb cb ∧ 0 < la ∧ 0 < lb ∧ es' = es.push ⟨pairKey a b la lb, .agg #[], es.size⟩) :
    PairIn w' N es'.toList ∧ (es' = es ∨ ∃ e, es'.toList = es.toList ++ [e] ∧ KeyOf ⟨d, xs, ys, 0, xa, xb⟩ e.key) := by
  rcases h with rfl | ⟨a, b, la, lb, ca, cb, rfl, rfl, h1, h2, rfl⟩
  · exact ⟨hp, Or.inl rfl⟩
  · obtain ⟨e1, s1⟩ := row_addr ha h1
    obtain ⟨e2, s2⟩ := row_addr hb h2
    refine ⟨?_, Or.inr ⟨_, Array.toList_push .., a, b, ca, cb, ?_, ?_, ?_⟩⟩
    · rw [Array.toList_push]
      intro e he
      rcases List.mem_append.1 he with he | he
      · exact hp e he
      · obtain rfl : e = _ := by simpa using he
        exact ⟨a, b, la, lb, rfl, rfl, hS _ s1, hS' _ s2⟩
    · show Value.slice (some a) la ca = .slice (some a) xs.length ca
      rw [e1]
    · show Value.slice (some b) lb cb = .slice (some b) ys.length cb
      rw [e2]
    · show pairKey a b la lb = pairKey a b xs.length ys.length
      rw [e1, e2]

/-- One step of the walk. -/
theorem step_any (S S' : Nat → Prop) (N rb mr base : Nat) (R : Int) (T : Nat) (f : Fr) (r : List Fr) (sv : Value) (met : Int) (es : Array MapEntry) (w w1 : World) (hw : Walk w1 rb mr base sv met es (r.length + 1) (flat (f :: r))) (hp : PairIn w1 N es.toList) (hbel : Below N w w1)
    (hinv : Inv S S' w1 (f :: r) es.toList) (hR : R = ordS (f :: r)) (h0 : 0 ≤ met) (hT : met + parts (f :: r) ≤ T) (hl : ((f :: r).length : Int) ≤ met) (hT2 : T ≤ 4194304) (hS : Under S w1 N) (hS' : Under S' w1 N) (hNr : N ≤ rb) (hNm : N ≤ mr) :
    Calls Tryz.prog 49 #[.pointer (some ⟨rb, 0, none⟩)] w1 fun e w' => ∃ ord gk, e = .returned (.int .i64 ord) ∧ gk < left (f :: r) ∧ Loop S S' N rb mr base R T gk ord w w' := by
  have hlr : r.length + 1 ≤ 4194304 := by
    simp only [List.length_cons] at hl
    omega
  have hok := hinv.ok f (by simp)
  by_cases hc : f.pos < f.la.length ∧ f.pos < f.lb.length
  · obtain ⟨fd, la, lb, pos, va, vb⟩ := f
    have hca : pos < la.length := hc.1
    have hcb : pos < lb.length := hc.2
    have hx := List.getElem?_eq_getElem hca
    have hy := List.getElem?_eq_getElem hcb
    cases fd with
    | zero => exact (la[pos]'hca).elim
    | succ d =>
      generalize la[pos]'hca = x at hx
      generalize lb[pos]'hcb = y at hy
      refine (step_go d N S S' rb mr base sv met es la lb pos va vb r x y w1 hw hok.1 hok.2.1 hx hy hS hS' hp hNr hNm (by omega) h0 (by omega)).mono ?_
      rintro e w' ⟨rfl, hb1, xa, xb, ha, hb, hcase⟩
      have hs : Same S w1 w' := fun b h => hb1.block b (hS b h).2
      have hs' : Same S' w1 w' := fun b h => hb1.block b (hS' b h).2
      have hp' := hp.moved hb1.block
      have hrs := rest_step (va := va) (vb := vb) (xa := xa) (xb := xb) hx hy
      have htd := todo_step (lb := lb) (va := va) (vb := vb) (xa := xa) (xb := xb) (y := y) hx
      rcases hcase with ⟨sv', es', hw', he⟩ | ⟨a, b, m, n, ca, cb, rfl, rfl, p1, p2, he, sv', hw'⟩
      · obtain ⟨q1, q2⟩ := pair_push hp' (hS.moved hb1.block) (hS'.moved hb1.block) ha hb he
        refine ⟨_, left (⟨d, Nd.list x, Nd.list y, 0, xa, xb⟩ :: ⟨d + 1, la, lb, pos + 1, va, vb⟩ :: r), rfl, ?_, (⟨d, Nd.list x, Nd.list y, 0, xa, xb⟩ :: ⟨d + 1, la, lb, pos + 1, va, vb⟩ :: r), sv', met + 1, es', hw', q1, hbel.trans hb1, ?_, ?_, rfl, by omega, ?_, ?_⟩
        · show 2 * todo ⟨d, Nd.list x, Nd.list y, 0, xa, xb⟩ + 1 + (2 * todo ⟨d + 1, la, lb, pos + 1, va, vb⟩ + 1 + left r) < 2 * todo ⟨d + 1, la, lb, pos, va, vb⟩ + 1 + left r
          rw [htd]
          omega
        · intro hz
          have hi := (hinv.push hx hy hz ha hb).moved hs hs'
          rcases q2 with rfl | ⟨e, q2, q3⟩
          · exact hi
          · rw [q2]
            exact hi.mark q3
        · rw [hR, ordS, hrs, ordS, ordS, rest_new, orI_assoc, orI_assoc]
        · have hT' : met + ((todo ⟨d + 1, la, lb, pos, va, vb⟩ + parts r : Nat) : Int) ≤ T := hT
          rw [htd] at hT'
          show met + 1 + ((todo ⟨d, Nd.list x, Nd.list y, 0, xa, xb⟩ + (todo ⟨d + 1, la, lb, pos + 1, va, vb⟩ + parts r) : Nat) : Int) ≤ T
          omega
        · simp only [List.length_cons] at hl ⊢
          omega
      · have hz5 := hinv.met hx ha hb he
        have hfull : full ⟨d, Nd.list x, Nd.list y, 0, .slice (some a) m ca, .slice (some b) n cb⟩ = 0 := hz5
        refine ⟨_, left (⟨d + 1, la, lb, pos + 1, va, vb⟩ :: r), rfl, ?_, (⟨d + 1, la, lb, pos + 1, va, vb⟩ :: r), sv', met + 1, es, hw', hp', hbel.trans hb1, ?_, ?_, rfl, by omega, ?_, ?_⟩
        · show 2 * todo ⟨d + 1, la, lb, pos + 1, va, vb⟩ + 1 + left r < 2 * todo ⟨d + 1, la, lb, pos, va, vb⟩ + 1 + left r
          rw [htd]
          omega
        · intro hz
          exact (hinv.skip hx hy hz hz5).moved hs hs'
        · rw [hR, ordS, hrs, hfull, orI_zero, ordS, orI_assoc]
        · have hT' : met + ((todo ⟨d + 1, la, lb, pos, va, vb⟩ + parts r : Nat) : Int) ≤ T := hT
          rw [htd] at hT'
          show met + 1 + ((todo ⟨d + 1, la, lb, pos + 1, va, vb⟩ + parts r : Nat) : Int) ≤ T
          omega
        · simp only [List.length_cons] at hl ⊢
          omega
  · obtain ⟨aa, ca, hva, _⟩ := hok.1.open'
    obtain ⟨ab, cb, hvb, _⟩ := hok.2.1.open'
    have hre : rest f = cmpI f.la.length f.lb.length := ordL_end (ordT f.d) hok.2.2.1 hok.2.2.2 hc
    have hown : ∀ g, sv.ownBlock = some g → N ≤ g := fun g e => by
      have h1 := hw.own e
      have h2 := hw.rlt
      omega
    have hbig : N ≤ w1.heap.size := by
      have h1 := hw.big
      have h2 := hw.rlt
      omega
    refine (step_pop rb mr base sv met es f r aa ab _ _ ca cb w1 hw hva hvb (by omega) hc).mono ?_
    rintro e w' ⟨rfl, ⟨sv', hw'⟩, hb3⟩
    have hb1 := hb3.under hNr hNm hown hbig
    have hs : Same S w1 w' := fun b h => hb1.block b (hS b h).2
    have hs' : Same S' w1 w' := fun b h => hb1.block b (hS' b h).2
    refine ⟨_, left r, rfl, by simp only [left]; omega, r, sv', met, es, hw', hp.moved hb1.block, hbel.trans hb1, ?_, ?_, rfl, h0, ?_, ?_⟩
    · intro hz
      exact (hinv.pop (hre.trans hz)).moved hs hs'
    · rw [hR, ordS, hre]
    · simp only [parts] at hT
      omega
    · simp only [List.length_cons] at hl
      omega

set_option maxRecDepth 100000 in
set_option maxHeartbeats 2000000 in
theorem implOrder_any (d : Nat) (S S' : Nat → Prop) (t t' : Tr d) (v v' : Value) (w : World) (hv : ValAt S w d t v) (hv' : ValAt S' w d t' v') (hS : Under S w w.heap.size) (hS' : Under S' w w.heap.size) (hsm : (nodes d t : Int) ≤ 4194304) :
    Calls Tryz.prog 18 #[v, v'] w fun e w' => e = .returned (.int .i64 (ordT d t t')) ∧ Below w.heap.size w w' := by
  cases d with
  | zero => exact hv.elim
  | succ d =>
  obtain ⟨k, n, s, ak, lk, ck, al, ll, cl, rfl⟩ := hv.shape
  obtain ⟨k', n', s', ak', lk', ck', al', ll', cl', rfl⟩ := hv'.shape
  have hmk := fun w => run_makeMap (P := Tryz.prog) 72 w
  go_enter Tryz.func18, Tryz.ntmps18
  go_wp2_with fail
  obtain ⟨rb, hrb⟩ : ∃ rb, rb = w.heap.size + 1 + 1 + 1 := ⟨_, rfl⟩
  obtain ⟨mr, hmr⟩ : ∃ mr, mr = w.heap.size + 1 + 1 := ⟨_, rfl⟩
  rw [← hrb, ← hmr]
  obtain ⟨W0, HE0⟩ : ∃ W0, Hid (W0 = (((w.alloc (.cells #[.int .i64 k, .int .i64 n, .string s, .slice ak lk ck, .slice al ll cl] 26)).alloc (.cells #[.int .i64 k', .int .i64 n', .string s', .slice ak' lk' ck', .slice al' ll' cl'] 26)).alloc
    (.map #[] 0)).alloc (.cells #[.slice none 0 0, .int .i64 0, .map (some mr)] 75)) := ⟨_, rfl⟩
  rw [← HE0.out]
  have hB0 : Below w.heap.size w W0 := by
    rw [HE0.out]
    exact below_trans (below_trans (below_trans (below_alloc1 _ _) (below_alloc1 _ _)) (below_alloc1 _ _)) (below_alloc1 _ _)
  have hw0 : Walk W0 rb mr (rb + 1) (.slice none 0 0) 0 #[] 0 (flat []) := by
    refine ⟨by omega, by omega, by omega, ?_, ?_, ?_, World.ownsRow_nil _ _ _ _⟩
    · rw [HE0.out]
      simp
      omega
    · rw [HE0.out]
      have := heap_alloc_new (((w.alloc (.cells #[.int .i64 k, .int .i64 n, .string s, .slice ak lk ck, .slice al ll cl] 26)).alloc (.cells #[.int .i64 k', .int .i64 n', .string s', .slice ak' lk' ck', .slice al' ll' cl'] 26)).alloc
        (.map #[] 0)) (.cells #[.slice none 0 0, .int .i64 0, .map (some mr)] 75)
      simp only [World.size_alloc] at this
      rw [hrb]
      exact this
    · rw [HE0.out, Below.heap_alloc _ _ _ (by simp; omega)]
      have := heap_alloc_new ((w.alloc (.cells #[.int .i64 k, .int .i64 n, .string s, .slice ak lk ck, .slice al ll cl] 26)).alloc (.cells #[.int .i64 k', .int .i64 n', .string s', .slice ak' lk' ck', .slice al' ll' cl'] 26)) (.map #[] 0)
      simp only [World.size_alloc] at this
      rw [hmr]
      exact this
  have hS0 := hS.moved hB0.block
  have hS0' := hS'.moved hB0.block
  have hv0 := hv.same (fun b hb => hB0.block b (hS b hb).2)
  have hv0' := hv'.same (fun b hb => hB0.block b (hS' b hb).2)
  have hNr : w.heap.size ≤ rb := by omega
  have hNm : w.heap.size ≤ mr := by omega
  refine (meet_any d w.heap.size S S' t t' _ _ rb mr (rb + 1) _ 0 #[] 0 _ W0 hw0 hv0 hv0' hS0 hS0' (fun e he => by simp at he) hNr hNm (by omega) (by omega) (by omega)).mono ?_
  rintro e w1 ⟨rfl, va, vb, p0, p1, p2, p3, p0', p1', p2', p3', hva, hvb, hb1, hent⟩
  have hrow : RowAt S W0 (ValAt S W0 d) va (Nd.list t) ∧ RowAt S' W0 (ValAt S' W0 d) vb (Nd.list t') := by
    obtain ⟨vk, vl, hq, _, _, _, _, hl⟩ := hv0
    obtain ⟨vk', vl', hq', _, _, _, _, hl'⟩ := hv0'
    rw [hva] at hq
    rw [hvb] at hq'
    cases hq
    cases hq'
    exact ⟨hl, hl'⟩
  have hbw := hb1.under (N := w.heap.size) hNr hNm (fun g e => by cases e) hB0.size
  have hS1 := hS0.moved hbw.block
  have hS1' := hS0'.moved hbw.block
  have hB1 : Below w.heap.size w w1 := hB0.trans hbw
  have hloop : Hid (Loop S S' w.heap.size rb mr (rb + 1) (ordT (d + 1) t t') (nodes (d + 1) t) (left [⟨d, Nd.list t, Nd.list t', 0, va, vb⟩]) (headO (α := Tr d) t t') w w1) := by
    rcases hent with ⟨sv', es', h1, h2⟩ | ⟨_, _, _, _, _, _, _, _, _, _, ⟨e, he, _⟩, _⟩
    case inr => simp at he
    obtain ⟨q1, q2⟩ := pair_push (es := #[]) (w' := w1) (N := w.heap.size) (fun e he => by simp at he) hS1 hS1' hrow.1 hrow.2 h2
    have hok : FrOk S S' w1 ⟨d, Nd.list t, Nd.list t', 0, va, vb⟩ := ⟨hrow.1.same (fun b hb => hbw.block b (hS b hb).2), hrow.2.same (fun b hb => hbw.block b (hS' b hb).2), Nat.zero_le _, Nat.zero_le _⟩
    have hi : Inv S S' w1 [⟨d, Nd.list t, Nd.list t', 0, va, vb⟩] [] := ⟨fun f hf => (List.mem_singleton.1 hf) ▸ hok, ⟨rfl, trivial⟩, by simp, fun e he => by simp at he⟩
    refine ⟨[⟨d, Nd.list t, Nd.list t', 0, va, vb⟩], sv', 0 + 1, es', h1, q1, hB1, fun _ => ?_, ?_, rfl, by omega, ?_, by simp⟩
    · rcases q2 with rfl | ⟨e, q2, q3⟩
      · exact hi
      · rw [q2]
        exact hi.mark q3
    · rw [ordT_parts t t' va vb, ordS, ordS, orI_right, rest_new]
    · show (0 : Int) + 1 + ((todo ⟨d, Nd.list t, Nd.list t', 0, va, vb⟩ + 0 : Nat) : Int) ≤ ((1 + ((Nd.list t).map (nodes d)).sum : Nat) : Int)
      show (0 : Int) + 1 + ((((Nd.list t).drop 0).map (nodes d)).sum + 0 : Nat) ≤ _
      rw [List.drop_zero]
      omega
  clear hmk HE0 hw0 hS0 hS0' hv0 hv0' hv hv' hent hb1 hrow hbw hS1 hS1' hB1 hB0 hva hvb hrb hmr
  have hsm2 : nodes (d + 1) t ≤ 4194304 := by omega
  obtain ⟨R, HR⟩ : ∃ R, Hid (R = ordT (d + 1) t t') := ⟨_, rfl⟩
  rw [← HR.out] at hloop
  generalize nodes (d + 1) t = T at hloop hsm2
  go_wp2_with fail
  go_loopg [6] (left [⟨d, Nd.list t, Nd.list t', 0, va, vb⟩]) (fun gk v wr => ∃ ord, v = .int .i64 ord ∧ Hid (Loop S S' w.heap.size rb mr (rb + 1) R T gk ord w wr))
  case atStart => exact ⟨_, rfl, hloop⟩
  case round =>
    clear hloop
    obtain ⟨ord, rfl, hl⟩ := hrel
    obtain ⟨stk, sv, met, es, l1, l2, l3, l4, l5, l6, l7, l8, l9⟩ := hl.out
    have c0 := l1.cell.1
    by_cases h0 : ord = 0
    case neg =>
      have hf : Hid (R = ord) := by show _ = _; rw [l5, orI_ne h0]
      have HB : Hid (Below w.heap.size w wr) := l3
      clear hl l1 l2 l3 l4 l5 l6 l7 l8 l9
      go_wp2_with fail
      go_ret
      rw [← HR.out, hf.out]
      exact ⟨rfl, HB.out⟩
    case pos =>
    subst h0
    cases stk with
    | nil =>
      have hf : Hid (R = 0) := by show _ = _; rw [l5]; rfl
      have HB : Hid (Below w.heap.size w wr) := l3
      obtain ⟨sa, sc, rfl⟩ : ∃ sa sc, sv = .slice sa 0 sc := by
        rcases l1.row.2 with ⟨h, _⟩ | ⟨g, cap, cur, h, _⟩
        · exact ⟨_, _, h⟩
        · exact ⟨_, _, h⟩
      clear hl l1 l2 l3 l4 l5 l6 l7 l8 l9
      go_wp2_with fail
      go_ret
      rw [← HR.out, hf.out]
      exact ⟨rfl, HB.out⟩
    | cons f r =>
      obtain ⟨g, cap, rfl⟩ := row_succ l1.row
      have HS := step_any S S' w.heap.size rb mr (rb + 1) R T f r _ met es w wr l1 l2 l3 (l4 rfl) l5 l7 l8 l9 hsm2 (hS.moved l3.block) (hS'.moved l3.block) hNr hNm
      have HC : Hid _ := HS
      have H6 : Hid (gk = left (f :: r)) := l6
      have hlen : (0 : Int) < ((r.length + 1 : Nat) : Int) := by omega
      clear HS hl l1 l2 l3 l4 l5 l6 l7 l8 l9
      go_wp2_with fail
      refine Calls.mono (R := fun e w' => ∃ ord gk, e = .returned (.int .i64 ord) ∧ gk < left (f :: r) ∧ Loop S S' w.heap.size rb mr (rb + 1) R T gk ord w w') HC.out ?_
      rintro e w2 ⟨ord, gk', rfl, hlt, hl2⟩
      have HL : Hid _ := hl2
      clear hl2 HC
      go_wp2_with fail
      go_roundg gk'
      case rel => exact ⟨ord, rfl, HL.out⟩
      case measure => rw [H6.out]; exact hlt
end Go.Proofs.YtoangpfmjohhmaaGreatDoor

/- ValSame of the program; the order says that two are one. -/
namespace Go.Proofs.YtoangpfmjohhmaaGreatDoor
open Go.RowKit Go.Deep

theorem under_freshP (w w' : World) : Under (FreshP w w') w' w'.heap.size := fun _ h => ⟨h.2, h.1.2⟩
theorem within_freshP (w w' : World) : Within (FreshP w w') w' := fun _ h => h.1.2
theorem Under.below {S : Nat → Prop} {w w' : World} (h : Under S w w.heap.size) (hb : Below w.heap.size w w') : Under S w' w'.heap.size := fun b hS => ⟨(h b hS).1.of_block (hb.block b (h b hS).2), Nat.lt_of_lt_of_le (h b hS).2 hb.size⟩

theorem orI_eq0 {x y : Int} : orI x y = 0 ↔ x = 0 ∧ y = 0 := by
  unfold orI
  split <;> simp_all
theorem cmpI_eq0 (a b : Int) : cmpI a b = 0 ↔ (a == b) = true := by
  unfold cmpI
  split
  · simp; omega
  · split
    · simp; omega
    · simp; omega
theorem cmpS_eq0 (a b : ByteArray) : cmpS a b = 0 ↔ (a.toList == b.toList) = true := by
  constructor
  · intro h
    unfold cmpS at h
    split at h
    · omega
    · split at h
      · assumption
      · omega
  · exact cmpS_eq
theorem ordL_strs : ∀ (xs ys : List ByteArray), ordL cmpS xs ys = 0 ↔ eqStrs xs ys = true
  | [], [] => by simp [ordL, eqStrs]
  | [], _ :: _ => by simp [ordL, eqStrs]
  | _ :: _, [] => by simp [ordL, eqStrs]
  | a :: r, b :: s => by rw [ordL, orI_eq0, cmpS_eq0, ordL_strs r s, eqStrs, Bool.and_eq_true]
theorem ordL_eqL {α : Type} {f : α → α → Int} {g : α → α → Bool} (h : ∀ a b, f a b = 0 ↔ g a b = true) : ∀ (xs ys : List α), ordL f xs ys = 0 ↔ eqL g xs ys = true
  | [], [] => by simp [ordL, eqL]
  | [], _ :: _ => by simp [ordL, eqL]
  | _ :: _, [] => by simp [ordL, eqL]
  | a :: r, b :: s => by rw [ordL, orI_eq0, h, ordL_eqL h r s, eqL, Bool.and_eq_true]
theorem ordT_eqT : ∀ (d : Nat) (a b : Tr d), ordT d a b = 0 ↔ eqT d a b = true
  | 0, _, _ => by simp [ordT, eqT]
  | d + 1, a, b => by
    have hh : headO (α := Tr d) a b = 0 ↔ ((Nd.kind a == Nd.kind b) = true ∧ (Nd.num a == Nd.num b) = true ∧ ((Nd.str a).toList == (Nd.str b).toList) = true ∧ eqStrs (Nd.keys a) (Nd.keys b) = true) := by
      show orI (cmpI (Nd.kind a) (Nd.kind b)) (orI (cmpI (Nd.num a) (Nd.num b)) (orI (cmpS (Nd.str a) (Nd.str b)) (ordL cmpS (Nd.keys a) (Nd.keys b)))) = 0 ↔ _
      rw [orI_eq0, orI_eq0, orI_eq0, cmpI_eq0, cmpI_eq0, cmpS_eq0, ordL_strs]
    rw [ordT, orI_eq0, hh, ordL_eqL (ordT_eqT d), eqT, Bool.and_eq_true, Bool.and_eq_true, Bool.and_eq_true, Bool.and_eq_true]
    constructor
    · rintro ⟨⟨h1, h2, h3, h4⟩, h5⟩
      exact ⟨h1, h2, h3, h4, h5⟩
    · rintro ⟨h1, h2, h3, h4, h5⟩
      exact ⟨⟨h1, h2, h3, h4⟩, h5⟩

set_option maxHeartbeats 1000000 in
theorem implSame_any (d : Nat) (S S' : Nat → Prop) (t t' : Tr d) (v v' : Value) (w : World) (hv : ValAt S w d t v) (hv' : ValAt S' w d t' v') (hS : Under S w w.heap.size) (hS' : Under S' w w.heap.size) (hsm : (nodes d t : Int) ≤ 4194304) :
    Calls Tryz.prog 11 #[v, v'] w fun e w' => e = .returned (.bool (eqT d t t')) ∧ Below w.heap.size w w' := by
  obtain ⟨k, n, s, ak, lk, ck, al, ll, cl, rfl⟩ := hv.shape
  obtain ⟨k', n', s', ak', lk', ck', al', ll', cl', rfl⟩ := hv'.shape
  obtain ⟨_, _, hA⟩ := two_blocks w 26 (.int .i64 k) (.int .i64 n) (.string s) (.slice ak lk ck) (.slice al ll cl) (.int .i64 k') (.int .i64 n') (.string s') (.slice ak' lk' ck') (.slice al' ll' cl')
  have hf : Hid ((ordT d t t' == 0) = eqT d t t') := by
    show (ordT d t t' == 0) = eqT d t t'
    rw [Bool.eq_iff_iff, beq_iff_eq]
    exact ordT_eqT d t t'
  go_enter Tryz.func11, Tryz.ntmps11
  go_wp2_with fail
  refine (implOrder_any d S S' t t' _ _ _ (hv.same (fun b hb => hA.block b (hS b hb).2)) (hv'.same (fun b hb => hA.block b (hS' b hb).2)) (hS.below hA) (hS'.below hA) hsm).mono ?_
  rintro e w1 ⟨rfl, hb1⟩
  have hB := below_trans hA hb1
  clear hA hb1
  go_wp2_with fail
  go_ret
  rw [← hf.out]
  exact ⟨rfl, hB⟩

end Go.Proofs.YtoangpfmjohhmaaGreatDoor

/- What the laws draw: two trees. -/
namespace Go.Proofs.YtoangpfmjohhmaaGreatDoor
open Go.RowKit Go.Deep

theorem freshP_after {w W0 w1 w2 : World} (h0 : w.heap.size ≤ W0.heap.size) (b1 : Below w1.heap.size w1 w2) : ∀ b, FreshP W0 w1 b → FreshP w w2 b := fun b hb => ⟨⟨Nat.le_trans h0 hb.1.1, Nat.lt_of_lt_of_le hb.1.2 b1.size⟩, hb.2.of_block (b1.block b hb.1.2)⟩

end Go.Proofs.YtoangpfmjohhmaaGreatDoor

/- FnValOrder: for all bytes that lie in memory the law answers true. -/
namespace Go.Proofs.YtoangpfmjohhmaaGreatDoor
open Go.RowKit Go.Deep

/-- What stands when three trees are drawn: their cells, in variables; the trees themselves, in plain new blocks. -/
structure Three (w wX : World) (A B C : Nat) (a0 a1 a2 a3 a4 b0 b1 b2 b3 b4 c0 c1 c2 c3 c4 : Value) (ta tb tc : Tr 11) : Prop where
  ka : Blk5 wX A 26 a0 a1 a2 a3 a4
  kb : Blk5 wX B 26 b0 b1 b2 b3 b4
  kc : Blk5 wX C 26 c0 c1 c2 c3 c4
  va : ValAt (FreshP w wX) wX 11 ta (.agg #[a0, a1, a2, a3, a4])
  vb : ValAt (FreshP w wX) wX 11 tb (.agg #[b0, b1, b2, b3, b4])
  vc : ValAt (FreshP w wX) wX 11 tc (.agg #[c0, c1, c2, c3, c4])
  sa : wtT 11 ta ≤ 1000
  sb : wtT 11 tb ≤ 1000
  sc : wtT 11 tc ≤ 1000
  below : Below w.heap.size w wX

theorem freshP_go {w wX wY : World} {d : Nat} {t : Tr d} {u : Value} (h : ValAt (FreshP w wX) wX d t u) (hb : Below wX.heap.size wX wY) : ValAt (FreshP w wY) wY d t u := by
  have hs : Same (FreshP w wX) wX wY := fun b hb' => hb.block b hb'.1.2
  exact ValAt.moved hs (fun b hb' => ⟨⟨hb'.1.1, Nat.lt_of_lt_of_le hb'.1.2 hb.size⟩, hb'.2.of_block (hs b hb')⟩) d t u h
theorem freshP_wide {w W0 w1 : World} {d : Nat} {t : Tr d} {u : Value} (h : ValAt (FreshP W0 w1) w1 d t u) (h0 : w.heap.size ≤ W0.heap.size) : ValAt (FreshP w w1) w1 d t u := h.mono (fun _ hb => ⟨⟨Nat.le_trans h0 hb.1.1, hb.1.2⟩, hb.2⟩)
theorem Three.go {w wX wY : World} {A B C : Nat} {a0 a1 a2 a3 a4 b0 b1 b2 b3 b4 c0 c1 c2 c3 c4 : Value} {ta tb tc : Tr 11} (h : Three w wX A B C a0 a1 a2 a3 a4 b0 b1 b2 b3 b4 c0 c1 c2 c3 c4 ta tb tc) (hb : Below wX.heap.size wX wY) : Three w wY A B C a0 a1 a2 a3 a4 b0 b1 b2 b3 b4 c0 c1 c2 c3 c4 ta tb tc :=
  ⟨h.ka.below hb, h.kb.below hb, h.kc.below hb, freshP_go h.va hb, freshP_go h.vb hb, freshP_go h.vc hb, h.sa, h.sb, h.sc, below_trans h.below hb⟩
theorem under_P {w wX : World} : Under (FreshP w wX) wX wX.heap.size := fun _ h => ⟨h.2, h.1.2⟩
theorem within_P {w wX : World} : Within (FreshP w wX) wX := fun _ h => h.1.2

theorem ordI_any {w W : World} {t t' : Tr 11} {v v' : Value} (h : ValAt (FreshP w W) W 11 t v) (h' : ValAt (FreshP w W) W 11 t' v') (hs : wtT 11 t ≤ 1000) : Calls Tryz.prog 18 #[v, v'] W fun e w' => e = .returned (.int .i64 (ordT 11 t t')) ∧ Below W.heap.size W w' :=
  implOrder_any 11 _ _ t t' v v' W h h' under_P under_P (by have := nodes_wt' 11 t; omega)
theorem samI_any {w W : World} {t t' : Tr 11} {v v' : Value} (h : ValAt (FreshP w W) W 11 t v) (h' : ValAt (FreshP w W) W 11 t' v') (hs : wtT 11 t ≤ 1000) : Calls Tryz.prog 11 #[v, v'] W fun e w' => e = .returned (.bool (ordT 11 t t' == 0)) ∧ Below W.heap.size W w' := by
  have e : eqT 11 t t' = (ordT 11 t t' == 0) := by rw [Bool.eq_iff_iff, beq_iff_eq]; exact (ordT_eqT 11 t t').symm
  rw [← e]
  exact implSame_any 11 _ _ t t' v v' W h h' under_P under_P (by have := nodes_wt' 11 t; omega)
end Go.Proofs.YtoangpfmjohhmaaGreatDoor

/- FnValRow: rows of drawn trees, and how they stand. -/
namespace Go.Proofs.YtoangpfmjohhmaaGreatDoor
open Go.RowKit Go.Deep

theorem ordI_at {d : Nat} {w W : World} {t t' : Tr d} {v v' : Value} (h : ValAt (FreshP w W) W d t v) (h' : ValAt (FreshP w W) W d t' v') (hs : wtT d t ≤ 10000) : Calls Tryz.prog 18 #[v, v'] W fun e w' => e = .returned (.int .i64 (ordT d t t')) ∧ Below W.heap.size W w' :=
  implOrder_any d _ _ t t' v v' W h h' under_P under_P (by have := nodes_wt' d t; omega)
theorem samI_at {d : Nat} {w W : World} {t t' : Tr d} {v v' : Value} (h : ValAt (FreshP w W) W d t v) (h' : ValAt (FreshP w W) W d t' v') (hs : wtT d t ≤ 10000) : Calls Tryz.prog 11 #[v, v'] W fun e w' => e = .returned (.bool (ordT d t t' == 0)) ∧ Below W.heap.size W w' := by
  have e : eqT d t t' = (ordT d t t' == 0) := by rw [Bool.eq_iff_iff, beq_iff_eq]; exact (ordT_eqT d t t').symm
  rw [← e]
  exact implSame_any d _ _ t t' v v' W h h' under_P under_P (by have := nodes_wt' d t; omega)

/-- A row of trees, as a tree. -/
def rowD {d : Nat} (xs : List (Tr d)) : Tr (d + 1) := ({ kind := 5, num := 0, str := ⟨#[]⟩, keys := [], list := xs } : Nd (Tr d))
theorem ordT_rowD {d : Nat} (xs ys : List (Tr d)) : ordT (d + 1) (rowD xs) (rowD ys) = ordL (ordT d) xs ys := by
  show orI (orI (cmpI 5 5) (orI (cmpI 0 0) (orI (cmpS ⟨#[]⟩ ⟨#[]⟩) (ordL cmpS [] [])))) (ordL (ordT d) xs ys) = _
  have h1 : cmpI 5 5 = 0 := by decide
  have h2 : cmpI 0 0 = 0 := by decide
  have h3 : cmpS ⟨#[]⟩ ⟨#[]⟩ = 0 := cmpS_eq (by simp)
  rw [h1, h2, h3]
  rfl
theorem rowD_at {S : Nat → Prop} {w : World} {d : Nat} {xs : List (Tr d)} {a : Option Addr} {n c : Nat} (h : RowAt S w (ValAt S w d) (.slice a n c) xs) : ValAt S w (d + 1) (rowD xs) (.agg #[.int .i64 5, .int .i64 0, .string { data := #[] }, .slice none 0 0, .slice a n c]) :=
  build_of ⟨by omega, by omega⟩ ⟨by omega, by omega⟩ (by show (0 : Nat) < _; omega) ⟨by show (0 : Nat) < _; omega, (fun s hs => by cases hs), none, 0, rfl, Or.inl rfl⟩ h
theorem row1_at {S : Nat → Prop} {w : World} {d g : Nat} {t : Tr d} {a0 a1 a2 a3 a4 : Value} (h : Blk5 w g 26 a0 a1 a2 a3 a4) (hg : S g) (ht : ValAt S w d t (.agg #[a0, a1, a2, a3, a4])) : RowAt S w (ValAt S w d) (.slice (some ⟨g, 0, none⟩) 1 1) [t] := by
  obtain ⟨e0, e1, e2, e3, e4⟩ := h.cell
  exact ⟨by simp, some ⟨g, 0, none⟩, 1, rfl, Or.inr ⟨g, 0, hg, rfl, fun i x hx => by
    match i, hx with
    | 0, hx => cases hx; exact ⟨a0, a1, a2, a3, a4, e0, e1, e2, e3, e4, ht⟩
    | i + 1, hx => simp at hx⟩⟩
theorem row2_at {S : Nat → Prop} {w : World} {d g : Nat} {c l : Tr d} {c0 c1 c2 c3 c4 l0 l1 l2 l3 l4 : Value} (h : w.heap[g]? = some (.cells #[c0, c1, c2, c3, c4, l0, l1, l2, l3, l4] 26 (0, 0))) (hg : S g) (hC : ValAt S w d c (.agg #[c0, c1, c2, c3, c4])) (hL : ValAt S w d l (.agg #[l0, l1, l2, l3, l4])) : RowAt S w (ValAt S w d) (.slice (some ⟨g, 0, none⟩) 2 2) [c, l] := by
  have hcl : ∀ j u, (#[c0, c1, c2, c3, c4, l0, l1, l2, l3, l4] : Array Value)[j]? = some u → w.cell? ⟨g, j, none⟩ = some u := fun j u hj => (cell_of_cells h).trans hj
  exact ⟨by simp, some ⟨g, 0, none⟩, 2, rfl, Or.inr ⟨g, 0, hg, rfl, fun i x hx => by
    match i, hx with
    | 0, hx => cases hx; exact ⟨c0, c1, c2, c3, c4, hcl 0 _ rfl, hcl 1 _ rfl, hcl 2 _ rfl, hcl 3 _ rfl, hcl 4 _ rfl, hC⟩
    | 1, hx => cases hx; exact ⟨l0, l1, l2, l3, l4, hcl 5 _ rfl, hcl 6 _ rfl, hcl 7 _ rfl, hcl 8 _ rfl, hcl 9 _ rfl, hL⟩
    | i + 2, hx => simp at hx⟩⟩
theorem freshP_new (w W : World) (o : Array Value) (T : TypeId) (h : w.heap.size ≤ W.heap.size) : FreshP w (W.alloc (.cells o T)) W.heap.size := ⟨⟨h, by simp⟩, ⟨o, T, heap_alloc_new W _⟩⟩
end Go.Proofs.YtoangpfmjohhmaaGreatDoor

/- eqStringS, eqVal, eqValS: two trees are one. -/
namespace Go.Proofs.YtoangpfmjohhmaaGreatDoor
open Go.RowKit Go.Deep
set_option maxHeartbeats 400000 in
theorem eqStringS_any (S S' : Nat → Prop) (ss ss' : List ByteArray) (v v' : Value) (w : World) (hv : StrsAt S w v ss) (hv' : StrsAt S' w v' ss') :
    Calls Tryz.prog 54 #[v, v'] w fun e w' => e = .returned (.bool (eqStrs ss ss')) ∧ ∃ n, w' = w.drewN n := by
  obtain ⟨a, cap, rfl, hlen⟩ := hv.open'
  obtain ⟨a', cap', rfl, hlen'⟩ := hv'.open'
  by_cases hne : ss.length = ss'.length
  · rw [← hne]
    have HN : Hid (ss.length = ss'.length) := hne
    clear hne
    have hq : ((ss.length : Int) != (ss.length : Int)) = false := by simp
    go_enter Tryz.func54, Tryz.ntmps54
    go_wp2_with fail
    go_loopw [5] (fun i wr => ∃ (k n : Nat), k ≤ ss.length ∧ i = .int .i64 k ∧ wr = w.drewN n ∧ Hid (eqStrs ss ss' = eqStrs (ss.drop k) (ss'.drop k))) (fun i _ => ss.length - (intOf i).toNat)
    case atStart => exact ⟨0, 0, Nat.zero_le _, rfl, rfl, rfl⟩
    case round =>
      obtain ⟨k, n, hk, rfl, rfl, hfin⟩ := hrel
      by_cases hkl : k < ss.length
      · obtain ⟨b, o, s, rfl, _, hs, _, hck⟩ := hv.cell hkl
        obtain ⟨b', o', s', rfl, _, hs', _, hck'⟩ := hv'.cell (by rw [← HN.out]; exact hkl)
        have hst : Hid (_ = _) := eqStrs_drop hs hs'
        clear hv hv' hs hs'
        have hki : (k : Int) < (ss.length : Int) := by omega
        by_cases heq : (s.toList == s'.toList) = true
        · have hst2 : Hid (eqStrs ss ss' = eqStrs (ss.drop (k + 1)) (ss'.drop (k + 1))) := by
            show eqStrs ss ss' = _
            rw [hfin.out, hst.out, heq]
            rfl
          clear hst hfin
          go_wp2_with fail
          go_quiet (fail)
          go_wp2_with fail
          exact ⟨⟨k + 1, n + nq, by omega, by go_num, by simp, hst2⟩, by simp [intOf]; omega⟩
        · have heq' : (s.toList == s'.toList) = false := by simpa using heq
          have hfin2 : Hid (eqStrs ss ss' = false) := by
            show eqStrs ss ss' = false
            rw [hfin.out, hst.out, heq']
            rfl
          clear hst hfin heq
          go_wp2_with fail
          go_quiet (fail)
          go_wp2_with fail
          go_ret
          rw [hfin2.out]
          exact ⟨rfl, n + nq, by simp⟩
      · go_wp2_with fail
        go_ret
        rw [hfin.out, List.drop_eq_nil_of_le (by omega), List.drop_eq_nil_of_le (by have := HN.out; omega)]
        exact ⟨rfl, n, rfl⟩
  · have hfin : Hid (eqStrs ss ss' = false) := by
      show eqStrs ss ss' = false
      cases h : eqStrs ss ss'
      · rfl
      · exact absurd (eqStrs_len _ _ h) hne
    have hq : ((ss.length : Int) != (ss'.length : Int)) = true := by rw [bne_iff_ne]; omega
    go_enter Tryz.func54, Tryz.ntmps54
    go_wp2_with fail
    go_ret
    rw [hfin.out]
    exact ⟨rfl, 0, rfl⟩

/-- What eqVal does with trees of this depth. -/
def EqVal (d : Nat) : Prop := ∀ (S S' : Nat → Prop) (t t' : Tr d) (v v' : Value) (w : World), ValAt S w d t v → ValAt S' w d t' v' → Within S w → Within S' w →
    Calls Tryz.prog 21 #[v, v'] w fun e w' => e = .returned (.bool (eqT d t t')) ∧ Below w.heap.size w w'

set_option maxHeartbeats 1000000 in
theorem eqValS_any (d : Nat) (H : EqVal d) (S S' : Nat → Prop) (xs xs' : List (Tr d)) (v v' : Value) (w : World) (hv : RowAt S w (ValAt S w d) v xs) (hv' : RowAt S' w (ValAt S' w d) v' xs') (hS : Within S w) (hS' : Within S' w) :
    Calls Tryz.prog 55 #[v, v'] w fun e w' => e = .returned (.bool (eqL (eqT d) xs xs')) ∧ Below w.heap.size w w' := by
  obtain ⟨a, cap, rfl, hlen⟩ := hv.open'
  obtain ⟨a', cap', rfl, hlen'⟩ := hv'.open'
  by_cases hne : xs.length = xs'.length
  · rw [← hne]
    have HN : Hid (xs.length = xs'.length) := hne
    clear hne
    have hq : ((xs.length : Int) != (xs.length : Int)) = false := by simp
    go_enter Tryz.func55, Tryz.ntmps55
    go_wp2_with fail
    go_loopw [5] (fun i wr => ∃ (k : Nat), k ≤ xs.length ∧ i = .int .i64 k ∧ Below w.heap.size w wr ∧ Hid (eqL (eqT d) xs xs' = eqL (eqT d) (xs.drop k) (xs'.drop k))) (fun i _ => xs.length - (intOf i).toNat)
    case atStart => exact ⟨0, Nat.zero_le _, rfl, Below.refl _ _, rfl⟩
    case round =>
      obtain ⟨k, hk, rfl, hbel, hfin⟩ := hrel
      by_cases hkl : k < xs.length
      · obtain ⟨b, o, x, c0, c1, c2, c3, c4, rfl, hb, hx, e0, e1, e2, e3, e4, hval⟩ := (hv.same (hS.same hbel)).cell hkl
        obtain ⟨b', o', x', c0', c1', c2', c3', c4', rfl, hb', hx', e0', e1', e2', e3', e4', hval'⟩ := (hv'.same (hS'.same hbel)).cell (by rw [← HN.out]; exact hkl)
        have hst : Hid (_ = _) := eqL_drop (eqT d) hx hx'
        have hW := hS.later hbel.size
        have hW' := hS'.later hbel.size
        clear hv hv' hx hx' hS hS'
        have hki : (k : Int) < (xs.length : Int) := by omega
        by_cases heq : eqT d x x' = true
        · have hst2 : Hid (eqL (eqT d) xs xs' = eqL (eqT d) (xs.drop (k + 1)) (xs'.drop (k + 1))) := by
            show eqL (eqT d) xs xs' = _
            rw [hfin.out, hst.out, heq]
            rfl
          clear hst hfin
          go_wp2_with fail
          go_region_with (go_at_call 21; refine (H S S' x x' _ _ _ ?_ ?_ ?_ ?_).mono ?_; exact hval.same (fun _ _ => rfl); exact hval'.same (fun _ _ => rfl); exact hW; exact hW'; rintro e w1 ⟨rfl, hb1⟩)
          all_goals
            have hb2 : Below w.heap.size w w1 := below_trans hbel (show Below wr.heap.size wr w1 from ⟨hb1.os, hb1.tape, hb1.output, hb1.size, hb1.block⟩)
            clear hb1 hbel hval hval' e0 e1 e2 e3 e4 e0' e1' e2' e3' e4'
            go_wp2_with fail
            go_roundw
            case rel => exact ⟨k + 1, by omega, by go_num, hb2, hst2⟩
            case measure => simp [intOf]; omega
        · have heq' : eqT d x x' = false := by simpa using heq
          have hfin2 : Hid (eqL (eqT d) xs xs' = false) := by
            show eqL (eqT d) xs xs' = false
            rw [hfin.out, hst.out, heq']
            rfl
          clear hst hfin heq
          go_wp2_with fail
          go_region_with (go_at_call 21; refine (H S S' x x' _ _ _ ?_ ?_ ?_ ?_).mono ?_; exact hval.same (fun _ _ => rfl); exact hval'.same (fun _ _ => rfl); exact hW; exact hW'; rintro e w1 ⟨rfl, hb1⟩)
          all_goals
            have hb2 : Below w.heap.size w w1 := below_trans hbel (show Below wr.heap.size wr w1 from ⟨hb1.os, hb1.tape, hb1.output, hb1.size, hb1.block⟩)
            clear hb1 hbel hval hval' e0 e1 e2 e3 e4 e0' e1' e2' e3' e4'
            go_wp2_with fail
            go_ret
            rw [hfin2.out]
            exact ⟨rfl, hb2⟩
      · go_wp2_with fail
        go_ret
        rw [hfin.out, List.drop_eq_nil_of_le (by omega), List.drop_eq_nil_of_le (by have := HN.out; omega)]
        exact ⟨rfl, hbel⟩
  · have hfin : Hid (eqL (eqT d) xs xs' = false) := by
      show eqL (eqT d) xs xs' = false
      cases h : eqL (eqT d) xs xs'
      · rfl
      · exact absurd (eqL_len _ _ _ h) hne
    have hq : ((xs.length : Int) != (xs'.length : Int)) = true := by rw [bne_iff_ne]; omega
    go_enter Tryz.func55, Tryz.ntmps55
    go_wp2_with fail
    go_ret
    rw [hfin.out]
    exact ⟨rfl, Below.refl _ _⟩

set_option maxHeartbeats 1000000 in
theorem eqVal_any : ∀ (d : Nat), EqVal d
  | 0 => fun _ _ _ _ _ _ _ h => h.elim
  | d + 1 => by
    intro S S' t t' v v' w hv hv' hS hS'
    have ih := eqVal_any d
    obtain ⟨vk, vl, rfl, i1, i2, i3, hk, hl⟩ := hv
    obtain ⟨ak, ck, rfl, hkl⟩ := hk.open'
    obtain ⟨al, cl, rfl, hll⟩ := hl.open'
    obtain ⟨vk', vl', rfl, i1', i2', i3', hk', hl'⟩ := hv'
    obtain ⟨ak', ck', rfl, hkl'⟩ := hk'.open'
    obtain ⟨al', cl', rfl, hll'⟩ := hl'.open'
    have hba : Below w.heap.size w ((w.alloc (Obj.cells #[.int .i64 t.kind, .int .i64 t.num, .string t.str, .slice ak t.keys.length ck, .slice al t.list.length cl] 26)).alloc
      (Obj.cells #[.int .i64 t'.kind, .int .i64 t'.num, .string t'.str, .slice ak' t'.keys.length ck', .slice al' t'.list.length cl'] 26)) := below_trans (below_alloc1 _ _) (below_alloc1 _ _)
    cases h1 : (t.kind == t'.kind) with
    | false =>
      have hfin : Hid (eqT (d + 1) t t' = false) := by
        show eqT (d + 1) t t' = false
        rw [eqT, h1]
        rfl
      have hq : (t.kind != t'.kind) = true := by rw [bne, h1]; rfl
      clear h1
      go_enter Tryz.func21, Tryz.ntmps21
      go_wp2_with fail
      go_ret
      rw [hfin.out]
      exact ⟨rfl, hba⟩
    | true =>
    have hq : (t.kind != t'.kind) = false := by rw [bne, h1]; rfl
    cases h2 : (t.num == t'.num) with
    | false =>
      have hfin : Hid (eqT (d + 1) t t' = false) := by
        show eqT (d + 1) t t' = false
        rw [eqT, h1, h2]
        rfl
      have hq2 : (t.num != t'.num) = true := by rw [bne, h2]; rfl
      clear h1 h2
      go_enter Tryz.func21, Tryz.ntmps21
      go_wp2_with fail
      go_ret
      rw [hfin.out]
      exact ⟨rfl, hba⟩
    | true =>
    have hq2 : (t.num != t'.num) = false := by rw [bne, h2]; rfl
    cases h3 : (t.str.toList == t'.str.toList) with
    | false =>
      have hfin : Hid (eqT (d + 1) t t' = false) := by
        show eqT (d + 1) t t' = false
        rw [eqT, h1, h2, h3]
        rfl
      clear h1 h2
      go_enter Tryz.func21, Tryz.ntmps21
      go_wp2_with fail
      go_ret
      rw [hfin.out]
      exact ⟨rfl, hba⟩
    | true =>
    have hfin : Hid (eqT (d + 1) t t' = (eqStrs t.keys t'.keys && eqL (eqT d) t.list t'.list)) := by
      show eqT (d + 1) t t' = _
      rw [eqT, h1, h2, h3]
      rfl
    clear h1 h2
    go_enter Tryz.func21, Tryz.ntmps21
    go_wp2_with fail
    refine (eqStringS_any S S' t.keys t'.keys _ _ _ (hk.same (hS.same hba)) (hk'.same (hS'.same hba))).mono ?_
    rintro e w1 ⟨rfl, n, rfl⟩
    cases h4 : eqStrs t.keys t'.keys with
    | false =>
      go_wp2_with fail
      go_ret
      rw [hfin.out, h4]
      exact ⟨rfl, hba.trans (below_drewN _ _ _)⟩
    | true =>
    go_wp2_with fail
    have hbb := hba.trans (below_drewN w.heap.size _ n)
    refine (eqValS_any d ih S S' t.list t'.list _ _ _ (hl.same (hS.same hbb)) (hl'.same (hS'.same hbb)) (hS.later hbb.size) (hS'.later hbb.size)).mono ?_
    rintro e w2 ⟨rfl, hb2⟩
    have hb3 := below_trans hbb hb2
    clear hb2 hbb hba
    cases h5 : eqL (eqT d) t.list t'.list with
    | false =>
      go_wp2_with fail
      go_ret
      rw [hfin.out, h4, h5]
      exact ⟨rfl, hb3⟩
    | true =>
      go_wp2_with fail
      go_ret
      rw [hfin.out, h4, h5]
      exact ⟨rfl, hb3⟩
end Go.Proofs.YtoangpfmjohhmaaGreatDoor

/- many: how many parts one of the program's own trees has. -/
namespace Go.Proofs.YtoangpfmjohhmaaGreatDoor
open Go.RowKit Go.Deep

/-- How many parts there are, as the program's own trees have them. -/
def cntT : (d : Nat) → Tr d → Nat
  | 0, _ => 0
  | d + 1, t => 1 + (if Nd.kind t = 5 ∨ Nd.kind t = 6 then ((Nd.list t).map (cntT d)).sum else 0)

/-- What many is asked to give. -/
def ManyQ (n : Nat) (w : World) (e : Ending) (w' : World) : Prop := e = .returned (.int .i64 n) ∧ Below w.heap.size w w'

end Go.Proofs.YtoangpfmjohhmaaGreatDoor

/- many: maps, and all of them together. -/
namespace Go.Proofs.YtoangpfmjohhmaaGreatDoor
open Go.RowKit Go.Deep

theorem seen_perm {n : Nat} {seen : List Nat} (hd : seen.Nodup) (hl : ∀ i ∈ seen, i < n) : (List.range n).Perm (seen ++ (List.range n).filter (fun i => !seen.contains i)) := by
  rw [List.perm_ext_iff_of_nodup List.nodup_range]
  · intro a
    simp only [List.mem_range, List.mem_append, List.mem_filter, Bool.not_eq_true', List.contains_eq_mem, decide_eq_false_iff_not]
    constructor
    · intro h
      by_cases hm : a ∈ seen
      · exact Or.inl hm
      · exact Or.inr ⟨h, hm⟩
    · rintro (h | h)
      · exact hl a h
      · exact h.1
  · rw [List.nodup_append]
    refine ⟨hd, List.Pairwise.filter _ List.nodup_range, fun a ha b hb e => ?_⟩
    subst e
    simp only [List.mem_filter, List.contains_eq_mem, Bool.not_eq_true', decide_eq_false_iff_not] at hb
    exact hb.2 ha
theorem seen_sum_le {n : Nat} {seen : List Nat} (f : Nat → Nat) (hd : seen.Nodup) (hl : ∀ i ∈ seen, i < n) : (seen.map f).sum ≤ ((List.range n).map f).sum := by
  have := ((seen_perm hd hl).map f).sum_nat
  rw [List.map_append, List.sum_append] at this
  omega
theorem seen_sum_all {n : Nat} {seen : List Nat} (f : Nat → Nat) (hd : seen.Nodup) (hl : ∀ i ∈ seen, i < n) (ha : ∀ i, i < n → i ∈ seen) : (seen.map f).sum = ((List.range n).map f).sum := by
  have hp : seen.Perm (List.range n) := by
    rw [List.perm_ext_iff_of_nodup hd List.nodup_range]
    intro a
    simp only [List.mem_range]
    exact ⟨hl a, ha a⟩
  exact (hp.map f).sum_nat
theorem seen_len {n : Nat} {seen : List Nat} (hd : seen.Nodup) (hl : ∀ i ∈ seen, i < n) : seen.length ≤ n := by
  have := List.Nodup.length_le_of_subset hd (l₂ := List.range n) (fun i hi => List.mem_range.2 (hl i hi))
  simpa using this
/-- A number for the thing at a place. -/
def atN {α : Type} (f : α → Nat) (xs : List α) (i : Nat) : Nat := match xs[i]? with | some x => f x | none => 0
theorem atN_sum {α : Type} (f : α → Nat) (xs : List α) : ((List.range xs.length).map (atN f xs)).sum = (xs.map f).sum := by
  congr 1
  apply List.ext_getElem
  · simp
  · intro i h1 h2
    simp only [List.length_map, List.length_range] at h1
    simp [atN, h1]
theorem OneOff.below {r B : Nat} {a w w' : World} (h : Below B a w) (k : OneOff r w w') (hr : B ≤ r) : Below B a w' :=
  h.trans ⟨k.os, k.tape, k.output, by rw [k.size]; exact Nat.le_refl _, fun i hi => k.block i (by omega)⟩

theorem cntT_pos : ∀ (d : Nat) (t : Tr d), 1 ≤ cntT d t
  | 0, t => Empty.elim t
  | d + 1, t => by rw [cntT]; omega
theorem len_le_cnt {d : Nat} : ∀ xs : List (Tr d), xs.length ≤ (xs.map (cntT d)).sum
  | [] => Nat.le_refl _
  | x :: r => by
    have := cntT_pos d x
    have := len_le_cnt r
    simp only [List.length_cons, List.map_cons, List.sum_cons]
    omega

end Go.Proofs.YtoangpfmjohhmaaGreatDoor

/- FnExactValMany: for every tree that lies in memory the law answers true. -/
namespace Go.Proofs.YtoangpfmjohhmaaGreatDoor
open Go.RowKit Go.Deep

theorem cntT_le : ∀ (d : Nat) (t : Tr d), cntT d t ≤ nodes d t
  | 0, _ => Nat.le_refl _
  | d + 1, t => by
    rw [cntT, nodes]
    split
    · have := sum_map_le (cntT d) (nodes d) (cntT_le d) (Nd.list t)
      omega
    · omega
theorem sum_map_congr {α : Type} {f g : α → Nat} : ∀ {xs : List α}, (∀ x ∈ xs, f x = g x) → (xs.map f).sum = (xs.map g).sum
  | [], _ => rfl
  | x :: r, h => by
    simp only [List.map_cons, List.sum_cons]
    rw [h x (by simp), sum_map_congr (fun y hy => h y (by simp [hy]))]
/-- Of a tree of right form the two counts are one. -/
theorem cntT_many : ∀ (d : Nat) (t : Tr d) (deep : Int), formT d t deep = true → cntT d t = manyT d t deep
  | 0, _, _, h => by simp [formT] at h
  | d + 1, t, deep, h => by
    obtain ⟨kind, num, str, keys, list⟩ := t
    have hc : cntT (d + 1) (Nd.mk kind num str keys list) = 1 + (if kind = 5 ∨ kind = 6 then (list.map (cntT d)).sum else 0) := rfl
    have hm : manyT (d + 1) (Nd.mk kind num str keys list) deep = 1 + (if 0 < deep then (list.map (fun x => manyT d x (deep - 1))).sum else 0) := rfl
    cases hb : headBad kind num str keys.length list.length deep with
    | true => rw [formT_bad hb] at h; cases h
    | false =>
      rw [formT_good hb] at h
      have hg := head_good hb
      rw [hc, hm, if_pos (show 0 < deep by omega)]
      by_cases h56 : kind = 5 ∨ kind = 6
      · rw [if_pos h56]
        have hall : list.all (fun x => formT d x (deep - 1)) = true := by
          rcases h56 with rfl | rfl
          · simpa using h
          · simp at h
            simpa using h.2
        congr 1
        refine sum_map_congr (fun x hx => ?_)
        exact cntT_many d x (deep - 1) (List.all_eq_true.1 hall x hx)
      · rw [if_neg h56]
        have : list.length = 0 := by
          by_cases h5 : kind < 5
          · exact hg.2.2.2.2 h5
          · rw [if_neg (by omega), if_neg (by omega), if_neg (by omega), if_neg (by omega), if_neg (by omega)] at h
            cases h
        obtain rfl : list = [] := List.eq_nil_of_length_eq_zero this
        simp

/-- How many parts a tree has that is ok, 0 of one that is not. -/
def manyOk (d : Nat) (t : Tr d) : Nat := if okT d t = true then manyT d t 6 else 0

end Go.Proofs.YtoangpfmjohhmaaGreatDoor

/- FnValMany: how many parts there are. -/
namespace Go.Proofs.YtoangpfmjohhmaaGreatDoor
open Go.RowKit Go.Deep

theorem okT_split {d : Nat} {t : Tr d} : okT d t = true ↔ formT d t 6 = true ∧ manyT d t 6 ≤ 60 := by
  unfold okT
  rw [Bool.and_eq_true, decide_eq_true_eq]
theorem many_pos {d : Nat} {t : Tr (d + 1)} (h : okT (d + 1) t = true) : 1 ≤ manyOk (d + 1) t ∧ manyOk (d + 1) t ≤ 60 := by
  have h2 := (okT_split.1 h).2
  unfold manyOk
  rw [if_pos h]
  exact ⟨by rw [manyT]; omega, h2⟩
theorem many_no {d : Nat} {t : Tr d} (h : okT d t = false) : manyOk d t = 0 := by
  unfold manyOk
  rw [if_neg (by rw [h]; simp)]
theorem form_parts {d : Nat} {t : Tr (d + 1)} (h : formT (d + 1) t 6 = true) : ∀ x ∈ Nd.list t, formT d x 5 = true := by
  obtain ⟨kind, num, str, keys, list⟩ := t
  intro x hx
  have hx : x ∈ list := hx
  cases hb : headBad kind num str keys.length list.length 6 with
  | true => rw [formT_bad hb] at h; cases h
  | false =>
    rw [formT_good hb] at h
    have hg := head_good hb
    by_cases h56 : kind = 5 ∨ kind = 6
    · have hall : list.all (fun x => formT d x 5) = true := by
        rcases h56 with rfl | rfl
        · simpa using h
        · simp at h
          simpa using h.2
      exact List.all_eq_true.1 hall x hx
    · have : list.length = 0 := by
        by_cases h5 : kind < 5
        · exact hg.2.2.2.2 h5
        · rw [if_neg (by omega), if_neg (by omega), if_neg (by omega), if_neg (by omega), if_neg (by omega)] at h
          cases h
      rw [List.eq_nil_of_length_eq_zero this] at hx
      cases hx
theorem many_part {d : Nat} {t : Tr (d + 1)} {x : Tr d} (h : okT (d + 1) t = true) (hx : x ∈ Nd.list t) : manyOk d x = manyT d x 5 := by
  have h1 := form_parts (okT_split.1 h).1 x hx
  unfold manyOk
  rw [if_pos (okT_part h hx)]
  exact (formT_up d x 5 h1).2
theorem many_parts {d : Nat} {t : Tr (d + 1)} (h : okT (d + 1) t = true) : manyOk (d + 1) t = 1 + ((Nd.list t).map (manyOk d)).sum := by
  have e : (Nd.list t).map (manyOk d) = (Nd.list t).map (fun x => manyT d x 5) := List.map_congr_left (fun x hx => many_part h hx)
  rw [e]
  unfold manyOk
  rw [if_pos h]
  rfl
end Go.Proofs.YtoangpfmjohhmaaGreatDoor
