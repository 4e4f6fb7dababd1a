/- markStringS, markValS, markVal: marks are written into a tree that owns its memory. -/
import Derived.Test.YtbcafaomfaainaaGreatDoorWMarkT
namespace Go.Proofs.YtbcafaomfaainaaGreatDoor
open Go.RowKit Go.Deep

set_option maxRecDepth 100000 in
set_option maxHeartbeats 400000 in
theorem markStringS_any (S : Nat → Prop) (ss : List ByteArray) (v : Value) (k : Nat) (w : World) (hv : StrsOwn S w v ss) (h0 : 1 ≤ k) (h1 : k + ss.length ≤ 1099511627776) :
    Calls Tryz.prog 22 #[v, .int .i64 (k : Int)] w fun e w' => e = .returned (.int .i64 ((k + ss.length : Nat) : Int)) ∧ StrsOwn S w' v (markStrs ss k) ∧ Turn S w w' := by
  obtain ⟨hlen, hsz, a, cap, rfl, h3⟩ := hv
  rcases h3 with rfl | ⟨b, n, f, hB, rfl, hln, hrow, hc⟩
  · go_enter Tryz.func22, Tryz.ntmps22
    go_wp2_with fail
    go_loopw [1, 5] (fun kk i wr => kk = .int .i64 (k : Int) ∧ i = .int .i64 0 ∧ wr = w) (fun _ _ _ => 0)
    case atStart => exact ⟨rfl, rfl, rfl⟩
    case round =>
      obtain ⟨rfl, rfl, rfl⟩ := hrel
      go_wp2_with fail
      go_ret
      exact ⟨rfl, ⟨hlen, hsz, a, cap, rfl, Or.inl rfl⟩, Turn.refl _ _⟩
  · have HC : Hid (∀ i s, ss[i]? = some s → f i = .string s) := hc
    clear hc
    go_enter Tryz.func22, Tryz.ntmps22
    go_wp2_with fail
    go_loopw [1, 5] (fun kk i wr => ∃ (m : Nat) (g : Nat → Value), m ≤ ss.length ∧ i = .int .i64 (m : Int) ∧ kk = .int .i64 ((k + m : Nat) : Int) ∧ wr.rowIs b 9 n g ∧ Hid (∀ j s, j < m → (markStrs ss k)[j]? = some s → g j = .string s) ∧ Turn S w wr)
      (fun _ i _ => ss.length - (intOf i).toNat)
    case atStart => exact ⟨0, f, Nat.zero_le _, rfl, rfl, hrow, fun j s hj => by omega, Turn.refl _ _⟩
    case round =>
      clear hrow
      obtain ⟨m, g, hm, rfl, rfl, hrow, hg, htu⟩ := hrel
      by_cases hml : m < ss.length
      · go_wp2_with fail
        refine (markText_any (k + m) wr (by omega) (by omega)).mono ?_
        rintro e w1 ⟨rfl, hb1⟩
        have hr1 := hrow.of_block (hb1.block b hrow.lt)
        have hc1 := hr1.cell (i := m) (by omega)
        have hf1 := hr1.frozen m
        have HR : Hid ((w1.setCell ⟨b, m, none⟩ (.string (mt (k + m)))).rowIs b 9 n (fun j => if j = m then .string (mt (k + m)) else g j) ∧ Turn S w (w1.setCell ⟨b, m, none⟩ (.string (mt (k + m))))) :=
          ⟨hr1.set m _, (htu.trans (Turn.of_below hb1)).set hB _⟩
        clear hr1 hrow htu hb1
        go_wp2_with fail
        go_roundw
        case rel =>
          refine ⟨m + 1, _, by omega, by go_num, by go_num, HR.out.1, fun j s hj hs => ?_, HR.out.2⟩
          by_cases e : j = m
          · subst e
            rw [markStrs_get ss k j s hs]
            simp
          · simp only [if_neg e]
            exact hg.out j s (by omega) hs
        case measure => simp [intOf]; omega
      · obtain rfl : m = ss.length := by omega
        go_wp2_with fail
        go_ret
        refine ⟨rfl, ⟨by rw [markStrs_length]; exact hlen, fun s hs => ?_, some ⟨b, 0, none⟩, cap, by rw [markStrs_length], Or.inr ⟨b, n, g, hB, rfl, by rw [markStrs_length]; exact hln, hrow, fun j s hs => ?_⟩⟩, htu⟩
        · obtain ⟨j, hj⟩ := List.getElem?_of_mem hs
          have hjl := (List.getElem?_eq_some_iff.1 hj).1
          rw [markStrs_length] at hjl
          rw [markStrs_get ss k j s hj]
          have := mt_size (k + j)
          omega
        · have hjl := (List.getElem?_eq_some_iff.1 hs).1
          rw [markStrs_length] at hjl
          exact hg.out j s hjl hs

/-- What markValS does with trees of this depth. -/
def MarkVals (d : Nat) : Prop := ∀ (S : Nat → Prop) (xs : List (Tr d)) (v : Value) (k : Nat) (w : World), RowOwn w (fun P x u => ValOwn w d P x u) S v xs → Within S w → 1 ≤ k → k + (xs.map (wtT d)).sum ≤ 1099511627776 →
    Calls Tryz.prog 23 #[v, .int .i64 (k : Int)] w fun e w' => e = .returned (.int .i64 (((markL (markT d) xs k).2 : Nat) : Int)) ∧ RowOwn w' (fun P x u => ValOwn w' d P x u) S v (markL (markT d) xs k).1 ∧ Turn S w w'

set_option maxRecDepth 100000 in
set_option maxHeartbeats 400000 in
theorem markValS_nil (d : Nat) (S : Nat → Prop) (a : Option Addr) (cap k : Nat) (w : World) :
    Calls Tryz.prog 23 #[.slice a 0 cap, .int .i64 (k : Int)] w fun e w' => e = .returned (.int .i64 (((markL (markT d) [] k).2 : Nat) : Int)) ∧ RowOwn w' (fun P x u => ValOwn w' d P x u) S (.slice a 0 cap) (markL (markT d) [] k).1 ∧ Turn S w w' := by
  go_enter Tryz.func23, Tryz.ntmps23
  go_wp2_with fail
  go_loopw [1, 5] (fun kk i wr => kk = .int .i64 (k : Int) ∧ i = .int .i64 0 ∧ wr = w) (fun _ _ _ => 0)
  case atStart => exact ⟨rfl, rfl, rfl⟩
  case round =>
    obtain ⟨rfl, rfl, rfl⟩ := hrel
    go_wp2_with fail
    go_ret
    exact ⟨rfl, ⟨by simp [markL], a, cap, rfl, Or.inl rfl⟩, Turn.refl _ _⟩

/-- The row as it is when the first m things have their marks. -/
structure MarkTo {d : Nat} (b n : Nat) (P : Nat → Nat → Prop) (xs : List (Tr d)) (k : Nat) (w : World) (m : Nat) (g : Nat → Value) : Prop where
  row : w.rowIs b 29 n g
  done : ∀ j x, j < m → xs[j]? = some x → ValOwn w d (P j) (markT d x (markTo (markT d) xs k j)).1 (.agg #[g (j * 5), g (j * 5 + 1), g (j * 5 + 2), g (j * 5 + 3), g (j * 5 + 4)])
  rest : ∀ j x, m ≤ j → xs[j]? = some x → ValOwn w d (P j) x (.agg #[g (j * 5), g (j * 5 + 1), g (j * 5 + 2), g (j * 5 + 3), g (j * 5 + 4)])

set_option maxRecDepth 100000 in
set_option maxHeartbeats 1000000 in
theorem markValS_any : ∀ (d : Nat), MarkVals d
  | 0 => by
    intro S xs v k w hv hS h0 h1
    obtain ⟨hlen, a, cap, rfl, h3⟩ := hv
    rcases h3 with rfl | ⟨b, n, f, P, _, _, _, _, _, _, hc⟩
    · exact markValS_nil 0 S a cap k w
    · cases xs with
      | nil => exact markValS_nil 0 S a cap k w
      | cons x r => exact (hc 0 x rfl).elim
  | d + 1 => by
    intro S xs v k w hv hS h0 h1
    have ih := markValS_any d
    obtain ⟨hlen, a, cap, rfl, h3⟩ := hv
    rcases h3 with rfl | ⟨b, n, f, P, hB, rfl, hln, hrow, hP, hdis, hc⟩
    · exact markValS_nil (d + 1) S a cap k w
    have H0 : Hid (MarkTo b n P xs k w 0 f) := ⟨hrow, fun j x hj => by omega, fun j x _ hx => hc j x hx⟩
    clear hrow hc
    go_enter Tryz.func23, Tryz.ntmps23
    go_wp2_with fail
    go_loopw [1, 5] (fun kk i wr => ∃ (m : Nat) (g : Nat → Value), m ≤ xs.length ∧ i = .int .i64 (m : Int) ∧ kk = .int .i64 ((markTo (markT (d + 1)) xs k m : Nat) : Int) ∧ Hid (MarkTo b n P xs k wr m g) ∧ Turn S w wr)
      (fun _ i _ => xs.length - (intOf i).toNat)
    case atStart => exact ⟨0, f, Nat.zero_le _, rfl, by rw [markTo_zero], H0, Turn.refl _ _⟩
    case round =>
      clear H0
      obtain ⟨m, g, hm, rfl, rfl, hmk, htu⟩ := hrel
      by_cases hml : m < xs.length
      · obtain ⟨x, hx⟩ : ∃ x, xs[m]? = some x := ⟨xs[m], List.getElem?_eq_getElem hml⟩
        obtain ⟨vk, vl, Sk, Sl, hag, i1, i2, i3, hk, hl, s1, s2, s3⟩ := hmk.out.rest m x (Nat.le_refl _) hx
        have hkl := markTo_le xs k m
        have hks := markTo_le xs k (m + 1)
        have hst := markTo_step (markT (d + 1)) xs k m x hx
        rw [markT_to] at hst
        have hw := hst.symm
        rw [wtT] at hw
        have hrow := hmk.out.row
        have c0 := hrow.cell (i := m * 5) (by omega)
        have c1 := hrow.cell (i := m * 5 + 1) (by omega)
        have c2 := hrow.cell (i := m * 5 + 2) (by omega)
        have c3 := hrow.cell (i := m * 5 + 3) (by omega)
        have c4 := hrow.cell (i := m * 5 + 4) (by omega)
        have z0 := hrow.frozen (m * 5)
        have z1 := hrow.frozen (m * 5 + 1)
        have z2 := hrow.frozen (m * 5 + 2)
        generalize hK : markTo (markT (d + 1)) xs k m = K at *
        have HW := hide hw
        have HS := hide hst
        have HK := hide hK
        clear hw hst hK
        have e3 : g (m * 5 + 3) = vk ∧ g (m * 5 + 4) = vl := by
          simp at hag
          exact ⟨hag.2.2.2.1, hag.2.2.2.2⟩
        rw [e3.1] at c3
        rw [e3.2] at c4
        obtain ⟨ak, ck, rfl, hkn⟩ := hk.open'
        obtain ⟨al, cl, rfl, hln2⟩ := hl.open'
        have E3 : Hid _ := e3
        have hwt := HS.out
        rw [wtT] at hwt
        have hb3 : K + 3 + x.keys.length + (x.list.map (wtT d)).sum ≤ 1099511627776 := by omega
        have hPw : ∀ j c, P j c → c < wr.heap.size ∧ c ≠ b := fun j c hc => ⟨Nat.lt_of_lt_of_le (hS c (hP j c hc).1) htu.size, (hP j c hc).2⟩
        clear hwt e3 hag hks hkl
        go_wp2_with fail
        rw [show ((K : Int) + 1 + 1) = ((K + 2 : Nat) : Int) by omega]
        refine (markText_any (K + 2) _ (by omega) (by omega)).mono ?_
        rintro e w1 ⟨rfl, hb1⟩
        have hr2 := (hrow.set (m * 5) (.int .i64 (K : Int))).set (m * 5 + 1) (.int .i64 ((K : Int) + 1))
        have hr1 := hr2.of_block (hb1.block b hr2.lt)
        have hr3 := hr1.set (m * 5 + 2) (.string (mt (K + 2)))
        have d2 := hr1.cell (i := m * 5 + 2) (by omega)
        have d3 := hr1.cell (i := m * 5 + 3) (by omega)
        have d4 := hr1.cell (i := m * 5 + 4) (by omega)
        have y2 := hr1.frozen (m * 5 + 2)
        simp only [show ¬ m * 5 + 3 = m * 5 + 1 by omega, show ¬ m * 5 + 3 = m * 5 by omega, show ¬ m * 5 + 4 = m * 5 + 1 by omega, show ¬ m * 5 + 4 = m * 5 by omega, if_false, E3.out.1, E3.out.2] at d3 d4
        have hT3 : Turn S w (w1.setCell ⟨b, m * 5 + 2, none⟩ (.string (mt (K + 2)))) := ((((htu.set (a := ⟨b, m * 5, none⟩) hB _).set (a := ⟨b, m * 5 + 1, none⟩) hB _).trans (Turn.of_below hb1))).set (a := ⟨b, m * 5 + 2, none⟩) hB _
        have hs3 : ∀ R : Nat → Prop, (∀ c, R c → c < wr.heap.size ∧ c ≠ b) → Same R wr (w1.setCell ⟨b, m * 5 + 2, none⟩ (.string (mt (K + 2)))) := fun R hR c hc => by
          have h := hR c hc
          rw [Below.heap_setCell _ _ _ _ (by exact h.2), hb1.block c (by rw [size_setCell1, size_setCell1]; exact h.1), Below.heap_setCell _ _ _ _ (by exact h.2), Below.heap_setCell _ _ _ _ (by exact h.2)]
        have hsz1 : wr.heap.size ≤ w1.heap.size := by
          have := hb1.size
          rw [size_setCell1, size_setCell1] at this
          exact this
        have HR3 := hide hr3
        have HT3 := hide hT3
        have HS3 := hide hs3
        have hk3 := hk.moved (hs3 Sk (fun c hc => hPw m c (s1 c hc))) (fun _ h => h)
        clear hr2 hr1 hr3 hT3 hs3 hb1 c0 c1 c2 c3 c4 z0 z1 z2 hrow
        go_wp2_with fail
        rw [show ((K : Int) + 2 + 1) = ((K + 3 : Nat) : Int) by omega]
        refine (markStringS_any Sk x.keys _ (K + 3) _ hk3 (by omega) (by omega)).mono ?_
        rintro e w4 ⟨rfl, hk4, ht4⟩
        have hbk : ¬ Sk b := fun h => (hPw m b (s1 b h)).2 rfl
        have hbl : ¬ Sl b := fun h => (hPw m b (s2 b h)).2 rfl
        have hr4 := HR3.out.of_block (ht4.block b HR3.out.lt hbk)
        have HT4 : Hid (Turn S w w4) := HT3.out.trans (ht4.mono (fun c hc => (hP m c (s1 c hc)).1))
        have hsz3 : wr.heap.size ≤ (w1.setCell ⟨b, m * 5 + 2, none⟩ (.string (mt (K + 2)))).heap.size := by
          rw [size_setCell1]
          have := hsz1
          omega
        have hs4 : ∀ R : Nat → Prop, (∀ c, R c → c < wr.heap.size ∧ c ≠ b) → (∀ c, R c → ¬ Sk c) → Same R wr w4 := fun R hR hn c hc => by
          rw [ht4.block c (Nat.lt_of_lt_of_le (hR c hc).1 hsz3) (hn c hc)]
          exact HS3.out R hR c hc
        have HS4 := hide hs4
        have hl4 : RowOwn w4 (fun P x u => ValOwn w4 d P x u) Sl (.slice al x.list.length cl) x.list := hl.same (hs4 Sl (fun c hc => hPw m c (s2 c hc)) (fun c hc hk => s3 c hk hc))
        have hW4 : Within Sl w4 := fun c hc => Nat.lt_of_lt_of_le (hPw m c (s2 c hc)).1 (Nat.le_trans hsz3 ht4.size)
        have hsz4 : wr.heap.size ≤ w4.heap.size := Nat.le_trans hsz3 ht4.size
        have HR4 := hide hr4
        have d4' := hr4.cell (i := m * 5 + 4) (by omega)
        simp only [show ¬ m * 5 + 4 = m * 5 + 2 by omega, show ¬ m * 5 + 4 = m * 5 + 1 by omega, show ¬ m * 5 + 4 = m * 5 by omega, if_false, E3.out.2] at d4'
        have HK4 := hide hk4
        clear hk4 ht4 hs4 HS3 HT3 HR3 hr4 hk3 d2 d3 d4 y2 hk hl hsz1 hsz3
        go_wp2_with fail
        rw [show ((K : Int) + 3 + (x.keys.length : Int)) = ((K + 3 + x.keys.length : Nat) : Int) by omega]
        refine (ih Sl x.list _ (K + 3 + x.keys.length) w4 hl4 hW4 (by omega) (by omega)).mono ?_
        rintro e w5 ⟨rfl, hl5, ht5⟩
        have HF : Hid (MarkTo b n P xs k w5 (m + 1) (put5 g (m * 5) (.int .i64 (K : Int)) (.int .i64 ((K : Int) + 1)) (.string (mt (K + 2))) (.slice ak x.keys.length ck) (.slice al x.list.length cl)) ∧ Turn S w w5) := by
          have hs5 : ∀ j, j ≠ m → Same (P j) wr w5 := fun j hj c hc => by
            have hn : ∀ c, P j c → ¬ P m c := fun c h1 h2 => hj (hdis j m c h1 h2)
            rw [ht5.block c (Nat.lt_of_lt_of_le (hPw j c hc).1 hsz4) (fun h => hn c hc (s2 c h))]
            exact HS4.out (P j) (fun c hc => hPw j c hc) (fun c hc hk => hn c hc (s1 c hk)) c hc
          have hoff : ∀ j i, j ≠ m → i < 5 → put5 g (m * 5) (.int .i64 (K : Int)) (.int .i64 ((K : Int) + 1)) (.string (mt (K + 2))) (.slice ak x.keys.length ck) (.slice al x.list.length cl) (j * 5 + i) = g (j * 5 + i) := fun j i hj hi => put5_off _ _ _ _ _ _ _ _ (by omega)
          refine ⟨⟨?_, fun j y hj hy => ?_, fun j y hj hy => ?_⟩, HT4.out.trans (ht5.mono (fun c hc => (hP m c (s2 c hc)).1))⟩
          · refine (HR4.out.of_block (ht5.block b HR4.out.lt hbl)).congr (fun j _ => ?_)
            unfold put5
            by_cases q0 : j = m * 5
            · simp [q0]
            by_cases q1 : j = m * 5 + 1
            · simp [q1]
            by_cases q2 : j = m * 5 + 2
            · simp [q2]
            by_cases q3 : j = m * 5 + 3
            · simp [q3, E3.out.1]
            by_cases q4 : j = m * 5 + 4
            · simp [q4, E3.out.2]
            simp [q0, q1, q2, q3, q4]
          · by_cases e : j = m
            · subst e
              rw [hx] at hy
              cases hy
              obtain ⟨p0, p1, p2, p3, p4⟩ := put5_at g (j * 5) (.int .i64 (K : Int)) (.int .i64 ((K : Int) + 1)) (.string (mt (K + 2))) (.slice ak x.keys.length ck) (.slice al x.list.length cl)
              rw [p0, p1, p2, p3, p4, HK.out]
              have hms := mt_size (K + 2)
              refine ⟨_, _, Sk, Sl, rfl, ⟨by show _ ≤ (K : Int); omega, by show (K : Int) ≤ _; omega⟩, ⟨by show _ ≤ (K : Int) + 1; omega, by show (K : Int) + 1 ≤ _; omega⟩, by show (mt (K + 2)).size < _; omega, ?_, hl5, s1, s2, s3⟩
              exact HK4.out.moved (fun c hc => ht5.block c (Nat.lt_of_lt_of_le (hPw j c (s1 c hc)).1 hsz4) (s3 c hc)) (fun _ h => h)
            · have := hmk.out.done j y (by omega) hy
              rw [hoff j 1 e (by omega), hoff j 2 e (by omega), hoff j 3 e (by omega), hoff j 4 e (by omega), show put5 g (m * 5) _ _ _ _ _ (j * 5) = g (j * 5) from hoff j 0 e (by omega)]
              exact this.same (hs5 j e)
          · have e : j ≠ m := by omega
            have := hmk.out.rest j y (by omega) hy
            rw [hoff j 1 e (by omega), hoff j 2 e (by omega), hoff j 3 e (by omega), hoff j 4 e (by omega), show put5 g (m * 5) _ _ _ _ _ (j * 5) = g (j * 5) from hoff j 0 e (by omega)]
            exact this.same (hs5 j e)
        have HM : Hid ((markL (markT d) x.list (K + 3 + x.keys.length)).2 = markTo (markT (d + 1)) xs k (m + 1)) := by
          show _ = _
          rw [markL_to (markT_to d), ← HW.out]
          omega
        rw [HM.out]
        clear hl5 ht5 hmk HK4 HS4 HT4 HR4 d4' hl4 hW4
        go_wp2_with fail
        go_roundw
        case rel => exact ⟨m + 1, _, by omega, by go_num, rfl, HF.out.1, HF.out.2⟩
        case measure => simp [intOf]; omega
      · obtain rfl : m = xs.length := by omega
        have HM : Hid (markTo (markT (d + 1)) xs k xs.length = (markL (markT (d + 1)) xs k).2) := markTo_all _ _ _
        rw [HM.out]
        go_wp2_with fail
        go_ret
        refine ⟨rfl, ⟨by rw [markL_length]; exact hlen, some ⟨b, 0, none⟩, cap, by rw [markL_length], Or.inr ⟨b, n, g, P, hB, rfl, by rw [markL_length]; exact hln, hmk.out.row, hP, hdis, fun j y hy => ?_⟩⟩, htu⟩
        have hj := (List.getElem?_eq_some_iff.1 hy).1
        rw [markL_length] at hj
        have hg := markL_get (markT (d + 1)) xs k j xs[j] (List.getElem?_eq_getElem hj)
        rw [hy] at hg
        cases hg
        exact hmk.out.done j _ hj (List.getElem?_eq_getElem hj)

set_option maxRecDepth 100000 in
set_option maxHeartbeats 1000000 in
theorem markVal_any (d : Nat) (S : Nat → Prop) (t : Tr (d + 1)) (v : Value) (k : Nat) (w : World) (hv : ValOwn w (d + 1) S t v) (hS : Within S w) (h0 : 1 ≤ k) (h1 : k + (wtT (d + 1) t) ≤ 1099511627776) :
    Calls Tryz.prog 9 #[v, .int .i64 (k : Int)] w fun e w' => e = .returned (.int .i64 (((markTop d t k).2 : Nat) : Int)) ∧ ValOwn w' (d + 1) S (markTop d t k).1 v ∧ Turn S w w' := by
  obtain ⟨vk, vl, Sk, Sl, rfl, i1, i2, i3, hk, hl, s1, s2, s3⟩ := hv
  obtain ⟨ak, ck, rfl, hkl⟩ := hk.open'
  obtain ⟨al, cl, rfl, hll⟩ := hl.open'
  rw [wtT] at h1
  have hA := below_alloc1 w (.cells #[.int .i64 t.kind, .int .i64 t.num, .string t.str, .slice ak t.keys.length ck, .slice al t.list.length cl] 29)
  have k0 := Blk5.new w 29 (.int .i64 t.kind) (.int .i64 t.num) (.string t.str) (.slice ak t.keys.length ck) (.slice al t.list.length cl)
  go_enter Tryz.func9, Tryz.ntmps9
  go_wp2_with fail
  refine (markStringS_any Sk t.keys _ k _ (hk.moved (fun b hb => hA.block b (hS b (s1 b hb))) (fun _ h => h)) h0 (by omega)).mono ?_
  rintro e w1 ⟨rfl, hk1, ht1⟩
  replace k0 := k0.of_block (ht1.block _ k0.lt (fun h => by have := hS _ (s1 _ h); omega))
  obtain ⟨x0, x1, x2, x3, x4⟩ := k0.cell
  have hT1 : Turn S w w1 := (Turn.of_below hA).trans (ht1.mono s1)
  have hl1 : RowOwn w1 (fun P x u => ValOwn w1 d P x u) Sl (.slice al t.list.length cl) t.list := hl.same (fun b hb => by
    rw [ht1.block b (Nat.lt_of_lt_of_le (hS b (s2 b hb)) hA.size) (fun h => s3 b h hb), hA.block b (hS b (s2 b hb))])
  have hW1 : Within Sl w1 := fun b hb => Nat.lt_of_lt_of_le (hS b (s2 b hb)) hT1.size
  have HK1 := hide hk1
  have HT1 := hide hT1
  have hsz := hT1.size
  clear hk1 ht1 hT1 k0 hA hk hl
  go_wp2_with fail
  rw [show ((k : Int) + (t.keys.length : Int)) = ((k + t.keys.length : Nat) : Int) by omega]
  refine (markValS_any d Sl t.list _ (k + t.keys.length) w1 hl1 hW1 (by omega) (by omega)).mono ?_
  rintro e w2 ⟨rfl, hl2, ht2⟩
  have HF : Hid (ValOwn w2 (d + 1) S (markTop d t k).1 (.agg #[.int .i64 t.kind, .int .i64 t.num, .string t.str, .slice ak t.keys.length ck, .slice al t.list.length cl]) ∧ Turn S w w2) :=
    ⟨⟨_, _, Sk, Sl, rfl, i1, i2, i3, HK1.out.moved (fun b hb => ht2.block b (Nat.lt_of_lt_of_le (hS b (s1 b hb)) hsz) (s3 b hb)) (fun _ h => h), hl2, s1, s2, s3⟩, HT1.out.trans (ht2.mono s2)⟩
  clear hl2 ht2 HK1 HT1 x0 x1 x2 x3 x4 hl1 hW1
  go_wp2_with fail
  go_ret
  exact ⟨rfl, HF.out.1, HF.out.2⟩
end Go.Proofs.YtbcafaomfaainaaGreatDoor
