/- Texts of the proof, put together by program: WMark, WHeld, WCopyP. -/
import Derived.Test.YtilgbnnjecpneaaGreatDoorR15
import Derived.Test.YtilgbnnjecpneaaGreatDoorR6
import Derived.Test.YtilgbnnjecpneaaGreatDoorR12
import Derived.Deep.RegionHeld3
import Derived.Deep.RegionLaw
import Derived.Deep.DeepCutAuto
import Derived.Deep.AppendLies
/- markStringS, markValS, markVal: marks are written into a tree that owns its memory. -/
namespace Go.Proofs.YtilgbnnjecpneaaGreatDoor
open Go.RowKit Go.Deep

set_option maxRecDepth 100000 in
set_option maxHeartbeats 400000 in
theorem markStringS_any (S : Nat → Prop) (ss : List ByteArray) (v : Value) (k : Nat) (w : World) (hv : StrsOwn S w v ss) (h0 : 1 ≤ k) (h1 : k + ss.length ≤ 1099511627776) :
    Calls Tryz.prog 42 #[v, .int .i64 (k : Int)] w fun e w' => e = .returned (.int .i64 ((k + ss.length : Nat) : Int)) ∧ StrsOwn S w' v (markStrs ss k) ∧ Turn S w w' := by
  obtain ⟨hlen, hsz, a, cap, rfl, h3⟩ := hv
  rcases h3 with rfl | ⟨b, n, f, hB, rfl, hln, hrow, hc⟩
  · go_enter Tryz.func42, Tryz.ntmps42
    go_wp2_with fail
    go_loopw [1, 5] (fun kk i wr => kk = .int .i64 (k : Int) ∧ i = .int .i64 0 ∧ wr = w) (fun _ _ _ => 0)
    case atStart => exact ⟨rfl, rfl, rfl⟩
    case round =>
      obtain ⟨rfl, rfl, rfl⟩ := hrel
      go_wp2_with fail
      go_ret
      exact ⟨rfl, ⟨hlen, hsz, a, cap, rfl, Or.inl rfl⟩, Turn.refl _ _⟩
  · have HC : Hid (∀ i s, ss[i]? = some s → f i = .string s) := hc
    clear hc
    go_enter Tryz.func42, Tryz.ntmps42
    go_wp2_with fail
    go_loopw [1, 5] (fun kk i wr => ∃ (m : Nat) (g : Nat → Value), m ≤ ss.length ∧ i = .int .i64 (m : Int) ∧ kk = .int .i64 ((k + m : Nat) : Int) ∧ wr.rowIs b 9 n g ∧ Hid (∀ j s, j < m → (markStrs ss k)[j]? = some s → g j = .string s) ∧ Turn S w wr)
      (fun _ i _ => ss.length - (intOf i).toNat)
    case atStart => exact ⟨0, f, Nat.zero_le _, rfl, rfl, hrow, fun j s hj => by omega, Turn.refl _ _⟩
    case round =>
      clear hrow
      obtain ⟨m, g, hm, rfl, rfl, hrow, hg, htu⟩ := hrel
      by_cases hml : m < ss.length
      · go_wp2_with fail
        refine (markText_any (k + m) wr (by omega) (by omega)).mono ?_
        rintro e w1 ⟨rfl, hb1⟩
        have hr1 := hrow.of_block (hb1.block b hrow.lt)
        have hc1 := hr1.cell (i := m) (by omega)
        have hf1 := hr1.frozen m
        have HR : Hid ((w1.setCell ⟨b, m, none⟩ (.string (mt (k + m)))).rowIs b 9 n (fun j => if j = m then .string (mt (k + m)) else g j) ∧ Turn S w (w1.setCell ⟨b, m, none⟩ (.string (mt (k + m))))) :=
          ⟨hr1.set m _, (htu.trans (Turn.of_below hb1)).set hB _⟩
        clear hr1 hrow htu hb1
        go_wp2_with fail
        go_roundw
        case rel =>
          refine ⟨m + 1, _, by omega, by go_num, by go_num, HR.out.1, fun j s hj hs => ?_, HR.out.2⟩
          by_cases e : j = m
          · subst e
            rw [markStrs_get ss k j s hs]
            simp
          · simp only [if_neg e]
            exact hg.out j s (by omega) hs
        case measure => simp [intOf]; omega
      · obtain rfl : m = ss.length := by omega
        go_wp2_with fail
        go_ret
        refine ⟨rfl, ⟨by rw [markStrs_length]; exact hlen, fun s hs => ?_, some ⟨b, 0, none⟩, cap, by rw [markStrs_length], Or.inr ⟨b, n, g, hB, rfl, by rw [markStrs_length]; exact hln, hrow, fun j s hs => ?_⟩⟩, htu⟩
        · obtain ⟨j, hj⟩ := List.getElem?_of_mem hs
          have hjl := (List.getElem?_eq_some_iff.1 hj).1
          rw [markStrs_length] at hjl
          rw [markStrs_get ss k j s hj]
          have := mt_size (k + j)
          omega
        · have hjl := (List.getElem?_eq_some_iff.1 hs).1
          rw [markStrs_length] at hjl
          exact hg.out j s hjl hs

/-- What markValS does with trees of this depth. -/
def MarkVals (d : Nat) : Prop := ∀ (S : Nat → Prop) (xs : List (Tr d)) (v : Value) (k : Nat) (w : World), RowOwn w (fun P x u => ValOwn w d P x u) S v xs → Within S w → 1 ≤ k → k + (xs.map (wtT d)).sum ≤ 1099511627776 →
    Calls Tryz.prog 43 #[v, .int .i64 (k : Int)] w fun e w' => e = .returned (.int .i64 (((markL (markT d) xs k).2 : Nat) : Int)) ∧ RowOwn w' (fun P x u => ValOwn w' d P x u) S v (markL (markT d) xs k).1 ∧ Turn S w w'

set_option maxRecDepth 100000 in
set_option maxHeartbeats 400000 in
theorem markValS_nil (d : Nat) (S : Nat → Prop) (a : Option Addr) (cap k : Nat) (w : World) :
    Calls Tryz.prog 43 #[.slice a 0 cap, .int .i64 (k : Int)] w fun e w' => e = .returned (.int .i64 (((markL (markT d) [] k).2 : Nat) : Int)) ∧ RowOwn w' (fun P x u => ValOwn w' d P x u) S (.slice a 0 cap) (markL (markT d) [] k).1 ∧ Turn S w w' := by
  go_enter Tryz.func43, Tryz.ntmps43
  go_wp2_with fail
  go_loopw [1, 5] (fun kk i wr => kk = .int .i64 (k : Int) ∧ i = .int .i64 0 ∧ wr = w) (fun _ _ _ => 0)
  case atStart => exact ⟨rfl, rfl, rfl⟩
  case round =>
    obtain ⟨rfl, rfl, rfl⟩ := hrel
    go_wp2_with fail
    go_ret
    exact ⟨rfl, ⟨by simp [markL], a, cap, rfl, Or.inl rfl⟩, Turn.refl _ _⟩

/-- The row as it is when the first m things have their marks. -/
structure MarkTo {d : Nat} (b n : Nat) (P : Nat → Nat → Prop) (xs : List (Tr d)) (k : Nat) (w : World) (m : Nat) (g : Nat → Value) : Prop where
  row : w.rowIs b 29 n g
  done : ∀ j x, j < m → xs[j]? = some x → ValOwn w d (P j) (markT d x (markTo (markT d) xs k j)).1 (.agg #[g (j * 5), g (j * 5 + 1), g (j * 5 + 2), g (j * 5 + 3), g (j * 5 + 4)])
  rest : ∀ j x, m ≤ j → xs[j]? = some x → ValOwn w d (P j) x (.agg #[g (j * 5), g (j * 5 + 1), g (j * 5 + 2), g (j * 5 + 3), g (j * 5 + 4)])

set_option maxRecDepth 100000 in
set_option maxHeartbeats 1000000 in
theorem markValS_any : ∀ (d : Nat), MarkVals d
  | 0 => by
    intro S xs v k w hv hS h0 h1
    obtain ⟨hlen, a, cap, rfl, h3⟩ := hv
    rcases h3 with rfl | ⟨b, n, f, P, _, _, _, _, _, _, hc⟩
    · exact markValS_nil 0 S a cap k w
    · cases xs with
      | nil => exact markValS_nil 0 S a cap k w
      | cons x r => exact (hc 0 x rfl).elim
  | d + 1 => by
    intro S xs v k w hv hS h0 h1
    have ih := markValS_any d
    obtain ⟨hlen, a, cap, rfl, h3⟩ := hv
    rcases h3 with rfl | ⟨b, n, f, P, hB, rfl, hln, hrow, hP, hdis, hc⟩
    · exact markValS_nil (d + 1) S a cap k w
    have H0 : Hid (MarkTo b n P xs k w 0 f) := ⟨hrow, fun j x hj => by omega, fun j x _ hx => hc j x hx⟩
    clear hrow hc
    go_enter Tryz.func43, Tryz.ntmps43
    go_wp2_with fail
    go_loopw [1, 5] (fun kk i wr => ∃ (m : Nat) (g : Nat → Value), m ≤ xs.length ∧ i = .int .i64 (m : Int) ∧ kk = .int .i64 ((markTo (markT (d + 1)) xs k m : Nat) : Int) ∧ Hid (MarkTo b n P xs k wr m g) ∧ Turn S w wr)
      (fun _ i _ => xs.length - (intOf i).toNat)
    case atStart => exact ⟨0, f, Nat.zero_le _, rfl, by rw [markTo_zero], H0, Turn.refl _ _⟩
    case round =>
      clear H0
      obtain ⟨m, g, hm, rfl, rfl, hmk, htu⟩ := hrel
      by_cases hml : m < xs.length
      · obtain ⟨x, hx⟩ : ∃ x, xs[m]? = some x := ⟨xs[m], List.getElem?_eq_getElem hml⟩
        obtain ⟨vk, vl, Sk, Sl, hag, i1, i2, i3, hk, hl, s1, s2, s3⟩ := hmk.out.rest m x (Nat.le_refl _) hx
        have hkl := markTo_le xs k m
        have hks := markTo_le xs k (m + 1)
        have hst := markTo_step (markT (d + 1)) xs k m x hx
        rw [markT_to] at hst
        have hw := hst.symm
        rw [wtT] at hw
        have hrow := hmk.out.row
        have c0 := hrow.cell (i := m * 5) (by omega)
        have c1 := hrow.cell (i := m * 5 + 1) (by omega)
        have c2 := hrow.cell (i := m * 5 + 2) (by omega)
        have c3 := hrow.cell (i := m * 5 + 3) (by omega)
        have c4 := hrow.cell (i := m * 5 + 4) (by omega)
        have z0 := hrow.frozen (m * 5)
        have z1 := hrow.frozen (m * 5 + 1)
        have z2 := hrow.frozen (m * 5 + 2)
        generalize hK : markTo (markT (d + 1)) xs k m = K at *
        have HW := hide hw
        have HS := hide hst
        have HK := hide hK
        clear hw hst hK
        have e3 : g (m * 5 + 3) = vk ∧ g (m * 5 + 4) = vl := by
          simp at hag
          exact ⟨hag.2.2.2.1, hag.2.2.2.2⟩
        rw [e3.1] at c3
        rw [e3.2] at c4
        obtain ⟨ak, ck, rfl, hkn⟩ := hk.open'
        obtain ⟨al, cl, rfl, hln2⟩ := hl.open'
        have E3 : Hid _ := e3
        have hwt := HS.out
        rw [wtT] at hwt
        have hb3 : K + 3 + x.keys.length + (x.list.map (wtT d)).sum ≤ 1099511627776 := by omega
        have hPw : ∀ j c, P j c → c < wr.heap.size ∧ c ≠ b := fun j c hc => ⟨Nat.lt_of_lt_of_le (hS c (hP j c hc).1) htu.size, (hP j c hc).2⟩
        clear hwt e3 hag hks hkl
        go_wp2_with fail
        rw [show ((K : Int) + 1 + 1) = ((K + 2 : Nat) : Int) by omega]
        refine (markText_any (K + 2) _ (by omega) (by omega)).mono ?_
        rintro e w1 ⟨rfl, hb1⟩
        have hr2 := (hrow.set (m * 5) (.int .i64 (K : Int))).set (m * 5 + 1) (.int .i64 ((K : Int) + 1))
        have hr1 := hr2.of_block (hb1.block b hr2.lt)
        have hr3 := hr1.set (m * 5 + 2) (.string (mt (K + 2)))
        have d2 := hr1.cell (i := m * 5 + 2) (by omega)
        have d3 := hr1.cell (i := m * 5 + 3) (by omega)
        have d4 := hr1.cell (i := m * 5 + 4) (by omega)
        have y2 := hr1.frozen (m * 5 + 2)
        simp only [show ¬ m * 5 + 3 = m * 5 + 1 by omega, show ¬ m * 5 + 3 = m * 5 by omega, show ¬ m * 5 + 4 = m * 5 + 1 by omega, show ¬ m * 5 + 4 = m * 5 by omega, if_false, E3.out.1, E3.out.2] at d3 d4
        have hT3 : Turn S w (w1.setCell ⟨b, m * 5 + 2, none⟩ (.string (mt (K + 2)))) := ((((htu.set (a := ⟨b, m * 5, none⟩) hB _).set (a := ⟨b, m * 5 + 1, none⟩) hB _).trans (Turn.of_below hb1))).set (a := ⟨b, m * 5 + 2, none⟩) hB _
        have hs3 : ∀ R : Nat → Prop, (∀ c, R c → c < wr.heap.size ∧ c ≠ b) → Same R wr (w1.setCell ⟨b, m * 5 + 2, none⟩ (.string (mt (K + 2)))) := fun R hR c hc => by
          have h := hR c hc
          rw [Below.heap_setCell _ _ _ _ (by exact h.2), hb1.block c (by rw [size_setCell1, size_setCell1]; exact h.1), Below.heap_setCell _ _ _ _ (by exact h.2), Below.heap_setCell _ _ _ _ (by exact h.2)]
        have hsz1 : wr.heap.size ≤ w1.heap.size := by
          have := hb1.size
          rw [size_setCell1, size_setCell1] at this
          exact this
        have HR3 := hide hr3
        have HT3 := hide hT3
        have HS3 := hide hs3
        have hk3 := hk.moved (hs3 Sk (fun c hc => hPw m c (s1 c hc))) (fun _ h => h)
        clear hr2 hr1 hr3 hT3 hs3 hb1 c0 c1 c2 c3 c4 z0 z1 z2 hrow
        go_wp2_with fail
        rw [show ((K : Int) + 2 + 1) = ((K + 3 : Nat) : Int) by omega]
        refine (markStringS_any Sk x.keys _ (K + 3) _ hk3 (by omega) (by omega)).mono ?_
        rintro e w4 ⟨rfl, hk4, ht4⟩
        have hbk : ¬ Sk b := fun h => (hPw m b (s1 b h)).2 rfl
        have hbl : ¬ Sl b := fun h => (hPw m b (s2 b h)).2 rfl
        have hr4 := HR3.out.of_block (ht4.block b HR3.out.lt hbk)
        have HT4 : Hid (Turn S w w4) := HT3.out.trans (ht4.mono (fun c hc => (hP m c (s1 c hc)).1))
        have hsz3 : wr.heap.size ≤ (w1.setCell ⟨b, m * 5 + 2, none⟩ (.string (mt (K + 2)))).heap.size := by
          rw [size_setCell1]
          have := hsz1
          omega
        have hs4 : ∀ R : Nat → Prop, (∀ c, R c → c < wr.heap.size ∧ c ≠ b) → (∀ c, R c → ¬ Sk c) → Same R wr w4 := fun R hR hn c hc => by
          rw [ht4.block c (Nat.lt_of_lt_of_le (hR c hc).1 hsz3) (hn c hc)]
          exact HS3.out R hR c hc
        have HS4 := hide hs4
        have hl4 : RowOwn w4 (fun P x u => ValOwn w4 d P x u) Sl (.slice al x.list.length cl) x.list := hl.same (hs4 Sl (fun c hc => hPw m c (s2 c hc)) (fun c hc hk => s3 c hk hc))
        have hW4 : Within Sl w4 := fun c hc => Nat.lt_of_lt_of_le (hPw m c (s2 c hc)).1 (Nat.le_trans hsz3 ht4.size)
        have hsz4 : wr.heap.size ≤ w4.heap.size := Nat.le_trans hsz3 ht4.size
        have HR4 := hide hr4
        have d4' := hr4.cell (i := m * 5 + 4) (by omega)
        simp only [show ¬ m * 5 + 4 = m * 5 + 2 by omega, show ¬ m * 5 + 4 = m * 5 + 1 by omega, show ¬ m * 5 + 4 = m * 5 by omega, if_false, E3.out.2] at d4'
        have HK4 := hide hk4
        clear hk4 ht4 hs4 HS3 HT3 HR3 hr4 hk3 d2 d3 d4 y2 hk hl hsz1 hsz3
        go_wp2_with fail
        rw [show ((K : Int) + 3 + (x.keys.length : Int)) = ((K + 3 + x.keys.length : Nat) : Int) by omega]
        refine (ih Sl x.list _ (K + 3 + x.keys.length) w4 hl4 hW4 (by omega) (by omega)).mono ?_
        rintro e w5 ⟨rfl, hl5, ht5⟩
        have HF : Hid (MarkTo b n P xs k w5 (m + 1) (put5 g (m * 5) (.int .i64 (K : Int)) (.int .i64 ((K : Int) + 1)) (.string (mt (K + 2))) (.slice ak x.keys.length ck) (.slice al x.list.length cl)) ∧ Turn S w w5) := by
          have hs5 : ∀ j, j ≠ m → Same (P j) wr w5 := fun j hj c hc => by
            have hn : ∀ c, P j c → ¬ P m c := fun c h1 h2 => hj (hdis j m c h1 h2)
            rw [ht5.block c (Nat.lt_of_lt_of_le (hPw j c hc).1 hsz4) (fun h => hn c hc (s2 c h))]
            exact HS4.out (P j) (fun c hc => hPw j c hc) (fun c hc hk => hn c hc (s1 c hk)) c hc
          have hoff : ∀ j i, j ≠ m → i < 5 → put5 g (m * 5) (.int .i64 (K : Int)) (.int .i64 ((K : Int) + 1)) (.string (mt (K + 2))) (.slice ak x.keys.length ck) (.slice al x.list.length cl) (j * 5 + i) = g (j * 5 + i) := fun j i hj hi => put5_off _ _ _ _ _ _ _ _ (by omega)
          refine ⟨⟨?_, fun j y hj hy => ?_, fun j y hj hy => ?_⟩, HT4.out.trans (ht5.mono (fun c hc => (hP m c (s2 c hc)).1))⟩
          · refine (HR4.out.of_block (ht5.block b HR4.out.lt hbl)).congr (fun j _ => ?_)
            unfold put5
            by_cases q0 : j = m * 5
            · simp [q0]
            by_cases q1 : j = m * 5 + 1
            · simp [q1]
            by_cases q2 : j = m * 5 + 2
            · simp [q2]
            by_cases q3 : j = m * 5 + 3
            · simp [q3, E3.out.1]
            by_cases q4 : j = m * 5 + 4
            · simp [q4, E3.out.2]
            simp [q0, q1, q2, q3, q4]
          · by_cases e : j = m
            · subst e
              rw [hx] at hy
              cases hy
              obtain ⟨p0, p1, p2, p3, p4⟩ := put5_at g (j * 5) (.int .i64 (K : Int)) (.int .i64 ((K : Int) + 1)) (.string (mt (K + 2))) (.slice ak x.keys.length ck) (.slice al x.list.length cl)
              rw [p0, p1, p2, p3, p4, HK.out]
              have hms := mt_size (K + 2)
              refine ⟨_, _, Sk, Sl, rfl, ⟨by show _ ≤ (K : Int); omega, by show (K : Int) ≤ _; omega⟩, ⟨by show _ ≤ (K : Int) + 1; omega, by show (K : Int) + 1 ≤ _; omega⟩, by show (mt (K + 2)).size < _; omega, ?_, hl5, s1, s2, s3⟩
              exact HK4.out.moved (fun c hc => ht5.block c (Nat.lt_of_lt_of_le (hPw j c (s1 c hc)).1 hsz4) (s3 c hc)) (fun _ h => h)
            · have := hmk.out.done j y (by omega) hy
              rw [hoff j 1 e (by omega), hoff j 2 e (by omega), hoff j 3 e (by omega), hoff j 4 e (by omega), show put5 g (m * 5) _ _ _ _ _ (j * 5) = g (j * 5) from hoff j 0 e (by omega)]
              exact this.same (hs5 j e)
          · have e : j ≠ m := by omega
            have := hmk.out.rest j y (by omega) hy
            rw [hoff j 1 e (by omega), hoff j 2 e (by omega), hoff j 3 e (by omega), hoff j 4 e (by omega), show put5 g (m * 5) _ _ _ _ _ (j * 5) = g (j * 5) from hoff j 0 e (by omega)]
            exact this.same (hs5 j e)
        have HM : Hid ((markL (markT d) x.list (K + 3 + x.keys.length)).2 = markTo (markT (d + 1)) xs k (m + 1)) := by
          show _ = _
          rw [markL_to (markT_to d), ← HW.out]
          omega
        rw [HM.out]
        clear hl5 ht5 hmk HK4 HS4 HT4 HR4 d4' hl4 hW4
        go_wp2_with fail
        go_roundw
        case rel => exact ⟨m + 1, _, by omega, by go_num, rfl, HF.out.1, HF.out.2⟩
        case measure => simp [intOf]; omega
      · obtain rfl : m = xs.length := by omega
        have HM : Hid (markTo (markT (d + 1)) xs k xs.length = (markL (markT (d + 1)) xs k).2) := markTo_all _ _ _
        rw [HM.out]
        go_wp2_with fail
        go_ret
        refine ⟨rfl, ⟨by rw [markL_length]; exact hlen, some ⟨b, 0, none⟩, cap, by rw [markL_length], Or.inr ⟨b, n, g, P, hB, rfl, by rw [markL_length]; exact hln, hmk.out.row, hP, hdis, fun j y hy => ?_⟩⟩, htu⟩
        have hj := (List.getElem?_eq_some_iff.1 hy).1
        rw [markL_length] at hj
        have hg := markL_get (markT (d + 1)) xs k j xs[j] (List.getElem?_eq_getElem hj)
        rw [hy] at hg
        cases hg
        exact hmk.out.done j _ hj (List.getElem?_eq_getElem hj)

set_option maxRecDepth 100000 in
set_option maxHeartbeats 1000000 in
theorem markVal_any (d : Nat) (S : Nat → Prop) (t : Tr (d + 1)) (v : Value) (k : Nat) (w : World) (hv : ValOwn w (d + 1) S t v) (hS : Within S w) (h0 : 1 ≤ k) (h1 : k + (wtT (d + 1) t) ≤ 1099511627776) :
    Calls Tryz.prog 14 #[v, .int .i64 (k : Int)] w fun e w' => e = .returned (.int .i64 (((markTop d t k).2 : Nat) : Int)) ∧ ValOwn w' (d + 1) S (markTop d t k).1 v ∧ Turn S w w' := by
  obtain ⟨vk, vl, Sk, Sl, rfl, i1, i2, i3, hk, hl, s1, s2, s3⟩ := hv
  obtain ⟨ak, ck, rfl, hkl⟩ := hk.open'
  obtain ⟨al, cl, rfl, hll⟩ := hl.open'
  rw [wtT] at h1
  have hA := below_alloc1 w (.cells #[.int .i64 t.kind, .int .i64 t.num, .string t.str, .slice ak t.keys.length ck, .slice al t.list.length cl] 29)
  have k0 := Blk5.new w 29 (.int .i64 t.kind) (.int .i64 t.num) (.string t.str) (.slice ak t.keys.length ck) (.slice al t.list.length cl)
  go_enter Tryz.func14, Tryz.ntmps14
  go_wp2_with fail
  refine (markStringS_any Sk t.keys _ k _ (hk.moved (fun b hb => hA.block b (hS b (s1 b hb))) (fun _ h => h)) h0 (by omega)).mono ?_
  rintro e w1 ⟨rfl, hk1, ht1⟩
  replace k0 := k0.of_block (ht1.block _ k0.lt (fun h => by have := hS _ (s1 _ h); omega))
  obtain ⟨x0, x1, x2, x3, x4⟩ := k0.cell
  have hT1 : Turn S w w1 := (Turn.of_below hA).trans (ht1.mono s1)
  have hl1 : RowOwn w1 (fun P x u => ValOwn w1 d P x u) Sl (.slice al t.list.length cl) t.list := hl.same (fun b hb => by
    rw [ht1.block b (Nat.lt_of_lt_of_le (hS b (s2 b hb)) hA.size) (fun h => s3 b h hb), hA.block b (hS b (s2 b hb))])
  have hW1 : Within Sl w1 := fun b hb => Nat.lt_of_lt_of_le (hS b (s2 b hb)) hT1.size
  have HK1 := hide hk1
  have HT1 := hide hT1
  have hsz := hT1.size
  clear hk1 ht1 hT1 k0 hA hk hl
  go_wp2_with fail
  rw [show ((k : Int) + (t.keys.length : Int)) = ((k + t.keys.length : Nat) : Int) by omega]
  refine (markValS_any d Sl t.list _ (k + t.keys.length) w1 hl1 hW1 (by omega) (by omega)).mono ?_
  rintro e w2 ⟨rfl, hl2, ht2⟩
  have HF : Hid (ValOwn w2 (d + 1) S (markTop d t k).1 (.agg #[.int .i64 t.kind, .int .i64 t.num, .string t.str, .slice ak t.keys.length ck, .slice al t.list.length cl]) ∧ Turn S w w2) :=
    ⟨⟨_, _, Sk, Sl, rfl, i1, i2, i3, HK1.out.moved (fun b hb => ht2.block b (Nat.lt_of_lt_of_le (hS b (s1 b hb)) hsz) (s3 b hb)) (fun _ h => h), hl2, s1, s2, s3⟩, HT1.out.trans (ht2.mono s2)⟩
  clear hl2 ht2 HK1 HT1 x0 x1 x2 x3 x4 hl1 hW1
  go_wp2_with fail
  go_ret
  exact ⟨rfl, HF.out.1, HF.out.2⟩
end Go.Proofs.YtilgbnnjecpneaaGreatDoor

/- heldStringS, heldValS, heldVal: the marks are there. -/
namespace Go.Proofs.YtilgbnnjecpneaaGreatDoor
open Go.RowKit Go.Deep

theorem ext_cell {W : World} {b o : Nat} {u : Value} (h : W.cell? ⟨b, o, none⟩ = some u) (n : Ext W) : n.now.cell? ⟨b, o, none⟩ = some u :=
  (n.from_.cell (p := ⟨b, o, none⟩) (World.block_lt_of_cell? W _ h)).trans h

set_option maxRecDepth 100000 in
set_option maxHeartbeats 1000000 in
theorem heldStringS_any (S : Nat → Prop) (ss : List ByteArray) (v : Value) (k : Nat) (w : World) (hv : StrsAt S w v ss) (hS : Within S w) (hmk : ∀ i s, ss[i]? = some s → s = mt (k + i)) (h0 : 1 ≤ k) (h1 : k + ss.length ≤ 1099511627776) :
    Calls Tryz.prog 44 #[v, .int .i64 (k : Int)] w fun e w' => e = .returned (.int .i64 ((k + ss.length : Nat) : Int)) ∧ Below w.heap.size w w' := by
  obtain ⟨a, cap, rfl, hlen⟩ := hv.open'
  have HM := hide hmk
  clear hmk
  go_enter Tryz.func44, Tryz.ntmps44
  go_wp2_with fail
  go_loopw [1, 5] (fun kk i wr => ∃ (m : Nat), m ≤ ss.length ∧ i = .int .i64 (m : Int) ∧ kk = .int .i64 ((k + m : Nat) : Int) ∧ Below w.heap.size w wr) (fun _ i _ => ss.length - (intOf i).toNat)
  case atStart => exact ⟨0, Nat.zero_le _, rfl, rfl, Below.refl _ _⟩
  case round =>
    obtain ⟨m, hm, rfl, rfl, hbel⟩ := hrel
    by_cases hml : m < ss.length
    · obtain ⟨b, o, s, rfl, _, hs, _, hck⟩ := (hv.same (hS.same hbel)).cell hml
      obtain rfl := HM.out m s hs
      have hki : (m : Int) < (ss.length : Int) := by omega
      have hq : ((mt (k + m)).toList == (mt (k + m)).toList) = true := by simp
      have y := fun n => ext_cell hck n
      have hne := Ext.some wr
      clear hs hv
      go_wp2_with fail
      refine wp_region_ext (by kernel_rfl) (by kernel_rfl) ?_
      repeat (first | go_big_quiet_step ((go_at_call 65; rw [show ((k : Int) + (m : Int)) = ((k + m : Nat) : Int) by omega]; exact Calls.ext_of (markText_any (k + m) _ (by omega) (by omega)))) | quiet_step ((go_at_call 65; rw [show ((k : Int) + (m : Int)) = ((k + m : Nat) : Int) by omega]; exact Calls.ext_of (markText_any (k + m) _ (by omega) (by omega)))))
      refine wpQuiet_nil ?_
      rintro _ ⟨n, rfl⟩
      have hb2 := hide (below_trans hbel n.from_)
      clear y
      go_wp2_with fail
      go_roundw
      case rel => exact ⟨m + 1, by omega, by go_num, by go_num, hb2.out⟩
      case measure => simp [intOf]; omega
    · obtain rfl : m = ss.length := by omega
      go_wp2_with fail
      go_ret
      exact ⟨rfl, hbel⟩

/-- What heldValS does with trees of this depth that have marks. -/
def HeldVals (d : Nat) : Prop := ∀ (S : Nat → Prop) (xs : List (Tr d)) (v : Value) (k : Nat) (w : World), RowAt S w (ValAt S w d) v (markL (markT d) xs k).1 → Within S w → 1 ≤ k → k + (xs.map (wtT d)).sum ≤ 1099511627776 →
    Calls Tryz.prog 45 #[v, .int .i64 (k : Int)] w fun e w' => e = .returned (.int .i64 (((markL (markT d) xs k).2 : Nat) : Int)) ∧ Below w.heap.size w w'

set_option maxRecDepth 100000 in
set_option maxHeartbeats 1000000 in
theorem heldValS_nil (d : Nat) (a : Option Addr) (cap k : Nat) (w : World) :
    Calls Tryz.prog 45 #[.slice a 0 cap, .int .i64 (k : Int)] w fun e w' => e = .returned (.int .i64 (((markL (markT d) [] k).2 : Nat) : Int)) ∧ Below w.heap.size w w' := by
  go_enter Tryz.func45, Tryz.ntmps45
  go_wp2_with fail
  go_loopw [1, 5] (fun kk i wr => kk = .int .i64 (k : Int) ∧ i = .int .i64 0 ∧ wr = w) (fun _ _ _ => 0)
  case atStart => exact ⟨rfl, rfl, rfl⟩
  case round =>
    obtain ⟨rfl, rfl, rfl⟩ := hrel
    go_wp2_with fail
    go_ret
    exact ⟨rfl, Below.refl _ _⟩

set_option maxRecDepth 100000 in
set_option maxHeartbeats 1000000 in
theorem heldValS_any : ∀ (d : Nat), HeldVals d
  | 0 => by
    intro S xs v k w hv hS h0 h1
    cases xs with
    | nil =>
      obtain ⟨a, cap, rfl, _⟩ := hv.open'
      exact heldValS_nil 0 a cap k w
    | cons x r => exact Empty.elim x
  | d + 1 => by
    intro S xs v k w hv hS h0 h1
    have ih := heldValS_any d
    obtain ⟨a, cap, rfl, hlen⟩ := hv.open'
    rw [markL_length] at hlen ⊢
    rw [markL_length] at hv
    go_enter Tryz.func45, Tryz.ntmps45
    go_wp2_with fail
    go_loopw [1, 5] (fun kk i wr => ∃ (m : Nat), m ≤ xs.length ∧ i = .int .i64 (m : Int) ∧ kk = .int .i64 ((markTo (markT (d + 1)) xs k m : Nat) : Int) ∧ Below w.heap.size w wr) (fun _ i _ => xs.length - (intOf i).toNat)
    case atStart => exact ⟨0, Nat.zero_le _, rfl, by rw [markTo_zero], Below.refl _ _⟩
    case round =>
      obtain ⟨m, hm, rfl, rfl, hbel⟩ := hrel
      by_cases hml : m < xs.length
      · obtain ⟨x, hx⟩ : ∃ x, xs[m]? = some x := ⟨xs[m], List.getElem?_eq_getElem hml⟩
        obtain ⟨b, o, y, c0, c1, c2, c3, c4, rfl, _, hy, e0, e1, e2, e3, e4, hval⟩ := (hv.same (hS.same hbel)).cell (k := m) (by rw [markL_length]; exact hml)
        rw [markL_get (markT (d + 1)) xs k m x hx] at hy
        cases hy
        have hst := markTo_step (markT (d + 1)) xs k m x hx
        rw [markT_to] at hst
        have hks := markTo_le xs k (m + 1)
        have hkl := markTo_le xs k m
        generalize hK : markTo (markT (d + 1)) xs k m = K at *
        obtain ⟨vk, vl, hag, _, _, _, hk, hl⟩ := hval
        have hk' : StrsAt S wr vk (markStrs x.keys (K + 3)) := hk
        have hl' : RowAt S wr (ValAt S wr d) vl (markL (markT d) x.list (K + 3 + x.keys.length)).1 := hl
        obtain ⟨ak, ck, rfl, hkn⟩ := hk'.open'
        obtain ⟨al, cl, rfl, hln⟩ := hl'.open'
        rw [markStrs_length] at hkn
        rw [markL_length] at hln
        rw [wtT] at hst
        have hb3 : K + 3 + x.keys.length + (x.list.map (wtT d)).sum ≤ 1099511627776 := by omega
        have f0 : c0 = .int .i64 (K : Int) ∧ c1 = .int .i64 ((K : Int) + 1) ∧ c2 = .string (mt (K + 2)) ∧ c3 = .slice ak x.keys.length ck ∧ c4 = .slice al x.list.length cl := by
          simp only [Value.agg.injEq, Array.mk.injEq, List.cons.injEq, and_true] at hag
          rw [markStrs_length, markL_length] at hag
          exact hag
        obtain ⟨rfl, rfl, rfl, rfl, rfl⟩ := f0
        rw [markStrs_length] at hk'
        rw [markL_length] at hl'
        have HST := hide hst
        have HK := hide hK
        have HKL := hide hkl
        have q0 : ((K : Int) != (K : Int)) = false := by simp
        have q1 : ((K : Int) + 1 != (K : Int) + 1) = false := by simp
        have q2 : ((mt (K + 2)).toList == (mt (K + 2)).toList) = true := by simp
        have hki : (m : Int) < (xs.length : Int) := by omega
        clear hag hk hl hst hK hks hkl hx
        go_wp2_with fail
        have y2 := fun n => ext_cell e2 n
        have hne := Ext.some wr
        refine wp_region_ext (by kernel_rfl) (by kernel_rfl) ?_
        repeat (first | go_big_quiet_step ((go_at_call 65; rw [show ((K : Int) + 1 + 1) = ((K + 2 : Nat) : Int) by omega]; exact Calls.ext_of (markText_any (K + 2) _ (by omega) (by omega)))) | quiet_step ((go_at_call 65; rw [show ((K : Int) + 1 + 1) = ((K + 2 : Nat) : Int) by omega]; exact Calls.ext_of (markText_any (K + 2) _ (by omega) (by omega)))))
        refine wpQuiet_nil ?_
        rintro _ ⟨n, rfl⟩
        have hb2 := below_trans hbel n.from_
        have e3' := ext_cell e3 n
        have e4' := ext_cell e4 n
        have hW := hS.later hb2.size
        have hbs : Same S wr n.now := (hS.later hbel.size).same n.from_
        have hk2 := hk'.same hbs
        have hl2 := hl'.same hbs
        generalize n.now = w2 at *
        have HV := hide hv
        clear y2 hbs hk' hl' e0 e1 e2 e3 e4 q0 q1 q2 hbel hv hne n
        go_wp2_with fail
        rw [show ((K : Int) + 1 + 1 + 1) = ((K + 3 : Nat) : Int) by omega]
        refine (heldStringS_any S (markStrs x.keys (K + 3)) _ (K + 3) w2 hk2 hW (markStrs_get x.keys (K + 3)) (by omega) (by rw [markStrs_length]; omega)).mono ?_
        rintro e w3 ⟨rfl, hb3'⟩
        rw [markStrs_length]
        have e4'' := (hb3'.cell (p := ⟨b, o + m * 5 + 4, none⟩) (World.block_lt_of_cell? w2 _ e4')).trans e4'
        have hl3 := hl2.same (hW.same hb3')
        have hW3 := hW.later hb3'.size
        have HB3 := hide (below_trans hb2 hb3')
        have hnn : ¬ ((K : Int) + 3 + (x.keys.length : Int) < 0) := by omega
        clear e3' e4' hb3' hb2 hk2 hl2 hW
        go_wp2_with fail
        rw [show ((K : Int) + 3 + (x.keys.length : Int)) = ((K + 3 + x.keys.length : Nat) : Int) by omega]
        refine (ih S x.list _ (K + 3 + x.keys.length) w3 hl3 hW3 (by omega) (by omega)).mono ?_
        rintro e w4 ⟨rfl, hb4⟩
        have HB4 := hide (below_trans HB3.out hb4)
        have HM : Hid ((markL (markT d) x.list (K + 3 + x.keys.length)).2 = markTo (markT (d + 1)) xs k (m + 1)) := by
          show _ = _
          rw [markL_to (markT_to d), HST.out]
          omega
        rw [HM.out]
        have hnn2 : ¬ (((markTo (markT (d + 1)) xs k (m + 1) : Nat) : Int) < 0) := by omega
        clear hb4 hl3 hW3 e4'' HB3
        go_wp2_with fail
        go_roundw
        case rel => exact ⟨m + 1, by omega, by go_num, rfl, HB4.out⟩
        case measure => simp [intOf]; omega
      · obtain rfl : m = xs.length := by omega
        have HM : Hid (markTo (markT (d + 1)) xs k xs.length = (markL (markT (d + 1)) xs k).2) := markTo_all _ _ _
        rw [HM.out]
        go_wp2_with fail
        go_ret
        exact ⟨rfl, hbel⟩

set_option maxRecDepth 100000 in
set_option maxHeartbeats 1000000 in
theorem heldVal_any (d : Nat) (S : Nat → Prop) (t : Tr (d + 1)) (v : Value) (k : Nat) (w : World) (hv : ValAt S w (d + 1) (markTop d t k).1 v) (hS : Within S w) (h0 : 1 ≤ k) (h1 : k + (wtT (d + 1) t) ≤ 1099511627776) :
    Calls Tryz.prog 15 #[v, .int .i64 (k : Int)] w fun e w' => e = .returned (.int .i64 (((markTop d t k).2 : Nat) : Int)) ∧ Below w.heap.size w w' := by
  obtain ⟨vk, vl, rfl, i1, i2, i3, hk, hl⟩ := hv
  have hk' : StrsAt S w vk (markStrs t.keys k) := hk
  have hl' : RowAt S w (ValAt S w d) vl (markL (markT d) t.list (k + t.keys.length)).1 := hl
  obtain ⟨ak, ck, rfl, hkl⟩ := hk'.open'
  obtain ⟨al, cl, rfl, hll⟩ := hl'.open'
  rw [wtT] at h1
  rw [markStrs_length] at hkl
  rw [markL_length] at hll
  clear hk hl
  have e1 : Value.agg #[.int .i64 (markTop d t k).1.kind, .int .i64 (markTop d t k).1.num, .string (markTop d t k).1.str, .slice ak (markStrs t.keys k).length ck, .slice al (markL (markT d) t.list (k + t.keys.length)).1.length cl] =
      .agg #[.int .i64 t.kind, .int .i64 t.num, .string t.str, .slice ak t.keys.length ck, .slice al t.list.length cl] := by
    rw [markStrs_length, markL_length]
    rfl
  rw [e1]
  rw [markStrs_length] at hk'
  rw [markL_length] at hl'
  clear e1
  have hA := below_alloc1 w (.cells #[.int .i64 t.kind, .int .i64 t.num, .string t.str, .slice ak t.keys.length ck, .slice al t.list.length cl] 29)
  have k0 := Blk5.new w 29 (.int .i64 t.kind) (.int .i64 t.num) (.string t.str) (.slice ak t.keys.length ck) (.slice al t.list.length cl)
  go_enter Tryz.func15, Tryz.ntmps15
  go_wp2_with fail
  refine (heldStringS_any S (markStrs t.keys k) _ k _ (hk'.same (hS.same hA)) (hS.later hA.size) (markStrs_get t.keys k) (by omega) (by rw [markStrs_length]; omega)).mono ?_
  rintro e w1 ⟨rfl, hb1⟩
  rw [markStrs_length]
  replace k0 := k0.below hb1
  obtain ⟨x0, x1, x2, x3, x4⟩ := k0.cell
  have hB1 := below_trans hA hb1
  have hl1 := hl'.same (hS.same hB1)
  have hW1 := hS.later hB1.size
  have HB1 := hide hB1
  have hnn : ¬ ((k : Int) + (t.keys.length : Int) < 0) := by omega
  clear hb1 hB1 k0 hA hk' hl'
  go_wp2_with fail
  rw [show ((k : Int) + (t.keys.length : Int)) = ((k + t.keys.length : Nat) : Int) by omega]
  refine (heldValS_any d S t.list _ (k + t.keys.length) w1 hl1 hW1 (by omega) (by omega)).mono ?_
  rintro e w2 ⟨rfl, hb2⟩
  have HB2 := hide (below_trans HB1.out hb2)
  have HM : Hid ((markL (markT d) t.list (k + t.keys.length)).2 = (markTop d t k).2) := rfl
  rw [HM.out]
  have hnn2 : ¬ ((((markTop d t k).2 : Nat) : Int) < 0) := by omega
  clear hb2 hl1 hW1 x0 x1 x2 x3 x4
  go_wp2_with fail
  go_ret
  exact ⟨rfl, HB2.out⟩
end Go.Proofs.YtilgbnnjecpneaaGreatDoor

/- What stands while l1Copy copies a tree. -/
namespace Go.Proofs.YtilgbnnjecpneaaGreatDoor
open Go.RowKit Go.Deep

/-- What l1Copy does with trees of this depth. -/
def CopyC (d : Nat) : Prop := ∀ (S : Nat → Prop) (t : Tr d) (v : Value) (w : World), ValAt S w d t v → Within S w → (wtT d t : Int) ≤ 4194304 →
    Calls Tryz.prog 60 #[v] w fun e w' => ∃ u, e = .returned u ∧ ValOwn w' d (Fresh w w') t u ∧ Below w.heap.size w w'

theorem size2 (w : World) (A B : Obj) : ((w.alloc A).alloc B).heap.size = w.heap.size + 1 + 1 := by simp
theorem size3 (w : World) (A B C : Obj) : (((w.alloc A).alloc B).alloc C).heap.size = w.heap.size + 1 + 1 + 1 := by simp
theorem nb1 (w : World) (A B o : Obj) : (((w.alloc A).alloc B).alloc o).drew.heap[w.heap.size + 1 + 1]? = some o := by
  have h := heap_alloc_new ((w.alloc A).alloc B) o
  rw [size2] at h
  exact h
theorem nb2 (w : World) (A B o C : Obj) : ((((w.alloc A).alloc B).alloc o).alloc C).drew.heap[w.heap.size + 1 + 1]? = some o :=
  (Below.heap_alloc (((w.alloc A).alloc B).alloc o) C _ (by rw [size3]; omega)).trans (nb1 w A B o)
theorem nb3 (w : World) (A B C o : Obj) : ((((w.alloc A).alloc B).alloc C).alloc o).drew.heap[w.heap.size + 1 + 1 + 1]? = some o := by
  have h := heap_alloc_new (((w.alloc A).alloc B).alloc C) o
  rw [size3] at h
  exact h
theorem kA3 (w : World) (A B C : Obj) : (((w.alloc A).alloc B).alloc C).drew.heap[w.heap.size]? = some A :=
  (Below.heap_alloc ((w.alloc A).alloc B) C _ (by rw [size2]; omega)).trans ((Below.heap_alloc (w.alloc A) B _ (by simp)).trans (heap_alloc_new w A))
theorem kA4 (w : World) (A B C D : Obj) : ((((w.alloc A).alloc B).alloc C).alloc D).drew.heap[w.heap.size]? = some A :=
  (Below.heap_alloc (((w.alloc A).alloc B).alloc C) D _ (by rw [size3]; omega)).trans (kA3 w A B C)
theorem kB3 (w : World) (A B C : Obj) : (((w.alloc A).alloc B).alloc C).drew.heap[w.heap.size + 1]? = some B := by
  have h := heap_alloc_new (w.alloc A) B
  rw [World.size_alloc] at h
  exact (Below.heap_alloc ((w.alloc A).alloc B) C _ (by rw [size2]; omega)).trans h
theorem kB4 (w : World) (A B C D : Obj) : ((((w.alloc A).alloc B).alloc C).alloc D).drew.heap[w.heap.size + 1]? = some B :=
  (Below.heap_alloc (((w.alloc A).alloc B).alloc C) D _ (by rw [size3]; omega)).trans (kB3 w A B C)
theorem below_drew1 {B : Nat} {a w : World} (h : Below B a w) : Below B a w.drew := ⟨h.os, h.tape, h.output, h.size, h.block⟩
theorem bl3 (w : World) (A B C : Obj) : Below w.heap.size w (((w.alloc A).alloc B).alloc C).drew := below_drew1 (below_trans (below_trans (below_alloc1 _ _) (below_alloc1 _ _)) (below_alloc1 _ _))
theorem bl4 (w : World) (A B C D : Obj) : Below w.heap.size w ((((w.alloc A).alloc B).alloc C).alloc D).drew := below_drew1 (below_trans (below_trans (below_trans (below_alloc1 _ _) (below_alloc1 _ _)) (below_alloc1 _ _)) (below_alloc1 _ _))

/-- What stands when the copy's own variable is made, its list still empty. -/
structure CopyAt {d : Nat} (w wc : World) (t : Nd (Tr d)) (c3 c4 : Value) (b : Nat) (vk : Value) : Prop where
  out : Blk5 wc b 29 (.int .i64 t.kind) (.int .i64 t.num) (.string t.str) vk (.slice none 0 0)
  box : Blk5 wc w.heap.size 29 (.int .i64 t.kind) (.int .i64 t.num) (.string t.str) c3 c4
  res : Blk5 wc (w.heap.size + 1) 29 (.int .i64 0) (.int .i64 0) (.string { data := #[] }) (.slice none 0 0) (.slice none 0 0)
  keys : StrsOwn (fun x => w.heap.size + 1 < x ∧ x < wc.heap.size ∧ x ≠ b) wc vk t.keys
  below : Below w.heap.size w wc
  above : w.heap.size + 1 < b

theorem StrsOwn.sub {S S' : Nat → Prop} {w : World} {v : Value} {ss : List ByteArray} (h : StrsOwn S w v ss) (hS : ∀ b, S b → b < w.heap.size → S' b) : StrsOwn S' w v ss := by
  obtain ⟨h1, h2, a, cap, hv, h3⟩ := h
  refine ⟨h1, h2, a, cap, hv, ?_⟩
  rcases h3 with h3 | ⟨b, n, f, hB, ha, hl, hr, hc⟩
  · exact Or.inl h3
  · exact Or.inr ⟨b, n, f, hS b hB hr.lt, ha, hl, hr, hc⟩

theorem copy_a {d : Nat} {w W w' : World} {t : Nd (Tr d)} {c3 c4 vk : Value} {G : Nat} (hB : Below w.heap.size w W) (hbox : Blk5 W w.heap.size 29 (.int .i64 t.kind) (.int .i64 t.num) (.string t.str) c3 c4)
    (hres : Blk5 W (w.heap.size + 1) 29 (.int .i64 0) (.int .i64 0) (.string { data := #[] }) (.slice none 0 0) (.slice none 0 0)) (hG : w.heap.size + 1 < G) (hgr : W.grownBy w' (some G))
    (hown : StrsOwn (fun b => b = G ∨ b = W.heap.size) w' vk t.keys) :
    CopyAt w (w'.alloc (.cells #[.int .i64 t.kind, .int .i64 t.num, .string t.str, vk, .slice none 0 0] 29)) t c3 c4 w'.heap.size vk := by
  have hlt := hres.lt
  have hsz := hgr.size
  refine ⟨Blk5.new _ _ _ _ _ _ _, (hbox.of_block (hgr.block _ hbox.lt (fun e => by cases e; omega))).alloc _, (hres.of_block (hgr.block _ hres.lt (fun e => by cases e; omega))).alloc _, ?_, ?_, by omega⟩
  · refine (hown.sub (S' := fun x => w.heap.size + 1 < x ∧ x < w'.heap.size) (fun b hb hbl => ⟨by rcases hb with rfl | rfl <;> omega, hbl⟩)).moved (fun b hb => Below.heap_alloc _ _ _ hb.2) (fun b hb => ⟨hb.1, by have := hb.2; simp; omega, by have := hb.2; omega⟩)
  · refine below_trans (b := w') ⟨hgr.os.trans hB.os, hgr.tape.trans hB.tape, hgr.output.trans hB.output, Nat.le_trans hB.size hgr.size, fun k hk => ?_⟩ (below_alloc1 _ _)
    exact (hgr.block k (Nat.lt_of_lt_of_le hk hB.size) (fun e => by cases e; omega)).trans (hB.block k hk)

theorem copy_b {d : Nat} {w W w' : World} {t : Nd (Tr d)} {c3 c4 vk : Value} {G V : Nat} (hB : Below w.heap.size w W) (hbox : Blk5 W w.heap.size 29 (.int .i64 t.kind) (.int .i64 t.num) (.string t.str) c3 c4)
    (hres : Blk5 W (w.heap.size + 1) 29 (.int .i64 0) (.int .i64 0) (.string { data := #[] }) (.slice none 0 0) (.slice none 0 0)) (hvar : Blk5 W V 29 (.int .i64 0) (.int .i64 0) (.string { data := #[] }) (.slice none 0 0) (.slice none 0 0))
    (hG : w.heap.size + 1 < G) (hV : w.heap.size + 1 < V) (hGV : V ≠ G) (hgr : W.grownBy w' (some G))
    (hown : StrsOwn (fun b => b = G ∨ b = W.heap.size) w' vk t.keys) :
    CopyAt w (set5 w' V 0 (.int .i64 t.kind) (.int .i64 t.num) (.string t.str) vk (.slice none 0 0)) t c3 c4 V vk := by
  have hlt := hres.lt
  have hvl := hvar.lt
  have hsz := hgr.size
  have hv' := hvar.of_block (hgr.block _ hvl (fun e => hGV (by cases e; rfl)))
  refine ⟨?_, (hbox.of_block (hgr.block _ hbox.lt (fun e => by cases e; omega))).of_block (set5_block _ _ _ _ _ _ _ _ _ (by omega)), (hres.of_block (hgr.block _ hres.lt (fun e => by cases e; omega))).of_block (set5_block _ _ _ _ _ _ _ _ _ (by omega)), ?_, ?_, hV⟩
  · unfold Blk5 at hv' ⊢
    simp [set5, World.setCell, Array.getElem?_modify, hv']
  · refine (hown.sub (S' := fun x => w.heap.size + 1 < x ∧ x < w'.heap.size ∧ x ≠ V) (fun b hb hbl => ⟨by rcases hb with rfl | rfl <;> omega, hbl, by rcases hb with rfl | rfl <;> omega⟩)).moved (fun b hb => set5_block _ _ _ _ _ _ _ _ _ hb.2.2) (fun b hb => ⟨hb.1, by rw [set5_size]; exact hb.2.1, hb.2.2⟩)
  · refine below_set5 ⟨hgr.os.trans hB.os, hgr.tape.trans hB.tape, hgr.output.trans hB.output, Nat.le_trans hB.size hgr.size, fun k hk => ?_⟩ (by omega) _ _ _ _ _ _
    exact (hgr.block k (Nat.lt_of_lt_of_le hk hB.size) (fun e => by cases e; omega)).trans (hB.block k hk)

/-- What stands when the first k trees are copied. -/
structure CopyTo {d : Nat} (wc wr : World) (t : Nd (Tr d)) (b : Nat) (vk lv : Value) (k : Nat) (vs : List Value) (P : Nat → Nat → Prop) : Prop where
  out : Blk5 wr b 29 (.int .i64 t.kind) (.int .i64 t.num) (.string t.str) vk lv
  vals : ValsTo wc.heap.size wr lv t.list k vs P
  but : But b wc wr


/-- A call, as one step of a region that draws. -/
theorem step_call_run {P : Program} {ops : Array Oper} {o : Oper} {a : Act} {w : World} {K : Act → World → Prop} {Q : Exit → Act → World → Prop} {E : Prop} (Φ : Value → World → Prop) (f : FuncId) (args : Array Value)
    (hg : o.guard = none) (hrun : (execOp a.eval o).run P w = .ok (.enter f args) w) (hc : Calls P f args w fun e w' => ∃ v, e = .returned v ∧ Φ v w') (hK : ∀ v w', Φ v w' → K (a.put o.dst v) w') :
    if Region.wanted o (yielded ops a.tmps) = true then Oper.wp P o a w K Q else E := by
  have hw : Region.wanted o (yielded ops a.tmps) = true := by simp [Region.wanted, hg]
  rw [if_pos hw]
  unfold Oper.wp
  rw [hrun, Oper.upon_enter]
  refine hc.mono ?_
  rintro e w' ⟨v, rfl, hφ⟩
  exact hK v w' hφ

theorem ValsTo.other {d N : Nat} {w w' : World} {sv : Value} {xs : List (Tr d)} {k : Nat} {vs : List Value} {P : Nat → Nat → Prop} (h : ValsTo N w sv xs k vs P) (hs : ∀ c, N ≤ c → w'.heap[c]? = w.heap[c]?) (hz : w'.heap.size = w.heap.size) : ValsTo N w' sv xs k vs P := by
  obtain ⟨h1, hlo, hdis, h2⟩ := h
  refine ⟨⟨h1.1, ?_⟩, fun j c hj hc => by rw [hz]; exact hlo j c hj hc, hdis, fun j x hj hx => ?_⟩
  · rcases h1.2 with h | ⟨g, cap, cur, hv, hg, hh, hrest⟩
    · exact Or.inl h
    · exact Or.inr ⟨g, cap, cur, hv, hg, (hs g hg).trans hh, hrest⟩
  · obtain ⟨c0, c1, c2, c3, c4, e0, e1, e2, e3, e4, hv⟩ := h2 j x hj hx
    exact ⟨c0, c1, c2, c3, c4, e0, e1, e2, e3, e4, hv.same (fun c hc => hs c (hlo j c hj hc).1)⟩
end Go.Proofs.YtilgbnnjecpneaaGreatDoor
