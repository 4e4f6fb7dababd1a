/- Texts of the proof, put together by program: WMrgI, WOfsortedRow, WOfleastOfRow, WMrgR, WToO. -/
import Derived.Test.YtilgbnnjecpneaaGreatDoorR27
import Derived.Test.YtilgbnnjecpneaaGreatDoorR19
import Derived.Test.YtilgbnnjecpneaaGreatDoorR17
import Derived.Test.YtilgbnnjecpneaaGreatDoorR20
import Derived.Test.YtilgbnnjecpneaaGreatDoorR11
/- inOrder of the program. -/
namespace Go.Proofs.YtilgbnnjecpneaaGreatDoor
open Go.RowKit Go.Deep

/-- What inOrder gives: the row itself, if it has less than two trees; else a row of its own. -/
def InQ (N : Nat) {d : Nat} (xs : List (Tr d)) (a : Option Addr) (cap : Nat) (w : World) (e : Ending) (w' : World) : Prop :=
  Below w.heap.size w w' ∧ ((xs.length < 2 ∧ e = .returned (.slice a xs.length cap) ∧ w' = w) ∨ (2 ≤ xs.length ∧ ∃ a' c' vs M, e = .returned (.slice a' xs.length c') ∧ w.heap.size ≤ M ∧ GF (fun b => N ≤ b ∧ b < M) M w' (.slice a' xs.length c') (sortL (ordT d) xs) vs))
theorem InQ.row {N d : Nat} {xs : List (Tr (d + 1))} {a : Option Addr} {cap : Nat} {w w' : World} {e : Ending} (h : InQ N xs a cap w e w') (hN : N ≤ w.heap.size) (hx : Row1At (fun b => N ≤ b ∧ b < w.heap.size) w (TreeG (fun b => N ≤ b ∧ b < w.heap.size) w (d + 1)) (.slice a xs.length cap) xs) (hc : xs.length ≤ cap) (hl : xs.length ≤ 1000) :
    ∃ a' c', e = .returned (.slice a' xs.length c') ∧ xs.length ≤ c' ∧ Row1At (fun b => N ≤ b ∧ b < w'.heap.size) w' (TreeG (fun b => N ≤ b ∧ b < w'.heap.size) w' (d + 1)) (.slice a' (sortL (ordT (d + 1)) xs).length c') (sortL (ordT (d + 1)) xs) := by
  rcases h.2 with ⟨h2, rfl, rfl⟩ | ⟨h2, a', c', vs, M, rfl, hM, hg⟩
  · refine ⟨a, cap, rfl, hc, ?_⟩
    rw [sort_few h2]
    exact hx
  · refine ⟨a', c', rfl, hg.cap, ?_⟩
    rw [sort_len]
    have hlt : M ≤ w'.heap.size ∨ xs.length = 0 := by
      rcases hg.1.2 with ⟨_, h0⟩ | ⟨g, cp, cur, _, hgM, hh, _⟩
      · exact Or.inr (by rw [sort_len] at h0; exact h0)
      · exact Or.inl (by have := (Array.getElem?_eq_some_iff.1 hh).1; omega)
    have hMw : M ≤ w'.heap.size := by omega
    have hr := hg.row (M := N) (by rw [sort_len]; exact hl) (by omega) (fun b hb => ⟨hb.1, by have := hb.2; omega⟩)
    exact hr
theorem half_div (n : Nat) : (n : Int).tdiv 2 = ((n / 2 : Nat) : Int) := by
  rw [Int.tdiv_eq_ediv_of_nonneg (by omega)]
  omega

set_option maxRecDepth 100000 in
set_option maxHeartbeats 8000000 in
theorem inOrder_any (d N : Nat) : ∀ (k : Nat) (xs : List (Tr (d + 1))) (a : Option Addr) (cap : Nat) (w : World), xs.length ≤ k → N ≤ w.heap.size → Row1At (fun b => N ≤ b ∧ b < w.heap.size) w (TreeG (fun b => N ≤ b ∧ b < w.heap.size) w (d + 1)) (.slice a xs.length cap) xs → xs.length ≤ cap → xs.length ≤ 1000 → (∀ x ∈ xs, (nodes (d + 1) x : Int) ≤ 4194304) →
    Calls Tryz.prog 63 #[.slice a xs.length cap, .func (.func 64) #[] #[]] w (InQ N xs a cap w) := by
  intro k
  induction k with
  | zero =>
    intro xs a cap w hk hN hx hc hl hnd
    have h2 : xs.length < 2 := by omega
    have h2i : (xs.length : Int) < 2 := by omega
    have HX := hide hx
    clear hx
    go_enter Tryz.func63, Tryz.ntmps63
    go_wp2_with fail
    go_ret
    exact ⟨Below.refl _ _, Or.inl ⟨h2, rfl, rfl⟩⟩
  | succ k ih =>
    intro xs a cap w hk hN hx hc hl hnd
    by_cases h2 : xs.length < 2
    · have h2i : (xs.length : Int) < 2 := by omega
      clear hx hnd ih
      go_enter Tryz.func63, Tryz.ntmps63
      go_wp2_with fail
      go_ret
      exact ⟨Below.refl _ _, Or.inl ⟨h2, rfl, rfl⟩⟩
    · have h2i : ¬ (xs.length : Int) < 2 := by omega
      have hdv := half_div xs.length
      obtain ⟨m, hm⟩ : ∃ m, m = xs.length / 2 := ⟨_, rfl⟩
      rw [← hm] at hdv
      have hm1 : m + 1 ≤ xs.length := by omega
      have hm2 : 1 ≤ m := by omega
      have hcm : ¬ cap = m := by omega
      have hmi1 : (m : Int) ≤ (cap : Int) := by omega
      have hmi2 : (m : Int) ≤ (xs.length : Int) := by omega
      have hmi3 : m ≤ cap := by omega
      have hmi4 : m ≤ xs.length := by omega
      have hmi5 : (0 : Int) ≤ (m : Int) := by omega
      have hmi6 : (xs.length : Int) ≤ (cap : Int) := by omega
      have hmi7 : ¬ (m : Int) < 0 := by omega
      obtain ⟨b, o, ha⟩ : ∃ b o, a = some ⟨b, o, none⟩ := by
        cases xs with
        | nil => simp at hm1
        | cons x r =>
          obtain ⟨b, o, _, ha, _⟩ := hx.first
          exact ⟨b, o, ha⟩
      subst ha
      have hyl : (xs.take m).length = m := by rw [List.length_take]; omega
      have hzl : (xs.drop m).length = xs.length - m := List.length_drop
      have hS0 : Within (fun b => N ≤ b ∧ b < w.heap.size) w := fun b hb => hb.2
      have hmv : ∀ (W : World) (v : Value) (zs : List (Tr (d + 1))), Below w.heap.size w W → Row1At (fun b => N ≤ b ∧ b < w.heap.size) w (TreeG (fun b => N ≤ b ∧ b < w.heap.size) w (d + 1)) v zs → Row1At (fun b => N ≤ b ∧ b < W.heap.size) W (TreeG (fun b => N ≤ b ∧ b < W.heap.size) W (d + 1)) v zs := fun W v zs hW h => by
        have hz := hW.size
        exact h.moved (hS0.same hW) (fun b hb => ⟨hb.1, by have := hb.2; omega⟩) (fun x u hx => TreeG.moved (hS0.same hW) (fun b hb => ⟨hb.1, by have := hb.2; omega⟩) (d + 1) x u hx)
      have hr1 : Row1At (fun b => N ≤ b ∧ b < w.heap.size) w (TreeG (fun b => N ≤ b ∧ b < w.heap.size) w (d + 1)) (.slice (some ⟨b, o, none⟩) (xs.take m).length cap) (xs.take m) := by
        have h := hx.cut (p := 0) (q := m) cap (Nat.zero_le _) (by omega)
        rw [Nat.add_zero o, Nat.sub_zero, List.drop_zero] at h
        rw [hyl]
        exact h
      have hr2 : Row1At (fun b => N ≤ b ∧ b < w.heap.size) w (TreeG (fun b => N ≤ b ∧ b < w.heap.size) w (d + 1)) (.slice (some ⟨b, o + m, none⟩) (xs.drop m).length (cap - m)) (xs.drop m) := by
        have h := hx.cut (p := m) (q := xs.length) (cap - m) (by omega) (Nat.le_refl _)
        rw [List.take_of_length_le (by rw [List.length_drop]; exact Nat.le_refl _)] at h
        rw [hzl]
        exact h
      have hDr : Below w.heap.size w w.drew := ⟨rfl, rfl, rfl, Nat.le_refl _, fun _ _ => rfl⟩
      have HI1 : Hid (∀ W, Below w.heap.size w W → Calls Tryz.prog 63 #[.slice (some ⟨b, o, none⟩) m cap, .func (.func 64) #[] #[]] W fun e w' => Below W.heap.size W w' ∧ ∃ a' c', e = .returned (.slice a' m c') ∧ (xs.take m).length ≤ c' ∧ Row1At (fun b => N ≤ b ∧ b < w'.heap.size) w' (TreeG (fun b => N ≤ b ∧ b < w'.heap.size) w' (d + 1)) (.slice a' (sortL (ordT (d + 1)) (xs.take m)).length c') (sortL (ordT (d + 1)) (xs.take m))) := by
        intro W hW
        have hz := hW.size
        have h := ih (xs.take m) (some ⟨b, o, none⟩) cap W (by omega) (by omega) (hmv W _ _ hW hr1) (by omega) (by omega) (fun x hx => hnd x (List.mem_of_mem_take hx))
        rw [hyl] at h
        refine h.mono (fun e w' hq => ⟨hq.1, ?_⟩)
        obtain ⟨a', c', e1, e2, e3⟩ := hq.row (by omega) (hmv W _ _ hW hr1) (by omega) (by omega)
        rw [hyl] at e1
        exact ⟨a', c', e1, e2, e3⟩
      have HI2 : Hid (∀ W, Below w.heap.size w W → Calls Tryz.prog 63 #[.slice (some ⟨b, o + m, none⟩) (xs.length - m) (cap - m), .func (.func 64) #[] #[]] W fun e w' => Below W.heap.size W w' ∧ ∃ a' c', e = .returned (.slice a' (xs.length - m) c') ∧ (xs.drop m).length ≤ c' ∧ Row1At (fun b => N ≤ b ∧ b < w'.heap.size) w' (TreeG (fun b => N ≤ b ∧ b < w'.heap.size) w' (d + 1)) (.slice a' (sortL (ordT (d + 1)) (xs.drop m)).length c') (sortL (ordT (d + 1)) (xs.drop m))) := by
        intro W hW
        have hz := hW.size
        have h := ih (xs.drop m) (some ⟨b, o + m, none⟩) (cap - m) W (by omega) (by omega) (hmv W _ _ hW hr2) (by omega) (by omega) (fun x hx => hnd x (List.mem_of_mem_drop hx))
        rw [hzl] at h
        refine h.mono (fun e w' hq => ⟨hq.1, ?_⟩)
        obtain ⟨a', c', e1, e2, e3⟩ := hq.row (by omega) (hmv W _ _ hW hr2) (by omega) (by omega)
        rw [hzl] at e1
        exact ⟨a', c', e1, e2, e3⟩
      have HMG : Hid (∀ (W wA : World) (a1 a2 : Option Addr) (c1 c2 : Nat), Below w.heap.size w wA → Below wA.heap.size wA W → (xs.take m).length ≤ c1 → Row1At (fun b => N ≤ b ∧ b < wA.heap.size) wA (TreeG (fun b => N ≤ b ∧ b < wA.heap.size) wA (d + 1)) (.slice a1 (sortL (ordT (d + 1)) (xs.take m)).length c1) (sortL (ordT (d + 1)) (xs.take m)) → (xs.drop m).length ≤ c2 → Row1At (fun b => N ≤ b ∧ b < W.heap.size) W (TreeG (fun b => N ≤ b ∧ b < W.heap.size) W (d + 1)) (.slice a2 (sortL (ordT (d + 1)) (xs.drop m)).length c2) (sortL (ordT (d + 1)) (xs.drop m)) →
          Calls Tryz.prog 90 #[.slice a1 m c1, .slice a2 (xs.length - m) c2, .func (.func 64) #[] #[]] W fun e w' => ∃ sv vs M, e = .returned sv ∧ GF (fun b => N ≤ b ∧ b < M) M w' sv (sortL (ordT (d + 1)) xs) vs ∧ Below W.heap.size W w' ∧ W.heap.size ≤ M) := by
        intro W wA a1 a2 c1 c2 hA hW g1 q1 g2 q2
        have hzA := hA.size
        have hzW := hW.size
        have hSA : Within (fun b => N ≤ b ∧ b < wA.heap.size) wA := fun b hb => hb.2
        have q1' := q1.moved (S' := fun b => N ≤ b ∧ b < W.heap.size) (At' := TreeG (fun b => N ≤ b ∧ b < W.heap.size) W (d + 1)) (hSA.same hW) (fun b hb => ⟨hb.1, by have := hb.2; omega⟩) (fun x u hx => TreeG.moved (hSA.same hW) (fun b hb => ⟨hb.1, by have := hb.2; omega⟩) (d + 1) x u hx)
        have e1 : (sortL (ordT (d + 1)) (xs.take m)).length = m := by rw [sort_len, hyl]
        have e2 : (sortL (ordT (d + 1)) (xs.drop m)).length = xs.length - m := by rw [sort_len, hzl]
        have h := merged_any d N W _ rfl (sortL (ordT (d + 1)) (xs.take m)) (sortL (ordT (d + 1)) (xs.drop m)) a1 a2 c1 c2 (by omega) q1' q2 (by rw [e1]; omega) (by rw [e2]; omega) (by rw [e1, e2]; omega) (fun x hx => hnd x (by
          rcases List.mem_append.1 hx with hx | hx
          · exact List.mem_of_mem_take (sort_mem.1 hx)
          · exact List.mem_of_mem_drop (sort_mem.1 hx))) (sortL_ord (ord_T (d + 1)) _) (sortL_ord (ord_T (d + 1)) _)
        rw [e1, e2, sort_halves, List.take_append_drop] at h
        exact h
      clear hm hx hnd ih hr1 hr2 hmv hS0 hyl hzl
      go_enter Tryz.func63, Tryz.ntmps63
      go_upto_region 4 with fail
      have htr : True := trivial
      go_region_held3 (fun _ => True)
        (exact trivial)
        (first
          | (go_at_call 63; have hseen := HA; clear hseen; refine (HI2.out _ HA.out).mono ?_; rintro eB wB ⟨hbB, a2, c2, rfl, g2, q2⟩; have HB := hide hbB; have bB := below_trans HA.out hbB; have HQ2 := hide (And.intro g2 q2); clear hbB g2 q2)
          | (go_at_call 63; refine (HI1.out _ hDr).mono ?_; rintro eA wA ⟨hbA, a1, c1, rfl, g1, q1⟩; have HA := hide (below_trans hDr hbA); have HQ1 := hide (And.intro g1 q1); clear hbA g1 q1)
          | (go_at_call 90; refine (HMG.out _ _ _ _ _ _ HA.out HB.out HQ1.out.1 HQ1.out.2 HQ2.out.1 HQ2.out.2).mono ?_; rintro eC wC ⟨sv, vs, M, rfl, hg, hbC, hM⟩; have HC := hide (below_trans bB hbC); have HG := hide hg; clear hg hbC))
      all_goals
        obtain ⟨a3, c3, rfl⟩ := HG.out.slice
        have hGG := HG.out
        rw [sort_len] at hGG
        have hsz := bB.size
        have h22 : 2 ≤ xs.length := by omega
        have hwM : w.heap.size ≤ M := by omega
        have HF := hide hGG
        have hls := sort_len (ordT (d + 1)) xs
        rw [hls]
        clear hGG HG HA HB HQ1 HQ2 HI1 HI2 HMG hls
        go_wp2_with fail
        go_ret
        exact ⟨HC.out, Or.inr ⟨h22, a3, c3, vs, M, rfl, hwM, HF.out⟩⟩
end Go.Proofs.YtilgbnnjecpneaaGreatDoor

/- ofRow of the program, at sortedRow. -/
namespace Go.Proofs.YtilgbnnjecpneaaGreatDoor
open Go.RowKit Go.Deep

set_option maxRecDepth 100000 in
set_option maxHeartbeats 2000000 in
theorem ofRow_sortedRow (d e : Nat) (S : Nat → Prop) (t : Tr (d + 1)) (v : Value) (f : List (Tr d) → Option (Tr (e + 1))) (w : World) (hv : ValAt S w (d + 1) t v) (hS : Within S w) (hg : ErrType w)
    (H : Hid (∀ (N : Nat) (xs : List (Tr d)) (a : Option Addr) (cap : Nat) (vs : List Value) (w1 : World), treesL d t = some xs → GTo N w1 (.slice a xs.length cap) xs vs → w.heap.size ≤ N → N ≤ w1.heap.size → ErrType w1 → Calls Tryz.prog 39 #[.slice a xs.length cap] w1 (TellF e N (f xs) w1))) :
    Calls Tryz.prog 38 #[v, .func (.func 39) #[] #[]] w (TellQ e (rowTell f t).1 (rowTell f t).2 w) := by
  obtain ⟨k, n, s, ak, lk, ck, al, ll, cl, rfl⟩ := hv.shape
  obtain ⟨W0, hW⟩ : ∃ W0, W0 = (w.alloc (.cells #[.int .i64 k, .int .i64 n, .string s, .slice ak lk ck, .slice al ll cl] 29)).alloc (.cells #[.int .i64 0, .int .i64 0, .string { data := #[] }, .slice none 0 0, .slice none 0 0] 29) := ⟨_, rfl⟩
  have hW0 : Below w.heap.size w W0 := by rw [hW]; exact below_trans (below_alloc1 _ _) (below_alloc1 _ _)
  have k1 : Blk5 W0 (w.heap.size + 1) 29 (.int .i64 0) (.int .i64 0) (.string { data := #[] }) (.slice none 0 0) (.slice none 0 0) := by
    have := Blk5.new (w.alloc (.cells #[.int .i64 k, .int .i64 n, .string s, .slice ak lk ck, .slice al ll cl] 29)) 29 (.int .i64 0) (.int .i64 0) (.string { data := #[] }) (.slice none 0 0) (.slice none 0 0)
    rw [World.size_alloc] at this
    rw [hW]
    exact this
  have HW := hide hW
  clear hW
  go_enter Tryz.func38, Tryz.ntmps38
  go_wp2_with fail
  rw [← HW.out]
  clear HW
  refine (treesInRow_own d S t _ W0 (hv.same (hS.same hW0)) (hS.later hW0.size)).mono ?_
  rintro en w1 ⟨hb1, hq⟩
  have hB1 := below_trans hW0 hb1
  have k2 := k1.below hb1
  have hg1 := hg.below hB1
  have hl1 := k1.lt
  have hs0 := hW0.size
  have hs1 := hb1.size
  clear hv
  -- what is told, however it is
  have hfin : ∀ (w1' : World), Below W0.heap.size w1 w1' → ∀ (x : Tr (e + 1)) (ok : Bool), Hid (∀ en w2, TellQ e x ok w1' en w2 → ∃ v0 v1 v2 v3 v4 v5 v6 v7 v8, en = .returned (.tuple #[.agg #[.int .i64 v0, .int .i64 v1, .string v2, .slice v3 v4 v5, .slice v6 v7 v8], .bool ok]) ∧
      Blk5 w2 (w.heap.size + 1) 29 (.int .i64 0) (.int .i64 0) (.string { data := #[] }) (.slice none 0 0) (.slice none 0 0) ∧
      ∀ wF, wF = set5 w2 (w.heap.size + 1) 0 (.int .i64 v0) (.int .i64 v1) (.string v2) (.slice v3 v4 v5) (.slice v6 v7 v8) → ValOwn wF (e + 1) (Fresh w wF) x (.agg #[.int .i64 v0, .int .i64 v1, .string v2, .slice v3 v4 v5, .slice v6 v7 v8]) ∧ Below w.heap.size w wF) := fun w1' hb' x ok => by
    intro en w2 ⟨v, he, hv, hb2⟩
    obtain ⟨v0, v1, v2, v3, v4, v5, v6, v7, v8, rfl⟩ := (ValOwn.at _ _ _ _ hv).shape
    have hs' := hb'.size
    exact ⟨v0, v1, v2, v3, v4, v5, v6, v7, v8, he, (k2.of_block (hb'.block _ hl1)).below hb2, tell_end hv (below_trans (hB1.trans (hb'.mono hs0)) hb2) (by omega) (by omega)⟩
  clear hW0 k1 hb1
  rcases hq with ⟨xs, xa, xc, vs, hrow, rfl, hto⟩ | ⟨hrow, why, rfl⟩
  · have hcall := hide (H.out W0.heap.size xs xa xc vs w1 hrow hto hs0 hs1 hg1)
    have HR := hide hrow
    clear hto H hrow
    go_wp2_with fail
    refine Calls.mono hcall.out ?_
    rintro en w2 ⟨hb2, hq⟩
    clear hcall
    have hz2 := hb2.size
    have h00 : 0 < W0.heap.size := Nat.lt_of_lt_of_le hg.lt hs0
    have hg2 : ErrType w2 := (hb2.cell (p := ⟨0, 0, none⟩) h00).trans hg1
    rcases hq with ⟨x, u, hx, rfl, hu⟩ | ⟨hx, why, rfl⟩
    · obtain ⟨T, u', rfl⟩ := hu.iface
      have hT := hide (rowTell_some HR.out hx)
      have hcall := hide (told_tree e _ x _ w2 hu (fun b hb => hb.2))
      clear hx hu
      go_wp2_with fail
      refine Calls.mono hcall.out ?_
      intro en w3 hq
      obtain ⟨v0, v1, v2, v3, v4, v5, v6, v7, v8, rfl, k3, hF⟩ := (hfin w2 hb2 _ _).out en w3 hq
      have HF := hide hF
      obtain ⟨y0, y1, y2, y3, y4⟩ := k3.cell
      have yf := k3.frozen
      clear hF hq hfin hcall k3
      go_wp2_with fail
      refine bodyPost_ret (v := .tuple #[.agg #[.int .i64 v0, .int .i64 v1, .string v2, .slice v3 v4 v5, .slice v6 v7 v8], .bool (okT (e + 1) x)]) (by simp [results, Tryz.results38, go_sem, y0, y1, y2, y3, y4]) rfl ⟨_, by rw [hT.out], by rw [hT.out]; exact (HF.out _ rfl).1, (HF.out _ rfl).2⟩
    · have hT := hide (rowTell_fault HR.out hx)
      have hcall := hide (told_fault e .nilIface why w2 hg2)
      unfold faultV
      clear hx
      go_wp2_with fail
      refine Calls.mono hcall.out ?_
      intro en w3 hq
      obtain ⟨v0, v1, v2, v3, v4, v5, v6, v7, v8, rfl, k3, hF⟩ := (hfin w2 hb2 _ _).out en w3 hq
      have HF := hide hF
      obtain ⟨y0, y1, y2, y3, y4⟩ := k3.cell
      have yf := k3.frozen
      clear hF hq hfin hcall k3
      go_wp2_with fail
      refine bodyPost_ret (v := .tuple #[.agg #[.int .i64 v0, .int .i64 v1, .string v2, .slice v3 v4 v5, .slice v6 v7 v8], .bool false]) (by simp [results, Tryz.results38, go_sem, y0, y1, y2, y3, y4]) rfl ⟨_, by rw [hT.out], by rw [hT.out]; exact (HF.out _ rfl).1, (HF.out _ rfl).2⟩
  · have hT := hide (rowTell_none (f := f) hrow)
    have hcall := hide (told_fault e .nilIface why w1 hg1)
    unfold faultV
    clear hrow H
    go_wp2_with fail
    refine Calls.mono hcall.out ?_
    intro en w2 hq
    obtain ⟨v0, v1, v2, v3, v4, v5, v6, v7, v8, rfl, k3, hF⟩ := (hfin w1 (Below.refl _ _) _ _).out en w2 hq
    have HF := hide hF
    obtain ⟨y0, y1, y2, y3, y4⟩ := k3.cell
    have yf := k3.frozen
    clear hF hq hfin hcall k3
    go_wp2_with fail
    refine bodyPost_ret (v := .tuple #[.agg #[.int .i64 v0, .int .i64 v1, .string v2, .slice v3 v4 v5, .slice v6 v7 v8], .bool false]) (by simp [results, Tryz.results38, go_sem, y0, y1, y2, y3, y4]) rfl ⟨_, by rw [hT.out], by rw [hT.out]; exact (HF.out _ rfl).1, (HF.out _ rfl).2⟩
end Go.Proofs.YtilgbnnjecpneaaGreatDoor

/- ofRow of the program, at leastOfRow. -/
namespace Go.Proofs.YtilgbnnjecpneaaGreatDoor
open Go.RowKit Go.Deep

set_option maxRecDepth 100000 in
set_option maxHeartbeats 2000000 in
theorem ofRow_leastOfRow (d e : Nat) (S : Nat → Prop) (t : Tr (d + 1)) (v : Value) (f : List (Tr d) → Option (Tr (e + 1))) (w : World) (hv : ValAt S w (d + 1) t v) (hS : Within S w) (hg : ErrType w)
    (H : Hid (∀ (N : Nat) (xs : List (Tr d)) (a : Option Addr) (cap : Nat) (vs : List Value) (w1 : World), treesL d t = some xs → GTo N w1 (.slice a xs.length cap) xs vs → w.heap.size ≤ N → N ≤ w1.heap.size → ErrType w1 → Calls Tryz.prog 48 #[.slice a xs.length cap] w1 (TellF e N (f xs) w1))) :
    Calls Tryz.prog 38 #[v, .func (.func 48) #[] #[]] w (TellQ e (rowTell f t).1 (rowTell f t).2 w) := by
  obtain ⟨k, n, s, ak, lk, ck, al, ll, cl, rfl⟩ := hv.shape
  obtain ⟨W0, hW⟩ : ∃ W0, W0 = (w.alloc (.cells #[.int .i64 k, .int .i64 n, .string s, .slice ak lk ck, .slice al ll cl] 29)).alloc (.cells #[.int .i64 0, .int .i64 0, .string { data := #[] }, .slice none 0 0, .slice none 0 0] 29) := ⟨_, rfl⟩
  have hW0 : Below w.heap.size w W0 := by rw [hW]; exact below_trans (below_alloc1 _ _) (below_alloc1 _ _)
  have k1 : Blk5 W0 (w.heap.size + 1) 29 (.int .i64 0) (.int .i64 0) (.string { data := #[] }) (.slice none 0 0) (.slice none 0 0) := by
    have := Blk5.new (w.alloc (.cells #[.int .i64 k, .int .i64 n, .string s, .slice ak lk ck, .slice al ll cl] 29)) 29 (.int .i64 0) (.int .i64 0) (.string { data := #[] }) (.slice none 0 0) (.slice none 0 0)
    rw [World.size_alloc] at this
    rw [hW]
    exact this
  have HW := hide hW
  clear hW
  go_enter Tryz.func38, Tryz.ntmps38
  go_wp2_with fail
  rw [← HW.out]
  clear HW
  refine (treesInRow_own d S t _ W0 (hv.same (hS.same hW0)) (hS.later hW0.size)).mono ?_
  rintro en w1 ⟨hb1, hq⟩
  have hB1 := below_trans hW0 hb1
  have k2 := k1.below hb1
  have hg1 := hg.below hB1
  have hl1 := k1.lt
  have hs0 := hW0.size
  have hs1 := hb1.size
  clear hv
  -- what is told, however it is
  have hfin : ∀ (w1' : World), Below W0.heap.size w1 w1' → ∀ (x : Tr (e + 1)) (ok : Bool), Hid (∀ en w2, TellQ e x ok w1' en w2 → ∃ v0 v1 v2 v3 v4 v5 v6 v7 v8, en = .returned (.tuple #[.agg #[.int .i64 v0, .int .i64 v1, .string v2, .slice v3 v4 v5, .slice v6 v7 v8], .bool ok]) ∧
      Blk5 w2 (w.heap.size + 1) 29 (.int .i64 0) (.int .i64 0) (.string { data := #[] }) (.slice none 0 0) (.slice none 0 0) ∧
      ∀ wF, wF = set5 w2 (w.heap.size + 1) 0 (.int .i64 v0) (.int .i64 v1) (.string v2) (.slice v3 v4 v5) (.slice v6 v7 v8) → ValOwn wF (e + 1) (Fresh w wF) x (.agg #[.int .i64 v0, .int .i64 v1, .string v2, .slice v3 v4 v5, .slice v6 v7 v8]) ∧ Below w.heap.size w wF) := fun w1' hb' x ok => by
    intro en w2 ⟨v, he, hv, hb2⟩
    obtain ⟨v0, v1, v2, v3, v4, v5, v6, v7, v8, rfl⟩ := (ValOwn.at _ _ _ _ hv).shape
    have hs' := hb'.size
    exact ⟨v0, v1, v2, v3, v4, v5, v6, v7, v8, he, (k2.of_block (hb'.block _ hl1)).below hb2, tell_end hv (below_trans (hB1.trans (hb'.mono hs0)) hb2) (by omega) (by omega)⟩
  clear hW0 k1 hb1
  rcases hq with ⟨xs, xa, xc, vs, hrow, rfl, hto⟩ | ⟨hrow, why, rfl⟩
  · have hcall := hide (H.out W0.heap.size xs xa xc vs w1 hrow hto hs0 hs1 hg1)
    have HR := hide hrow
    clear hto H hrow
    go_wp2_with fail
    refine Calls.mono hcall.out ?_
    rintro en w2 ⟨hb2, hq⟩
    clear hcall
    have hz2 := hb2.size
    have h00 : 0 < W0.heap.size := Nat.lt_of_lt_of_le hg.lt hs0
    have hg2 : ErrType w2 := (hb2.cell (p := ⟨0, 0, none⟩) h00).trans hg1
    rcases hq with ⟨x, u, hx, rfl, hu⟩ | ⟨hx, why, rfl⟩
    · obtain ⟨T, u', rfl⟩ := hu.iface
      have hT := hide (rowTell_some HR.out hx)
      have hcall := hide (told_tree e _ x _ w2 hu (fun b hb => hb.2))
      clear hx hu
      go_wp2_with fail
      refine Calls.mono hcall.out ?_
      intro en w3 hq
      obtain ⟨v0, v1, v2, v3, v4, v5, v6, v7, v8, rfl, k3, hF⟩ := (hfin w2 hb2 _ _).out en w3 hq
      have HF := hide hF
      obtain ⟨y0, y1, y2, y3, y4⟩ := k3.cell
      have yf := k3.frozen
      clear hF hq hfin hcall k3
      go_wp2_with fail
      refine bodyPost_ret (v := .tuple #[.agg #[.int .i64 v0, .int .i64 v1, .string v2, .slice v3 v4 v5, .slice v6 v7 v8], .bool (okT (e + 1) x)]) (by simp [results, Tryz.results38, go_sem, y0, y1, y2, y3, y4]) rfl ⟨_, by rw [hT.out], by rw [hT.out]; exact (HF.out _ rfl).1, (HF.out _ rfl).2⟩
    · have hT := hide (rowTell_fault HR.out hx)
      have hcall := hide (told_fault e .nilIface why w2 hg2)
      unfold faultV
      clear hx
      go_wp2_with fail
      refine Calls.mono hcall.out ?_
      intro en w3 hq
      obtain ⟨v0, v1, v2, v3, v4, v5, v6, v7, v8, rfl, k3, hF⟩ := (hfin w2 hb2 _ _).out en w3 hq
      have HF := hide hF
      obtain ⟨y0, y1, y2, y3, y4⟩ := k3.cell
      have yf := k3.frozen
      clear hF hq hfin hcall k3
      go_wp2_with fail
      refine bodyPost_ret (v := .tuple #[.agg #[.int .i64 v0, .int .i64 v1, .string v2, .slice v3 v4 v5, .slice v6 v7 v8], .bool false]) (by simp [results, Tryz.results38, go_sem, y0, y1, y2, y3, y4]) rfl ⟨_, by rw [hT.out], by rw [hT.out]; exact (HF.out _ rfl).1, (HF.out _ rfl).2⟩
  · have hT := hide (rowTell_none (f := f) hrow)
    have hcall := hide (told_fault e .nilIface why w1 hg1)
    unfold faultV
    clear hrow H
    go_wp2_with fail
    refine Calls.mono hcall.out ?_
    intro en w2 hq
    obtain ⟨v0, v1, v2, v3, v4, v5, v6, v7, v8, rfl, k3, hF⟩ := (hfin w1 (Below.refl _ _) _ _).out en w2 hq
    have HF := hide hF
    obtain ⟨y0, y1, y2, y3, y4⟩ := k3.cell
    have yf := k3.frozen
    clear hF hq hfin hcall k3
    go_wp2_with fail
    refine bodyPost_ret (v := .tuple #[.agg #[.int .i64 v0, .int .i64 v1, .string v2, .slice v3 v4 v5, .slice v6 v7 v8], .bool false]) (by simp [results, Tryz.results38, go_sem, y0, y1, y2, y3, y4]) rfl ⟨_, by rw [hT.out], by rw [hT.out]; exact (HF.out _ rfl).1, (HF.out _ rfl).2⟩
end Go.Proofs.YtilgbnnjecpneaaGreatDoor

/- RowSort, RowLeast of the program. -/
namespace Go.Proofs.YtilgbnnjecpneaaGreatDoor
open Go.RowKit Go.Deep

theorem GTo.cap {d N n c : Nat} {w : World} {a : Option Addr} {xs : List (Tr d)} {vs : List Value} (h : GTo N w (.slice a n c) xs vs) : n ≤ c := by
  rcases h.1.2 with ⟨e, h0⟩ | ⟨g, cap, cur, e, _, _, hn, _⟩
  · cases e; omega
  · cases e; exact hn
set_option maxRecDepth 100000 in
set_option maxHeartbeats 2000000 in
theorem sortedRow_any (d N : Nat) (xs : List (Tr (d + 1))) (a : Option Addr) (cap : Nat) (vs : List Value) (w : World) (hto : GTo N w (.slice a xs.length cap) xs vs) (hN : N ≤ w.heap.size) (hl : xs.length ≤ 60) (hnd : ∀ x ∈ xs, (nodes (d + 1) x : Int) ≤ 4194304) :
    Calls Tryz.prog 39 #[.slice a xs.length cap] w (TellF (d + 1) N (sortF (d + 1) xs) w) := by
  have hrow := hto.row (by omega)
  have hc := hto.cap
  have hcall := hide (inOrder_any d N xs.length xs a cap w (Nat.le_refl _) hN hrow hc (by omega) hnd)
  have HR := hide hrow
  clear hto hrow hnd
  go_enter Tryz.func39, Tryz.ntmps39
  go_wp2_with fail
  refine Calls.mono hcall.out ?_
  rintro e w2 hq
  obtain ⟨a2, c2, rfl, hc2, hr2⟩ := hq.row hN HR.out hc (by omega)
  have HB := hide (hq.1.mono hN)
  have HT : Hid (TreeG (fun b => N ≤ b ∧ b < w2.heap.size) w2 (d + 1 + 1) (rowT (d + 1) (sortL (ordT (d + 1)) xs)) (.iface 80 (.agg #[.slice a2 xs.length c2]))) := by
    have h := hr2
    have e := sort_len (ordT (d + 1)) xs
    rw [e] at h
    exact Or.inr (Or.inr (Or.inr (Or.inl ⟨_, _, by rw [e]; omega, rfl, rfl, h⟩)))
  clear hq hr2 hcall HR
  go_wp2_with fail
  go_ret2
  exact ⟨HB.out, Or.inl ⟨_, _, rfl, rfl, HT.out⟩⟩
set_option maxRecDepth 100000 in
set_option maxHeartbeats 2000000 in
theorem leastOfRow_any (d N : Nat) (xs : List (Tr (d + 1))) (a : Option Addr) (cap : Nat) (vs : List Value) (w : World) (hto : GTo N w (.slice a xs.length cap) xs vs) (hN : N ≤ w.heap.size) (hl : xs.length ≤ 60) (hnd : ∀ x ∈ xs, (nodes (d + 1) x : Int) ≤ 4194304) :
    Calls Tryz.prog 48 #[.slice a xs.length cap] w (TellF d N (leastF d xs) w) := by
  have hrow := hto.row (by omega)
  have hc := hto.cap
  have hcall := hide (inOrder_any d N xs.length xs a cap w (Nat.le_refl _) hN hrow hc (by omega) hnd)
  have HR := hide hrow
  clear hto hrow hnd
  by_cases h0 : xs.length = 0
  · have hx := hide (List.eq_nil_of_length_eq_zero h0)
    rw [h0]
    clear hcall HR hc hl
    go_enter Tryz.func48, Tryz.ntmps48
    go_wp2_with fail
    go_ret2
    exact ⟨Below.refl _ _, Or.inl ⟨zeroT d, _, by rw [hx.out]; rfl, rfl, Or.inl ⟨0, by omega, rfl, rfl⟩⟩⟩
  · have h0b : ((xs.length : Int) == 0) = false := beq_false_of_ne (by omega)
    have h0p : (0 : Int) < (xs.length : Int) := by omega
    have h0n : 0 < xs.length := by omega
    go_enter Tryz.func48, Tryz.ntmps48
    go_wp2_with fail
    refine Calls.mono hcall.out ?_
    rintro e w2 hq
    obtain ⟨a2, c2, rfl, hc2, hr2⟩ := hq.row hN HR.out hc (by omega)
    have HB := hide (hq.1.mono hN)
    obtain ⟨x, r, hs⟩ : ∃ x r, sortL (ordT (d + 1)) xs = x :: r := by
      have e := sort_len (ordT (d + 1)) xs
      cases hz : sortL (ordT (d + 1)) xs with
      | nil => rw [hz] at e; simp at e; omega
      | cons x r => exact ⟨x, r, rfl⟩
    rw [hs] at hr2
    obtain ⟨b, o, u, rfl, hB, e0, hu⟩ := hr2.first
    have HL := hide (least_cons hs)
    have HU := hide hu
    obtain ⟨T, u', rfl⟩ := hu.iface
    clear hq hr2 hcall HR hs hu hB
    go_wp2_with fail
    go_ret2
    exact ⟨HB.out, Or.inl ⟨x, _, HL.out, rfl, HU.out⟩⟩

set_option maxRecDepth 100000 in
set_option maxHeartbeats 2000000 in
theorem implRowSort_any (d : Nat) (S : Nat → Prop) (t : Tr (d + 1 + 1)) (v : Value) (w : World) (hv : ValAt S w (d + 1 + 1) t v) (hS : Within S w) (hg : ErrType w) :
    Calls Tryz.prog 12 #[v] w (TellQ (d + 1) (rowTell (sortF (d + 1)) t).1 (rowTell (sortF (d + 1)) t).2 w) := by
  obtain ⟨k, n, s, ak, lk, ck, al, ll, cl, rfl⟩ := hv.shape
  obtain ⟨W0, hW⟩ : ∃ W0, W0 = (w.alloc (.cells #[.int .i64 k, .int .i64 n, .string s, .slice ak lk ck, .slice al ll cl] 29)).alloc (.cells #[.int .i64 0, .int .i64 0, .string { data := #[] }, .slice none 0 0, .slice none 0 0] 29) := ⟨_, rfl⟩
  have hW0 : Below w.heap.size w W0 := by rw [hW]; exact below_trans (below_alloc1 _ _) (below_alloc1 _ _)
  have k1 : Blk5 W0 (w.heap.size + 1) 29 (.int .i64 0) (.int .i64 0) (.string { data := #[] }) (.slice none 0 0) (.slice none 0 0) := by
    have := Blk5.new (w.alloc (.cells #[.int .i64 k, .int .i64 n, .string s, .slice ak lk ck, .slice al ll cl] 29)) 29 (.int .i64 0) (.int .i64 0) (.string { data := #[] }) (.slice none 0 0) (.slice none 0 0)
    rw [World.size_alloc] at this
    rw [hW]
    exact this
  have hcall := hide (ofRow_sortedRow (d + 1) (d + 1) S t _ (sortF (d + 1)) W0 (hv.same (hS.same hW0)) (hS.later hW0.size) (hg.below hW0) (fun N xs a cap vs w1 hrow hto _ hN hg => by obtain ⟨hok, _, rfl⟩ := treesL_some hrow; exact sortedRow_any d N _ a cap vs w1 hto hN (okT_kinds hok).2.1 (fun x hx => by have h := nodes_ok (okT_part hok hx); omega)))
  have HW := hide hW
  have hlt := k1.lt
  clear hW hv
  go_enter Tryz.func12, Tryz.ntmps12
  go_wp2_with fail
  rw [← HW.out]
  clear HW
  refine Calls.mono hcall.out ?_
  rintro e w1 ⟨r, rfl, hr, hb1⟩
  obtain ⟨v0, v1, v2, v3, v4, v5, v6, v7, v8, rfl⟩ := (ValOwn.at _ _ _ _ hr).shape
  have HF := hide (tell_end hr (below_trans hW0 hb1) (by omega) hlt)
  have k3 := k1.below hb1
  obtain ⟨y0, y1, y2, y3, y4⟩ := k3.cell
  have yf := k3.frozen
  clear hr hb1 k3 k1 hcall hW0
  go_wp2_with fail
  refine bodyPost_ret (v := .tuple #[.agg #[.int .i64 v0, .int .i64 v1, .string v2, .slice v3 v4 v5, .slice v6 v7 v8], .bool (rowTell (sortF (d + 1)) t).2]) (by simp [results, Tryz.results12, go_sem, y0, y1, y2, y3, y4]) rfl ⟨_, rfl, (HF.out _ rfl).1, (HF.out _ rfl).2⟩
set_option maxRecDepth 100000 in
set_option maxHeartbeats 2000000 in
theorem implRowLeast_any (d : Nat) (S : Nat → Prop) (t : Tr (d + 1 + 1)) (v : Value) (w : World) (hv : ValAt S w (d + 1 + 1) t v) (hS : Within S w) (hg : ErrType w) :
    Calls Tryz.prog 19 #[v] w (TellQ (d) (rowTell (leastF d) t).1 (rowTell (leastF d) t).2 w) := by
  obtain ⟨k, n, s, ak, lk, ck, al, ll, cl, rfl⟩ := hv.shape
  obtain ⟨W0, hW⟩ : ∃ W0, W0 = (w.alloc (.cells #[.int .i64 k, .int .i64 n, .string s, .slice ak lk ck, .slice al ll cl] 29)).alloc (.cells #[.int .i64 0, .int .i64 0, .string { data := #[] }, .slice none 0 0, .slice none 0 0] 29) := ⟨_, rfl⟩
  have hW0 : Below w.heap.size w W0 := by rw [hW]; exact below_trans (below_alloc1 _ _) (below_alloc1 _ _)
  have k1 : Blk5 W0 (w.heap.size + 1) 29 (.int .i64 0) (.int .i64 0) (.string { data := #[] }) (.slice none 0 0) (.slice none 0 0) := by
    have := Blk5.new (w.alloc (.cells #[.int .i64 k, .int .i64 n, .string s, .slice ak lk ck, .slice al ll cl] 29)) 29 (.int .i64 0) (.int .i64 0) (.string { data := #[] }) (.slice none 0 0) (.slice none 0 0)
    rw [World.size_alloc] at this
    rw [hW]
    exact this
  have hcall := hide (ofRow_leastOfRow (d + 1) (d) S t _ (leastF d) W0 (hv.same (hS.same hW0)) (hS.later hW0.size) (hg.below hW0) (fun N xs a cap vs w1 hrow hto _ hN hg => by obtain ⟨hok, _, rfl⟩ := treesL_some hrow; exact leastOfRow_any d N _ a cap vs w1 hto hN (okT_kinds hok).2.1 (fun x hx => by have h := nodes_ok (okT_part hok hx); omega)))
  have HW := hide hW
  have hlt := k1.lt
  clear hW hv
  go_enter Tryz.func19, Tryz.ntmps19
  go_wp2_with fail
  rw [← HW.out]
  clear HW
  refine Calls.mono hcall.out ?_
  rintro e w1 ⟨r, rfl, hr, hb1⟩
  obtain ⟨v0, v1, v2, v3, v4, v5, v6, v7, v8, rfl⟩ := (ValOwn.at _ _ _ _ hr).shape
  have HF := hide (tell_end hr (below_trans hW0 hb1) (by omega) hlt)
  have k3 := k1.below hb1
  obtain ⟨y0, y1, y2, y3, y4⟩ := k3.cell
  have yf := k3.frozen
  clear hr hb1 k3 k1 hcall hW0
  go_wp2_with fail
  refine bodyPost_ret (v := .tuple #[.agg #[.int .i64 v0, .int .i64 v1, .string v2, .slice v3 v4 v5, .slice v6 v7 v8], .bool (rowTell (leastF d) t).2]) (by simp [results, Tryz.results19, go_sem, y0, y1, y2, y3, y4]) rfl ⟨_, rfl, (HF.out _ rfl).1, (HF.out _ rfl).2⟩
end Go.Proofs.YtilgbnnjecpneaaGreatDoor

/- toStringS, toVal, toValS once more: the copy owns its memory. -/
namespace Go.Proofs.YtilgbnnjecpneaaGreatDoor
open Go.RowKit Go.Deep

set_option maxHeartbeats 400000 in
theorem toStringS_own (S : Nat → Prop) (ss : List ByteArray) (v : Value) (w : World) (hv : StrsAt S w v ss) (hS : Within S w) :
    Calls Tryz.prog 36 #[v] w fun e w' => ∃ u, e = .returned u ∧ StrsOwn (Fresh w w') w' u ss ∧ Below w.heap.size w w' := by
  obtain ⟨a, cap, rfl, hlen⟩ := hv.open'
  have hmk := run_make_row' (P := Tryz.prog) 22 9 (.string ByteArray.empty) 16 Tryz.underlying22 Tryz.infoStr rfl .i64 .i64 ss.length (by omega) (by omega)
  have hb0 : Below w.heap.size w (w.alloc (.cells (madeCells #[.string ByteArray.empty] ss.length) 9)) := below_alloc1 _ _
  have hr0 := World.rowIs_made w (.string ByteArray.empty) ss.length 9
  go_enter Tryz.func36, Tryz.ntmps36
  go_wp2_with fail
  go_loopw [4] (fun i wr => ∃ (k : Nat), k ≤ ss.length ∧ i = .int .i64 k ∧ wr.rowIs w.heap.size 9 ss.length (strTo ss k) ∧ Below w.heap.size w wr) (fun i _ => ss.length - (intOf i).toNat)
  case atStart => exact ⟨0, Nat.zero_le _, rfl, hr0.congr (fun i _ => rfl), hb0⟩
  case round =>
    clear hb0 hr0 hmk
    obtain ⟨k, hk, rfl, hrow, hbel⟩ := hrel
    by_cases hkl : k < ss.length
    · obtain ⟨b, o, s, rfl, hb, hs, hsb, hck⟩ := (hv.same (hS.same hbel)).cell hkl
      have hc1 := hrow.cell hkl
      have hf1 := hrow.frozen k
      have hrow' := (hrow.set k (.string s)).congr (fun j _ => strTo_set ss k hs j)
      have hbel' := hbel.setCell (p := ⟨w.heap.size, k, none⟩) (Nat.le_refl _) (.string s)
      have HR := And.intro hrow' hbel'
      have HR' : Hid _ := HR
      clear hrow' hbel' HR hv hs hrow hbel
      go_wp2_with fail
      go_roundw
      case rel => exact ⟨k + 1, by omega, by go_num, HR'.out.1, HR'.out.2⟩
      case measure => simp [intOf]; omega
    · go_wp2_with fail
      go_ret
      refine ⟨_, rfl, ⟨hlen, ?_, _, _, rfl, ?_⟩, hbel⟩
      · obtain ⟨_, h2, _⟩ := hv
        exact h2
      · refine Or.inr ⟨w.heap.size, ss.length, _, ⟨Nat.le_refl _, hrow.lt⟩, rfl, Nat.le_refl _, hrow, fun i s hi => ?_⟩
        obtain ⟨hi', e⟩ := List.getElem?_eq_some_iff.1 hi
        rw [strTo, if_pos (by omega)]
        simp [hi]

/-- The first k things of a row that is being filled, each with blocks of its own. -/
structure FilledO {d : Nat} (N n : Nat) (xs : List (Tr d)) (w : World) (k : Nat) (f : Nat → Value) (P : Nat → Nat → Prop) : Prop where
  row : w.rowIs N 29 n f
  lo : ∀ j c, j < k → P j c → N < c ∧ c < w.heap.size
  dis : ∀ i j c, i < k → j < k → P i c → P j c → i = j
  val : ∀ j x, j < k → xs[j]? = some x → ValOwn w d (P j) x (.agg #[f (j * 5), f (j * 5 + 1), f (j * 5 + 2), f (j * 5 + 3), f (j * 5 + 4)])

theorem FilledO.step {d N n : Nat} {xs : List (Tr d)} {wr w1 : World} {k : Nat} {f : Nat → Value} {P : Nat → Nat → Prop} {x : Tr d} {v0 v1 v2 v3 v4 : Value} (h : FilledO N n xs wr k f P) (hb : Below wr.heap.size wr w1)
    (hx : xs[k]? = some x) (hu : ValOwn w1 d (Fresh wr w1) x (.agg #[v0, v1, v2, v3, v4])) :
    FilledO N n xs (set5 w1 N (k * 5) v0 v1 v2 v3 v4) (k + 1) (put5 f (k * 5) v0 v1 v2 v3 v4) (fun j c => if j = k then Fresh wr w1 c else P j c) := by
  obtain ⟨hrow, hlo, hdis, hv⟩ := h
  have hN := hrow.lt
  have hs2 : ∀ R : Nat → Prop, (∀ b, R b → N < b) → Same R w1 (set5 w1 N (k * 5) v0 v1 v2 v3 v4) := fun R hR b hb => set5_block _ _ _ _ _ _ _ _ _ (by have := hR b hb; omega)
  refine ⟨rowIs_set5 (hrow.of_block (hb.block N hN)) _ _ _ _ _ _, fun j c hj hc => ?_, fun i j c hi hj hci hcj => ?_, fun j y hj hy => ?_⟩
  · rw [set5_size]
    by_cases e : j = k
    · rw [if_pos e] at hc
      have := hc.1
      exact ⟨by omega, hc.2⟩
    · rw [if_neg e] at hc
      have := hlo j c (by omega) hc
      have := hb.size
      omega
  · by_cases ei : i = k
    · by_cases ej : j = k
      · omega
      · rw [if_pos ei] at hci
        rw [if_neg ej] at hcj
        have := (hlo j c (by omega) hcj).2
        have := hci.1
        omega
    · rw [if_neg ei] at hci
      by_cases ej : j = k
      · rw [if_pos ej] at hcj
        have := (hlo i c (by omega) hci).2
        have := hcj.1
        omega
      · rw [if_neg ej] at hcj
        exact hdis i j c (by omega) (by omega) hci hcj
  · by_cases e : j = k
    · subst e
      rw [hx] at hy
      cases hy
      obtain ⟨p0, p1, p2, p3, p4⟩ := put5_at f (j * 5) v0 v1 v2 v3 v4
      rw [p0, p1, p2, p3, p4]
      simp only [if_true]
      exact hu.same (hs2 _ (fun b hb => by have := hb.1; omega))
    · rw [put5_off _ _ _ _ _ _ _ _ (by omega), put5_off _ _ _ _ _ _ _ _ (by omega), put5_off _ _ _ _ _ _ _ _ (by omega), put5_off _ _ _ _ _ _ _ _ (by omega), put5_off _ _ _ _ _ _ _ _ (by omega)]
      simp only [if_neg e]
      have h1 := hv j y (by omega) hy
      have h2 := h1.same (w' := w1) (fun b hS => hb.block b (hlo j b (by omega) hS).2)
      exact h2.same (hs2 _ (fun b hb => (hlo j b (by omega) hb).1))

/-- What toVal does with trees of this depth. -/
def ToValO (d : Nat) : Prop := ∀ (S : Nat → Prop) (t : Tr d) (v : Value) (w : World), ValAt S w d t v → Within S w →
    Calls Tryz.prog 11 #[v] w fun e w' => ∃ u, e = .returned u ∧ ValOwn w' d (Fresh w w') t u ∧ Below w.heap.size w w'

set_option maxHeartbeats 1000000 in
theorem toValS_own (d : Nat) (H : ToValO d) (S : Nat → Prop) (xs : List (Tr d)) (v : Value) (w : World) (hv : RowAt S w (ValAt S w d) v xs) (hS : Within S w) :
    Calls Tryz.prog 37 #[v] w fun e w' => ∃ u, e = .returned u ∧ RowOwn w' (fun P x u => ValOwn w' d P x u) (Fresh w w') u xs ∧ Below w.heap.size w w' := by
  obtain ⟨a, cap, rfl, hlen⟩ := hv.open'
  have hmk := run_make5 xs.length hlen
  have hb0 : Below w.heap.size w (w.alloc (.cells (madeCells zero5 (xs.length * 5)) 29)) := below_alloc1 _ _
  have hr0 : FilledO (d := d) w.heap.size (xs.length * 5) xs (w.alloc (.cells (madeCells zero5 (xs.length * 5)) 29)) 0 (fun j => (madeCells zero5 (xs.length * 5)).getD j undef) (fun _ _ => False) := by
    refine ⟨?_, fun j x hj => by omega, fun j x c hj => by omega, fun j x hj => by omega⟩
    have := World.rowIs_alloc w (madeCells zero5 (xs.length * 5)) 29 (fun j => (madeCells zero5 (xs.length * 5)).getD j undef) (fun i hi => by simp [hi])
    rwa [size_madeCells] at this
  have HB : Hid _ := And.intro hb0 hr0
  clear hb0 hr0
  go_enter Tryz.func37, Tryz.ntmps37
  go_wp2_with fail
  go_loopw [4] (fun i wr => ∃ (k : Nat) (f : Nat → Value) (P : Nat → Nat → Prop), k ≤ xs.length ∧ i = .int .i64 k ∧ FilledO w.heap.size (xs.length * 5) xs wr k f P ∧ Below w.heap.size w wr) (fun i _ => xs.length - (intOf i).toNat)
  case atStart => exact ⟨0, _, _, Nat.zero_le _, rfl, HB.out.2, HB.out.1⟩
  case round =>
    clear HB hmk
    obtain ⟨k, f, P, hk, rfl, hrow, hbel⟩ := hrel
    by_cases hkl : k < xs.length
    · obtain ⟨b, o, x, c0, c1, c2, c3, c4, rfl, hb, hx, e0, e1, e2, e3, e4, hval⟩ := (hv.same (hS.same hbel)).cell hkl
      go_wp2_with fail
      refine (H S x _ wr hval (hS.later hbel.size)).mono ?_
      rintro e w1 ⟨u, rfl, hu, hb1⟩
      obtain ⟨v0, v1, v2, v3, v4, v5, v6, v7, v8, rfl⟩ := (ValOwn.at d _ _ _ hu).shape
      have hrow' := hrow.step hb1 hx hu
      have hbel' := below_set5 (hbel.trans (hb1.mono hbel.size)) (Nat.le_refl w.heap.size) (k * 5) (.int .i64 v0) (.int .i64 v1) (.string v2) (.slice v3 v4 v5) (.slice v6 v7 v8)
      have HR : Hid _ := And.intro hrow' hbel'
      have hr1 := hrow.row.of_block (hb1.block w.heap.size hrow.row.lt)
      have g0 := hr1.cell (i := k * 5) (by omega)
      have g1 := hr1.cell (i := k * 5 + 1) (by omega)
      have g2 := hr1.cell (i := k * 5 + 2) (by omega)
      have g3 := hr1.cell (i := k * 5 + 3) (by omega)
      have g4 := hr1.cell (i := k * 5 + 4) (by omega)
      have z0 := hr1.frozen (k * 5)
      have z1 := hr1.frozen (k * 5 + 1)
      have z2 := hr1.frozen (k * 5 + 2)
      have z3 := hr1.frozen (k * 5 + 3)
      have z4 := hr1.frozen (k * 5 + 4)
      clear hrow' hbel' hr1 hrow hbel hb1 hu hval e0 e1 e2 e3 e4 hv hx
      go_wp2_with fail
      go_roundw
      case rel => exact ⟨k + 1, _, _, by omega, by go_num, HR.out.1, HR.out.2⟩
      case measure => simp [intOf]; omega
    · go_wp2_with fail
      go_ret
      obtain rfl : k = xs.length := by omega
      refine ⟨_, rfl, ⟨hlen, _, _, rfl, ?_⟩, hbel⟩
      refine Or.inr ⟨w.heap.size, xs.length * 5, f, fun j c => j < xs.length ∧ P j c, ⟨Nat.le_refl _, hrow.row.lt⟩, rfl, Nat.le_refl _, hrow.row, fun i c hc => ?_, fun i j c hi hj => hrow.dis i j c hi.1 hj.1 hi.2 hj.2, fun i x hi => ?_⟩
      · have := hrow.lo i c hc.1 hc.2
        exact ⟨⟨by omega, this.2⟩, by omega⟩
      · have hi' := (List.getElem?_eq_some_iff.1 hi).1
        exact (hrow.val i x hi' hi).mono (fun c hc => ⟨hi', hc⟩)

set_option maxHeartbeats 1000000 in
theorem toVal_own : ∀ (d : Nat), ToValO d
  | 0 => fun _ _ _ _ h => h.elim
  | d + 1 => by
    intro S t v w hv hS
    have ih := toVal_own d
    obtain ⟨vk, vl, rfl, i1, i2, i3, hk, hl⟩ := hv
    obtain ⟨ak, ck, rfl, hkl⟩ := hk.open'
    obtain ⟨al, cl, rfl, hll⟩ := hl.open'
    go_enter Tryz.func11, Tryz.ntmps11
    go_wp2_with fail
    obtain ⟨k0, k1, k2, hb0, hsz⟩ := laid3 w 25 29 29 (.int .i64 t.kind) (.int .i64 t.num) (.string t.str) (.slice ak t.keys.length ck) (.slice al t.list.length cl)
      (.int .i64 0) (.int .i64 0) (.string { data := #[] }) (.slice none 0 0) (.slice none 0 0) (.int .i64 t.kind) (.int .i64 t.num) (.string t.str) (.slice none 0 0) (.slice none 0 0)
    refine (toStringS_own S t.keys _ _ (hk.same (hS.same hb0)) (hS.later hb0.size)).mono ?_
    rintro e w1 ⟨u1, rfl, hu1, hb1⟩
    obtain ⟨a1, c1, rfl, _⟩ := hu1.open'
    replace k0 := k0.below hb1
    replace k1 := k1.below hb1
    replace k2 := k2.below hb1
    have hu1' := hu1.moved (S' := fun b => w.heap.size + 2 < b ∧ b < w1.heap.size) (Same.refl _ _) (fun b hb => ⟨by have := hb.1; omega, hb.2⟩)
    replace hb1 := below_trans hb0 hb1
    clear hb0 hsz hu1
    obtain ⟨_, _, _, _, z0⟩ := k0.cell
    obtain ⟨x0, x1, x2, x3, x4⟩ := k2.cell
    have x5 := k2.frozen 3
    have k0' := k0.other (a := ⟨w.heap.size + 1 + 1, 3, none⟩) (.slice a1 t.keys.length c1) (by simp; omega)
    have k1' := k1.other (a := ⟨w.heap.size + 1 + 1, 3, none⟩) (.slice a1 t.keys.length c1) (by simp)
    have k2' := k2.set3 (.slice a1 t.keys.length c1)
    go_wp2_with fail
    clear z0 x0 x1 x2 x3 x4 x5 k0 k1 k2 k0'
    have hs1 : Same (fun b => w.heap.size + 2 < b ∧ b < w1.heap.size) w1 (w1.setCell ⟨w.heap.size + 1 + 1, 3, none⟩ (.slice a1 t.keys.length c1)) := fun b hb => Below.heap_setCell _ _ _ _ (by have := hb.1; show b ≠ w.heap.size + 1 + 1; omega)
    have hb2 := hb1.setCell (p := ⟨w.heap.size + 1 + 1, 3, none⟩) (by show w.heap.size ≤ w.heap.size + 1 + 1; omega) (.slice a1 t.keys.length c1)
    have hu2 := hu1'.moved hs1 (fun _ h => h)
    have hz2 := size_setCell1 w1 ⟨w.heap.size + 1 + 1, 3, none⟩ (.slice a1 t.keys.length c1)
    refine (toValS_own d ih S t.list _ _ (hl.same (hS.same hb2)) (hS.later hb2.size)).mono ?_
    clear hb1 hu1' hs1
    rintro e w3 ⟨u3, rfl, hu3, hb3⟩
    obtain ⟨a3, c3, rfl, _⟩ := hu3.open'
    have hk2 := k2'.lt
    replace k1 := k1'.below hb3
    replace k2 := k2'.below hb3
    clear k1' k2'
    rw [hz2] at hk2
    have hz3 : w1.heap.size ≤ w3.heap.size := by have := hb3.size; omega
    have hu2' := hu2.moved (w' := w3) (fun b hb => hb3.block b (by rw [hz2]; exact hb.2)) (fun _ h => h)
    have hu3' := hu3.moved (S' := fun b => w1.heap.size ≤ b ∧ b < w3.heap.size) (Same.refl _ _) (fun b hb => ⟨by have h1 := hb.1; rw [hz2] at h1; exact h1, hb.2⟩) (fun _ _ _ _ h => h)
    have hb4 := below_trans hb2 hb3
    have hw3 := hb4.size
    have hw1 : w.heap.size + 2 < w1.heap.size := by omega
    clear hu2 hu3 hb2 hb3 hz2
    obtain ⟨y0, y1, y2, y3, y4⟩ := k1.cell
    have yf := k1.frozen
    obtain ⟨x0, x1, x2, x3, x4⟩ := k2.cell
    have xf := k2.frozen 4
    have hend : ∀ wF, wF = set5 (w3.setCell ⟨w.heap.size + 1 + 1, 4, none⟩ (.slice a3 t.list.length c3)) (w.heap.size + 1) 0 (.int .i64 t.kind) (.int .i64 t.num) (.string t.str) (.slice a1 t.keys.length c1) (.slice a3 t.list.length c3) →
        ValOwn wF (d + 1) (Fresh w wF) t (.agg #[.int .i64 t.kind, .int .i64 t.num, .string t.str, .slice a1 t.keys.length c1, .slice a3 t.list.length c3]) ∧ Below w.heap.size w wF := by
      intro wF hF
      have hs : ∀ R : Nat → Prop, (∀ b, R b → w.heap.size + 2 < b) → Same R w3 wF := fun R hR b hb => by
        have := hR b hb
        rw [hF, set5_block _ _ _ _ _ _ _ _ _ (by omega), Below.heap_setCell _ _ _ _ (by show b ≠ w.heap.size + 1 + 1; omega)]
      have hzF : wF.heap.size = w3.heap.size := by rw [hF, set5_size, size_setCell1]
      refine ⟨⟨_, _, _, _, rfl, i1, i2, i3, hu2'.moved (hs _ (fun b hb => hb.1)) (fun _ h => h), hu3'.moved (hs _ (fun b hb => by have := hb.1; omega)) (fun _ h => h) (fun P x u hP hx => ValOwn.moved d P P x u hx (hs P (fun b hb => by have := (hP b hb).1; omega)) (fun _ h => h)), ?_, ?_, ?_⟩, ?_⟩
      · exact fun b hb => ⟨by have := hb.1; omega, by have := hb.2; omega⟩
      · exact fun b hb => ⟨by have := hb.1; omega, by have := hb.2; omega⟩
      · exact fun b hb hb' => by have := hb.2; have := hb'.1; omega
      rw [hF]
      exact below_set5 (hb4.setCell (by show w.heap.size ≤ w.heap.size + 1 + 1; omega) _) (by omega) _ _ _ _ _ _
    have HE : Hid _ := hend
    clear hend k1 k2 hu2' hu3' hb4 hk hl
    go_wp2_with fail
    refine bodyPost_ret (v := .agg #[.int .i64 t.kind, .int .i64 t.num, .string t.str, .slice a1 t.keys.length c1, .slice a3 t.list.length c3]) (by simp [results, Tryz.results11, go_sem, y0, y1, y2, y3, y4]) rfl ⟨_, rfl, HE.out _ rfl⟩
end Go.Proofs.YtilgbnnjecpneaaGreatDoor
