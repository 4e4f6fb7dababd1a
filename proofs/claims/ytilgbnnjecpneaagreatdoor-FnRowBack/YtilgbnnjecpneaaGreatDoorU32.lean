/- Texts of the proof, put together by program: WAppW, WMrgP, WMrgQ, WMrgS, WCutS, WCutI, PTell, LBackC. -/
import Derived.Test.YtilgbnnjecpneaaGreatDoorU25
import Derived.Test.YtilgbnnjecpneaaGreatDoorU29
import Derived.Test.YtilgbnnjecpneaaGreatDoorU17
import Derived.Test.YtilgbnnjecpneaaGreatDoorU24
import Derived.Test.YtilgbnnjecpneaaGreatDoorU31
import Derived.Test.YtilgbnnjecpneaaGreatDoorU6
import Derived.Test.YtilgbnnjecpneaaGreatDoorU22
import Derived.Test.YtilgbnnjecpneaaGreatDoorU11
import Derived.Test.YtilgbnnjecpneaaGreatDoorU21
import Derived.Test.YtilgbnnjecpneaaGreatDoorU23
import Derived.Test.YtilgbnnjecpneaaGreatDoorU26
import Derived.Test.YtilgbnnjecpneaaGreatDoorU27
/- Trees of the model's, appended behind others, wherever these lie. -/
namespace Go.Proofs.YtilgbnnjecpneaaGreatDoor
open Go.RowKit Go.Deep

end Go.Proofs.YtilgbnnjecpneaaGreatDoor

/- l4Put of the model: a tree put into a row in order. -/
namespace Go.Proofs.YtilgbnnjecpneaaGreatDoor
open Go.RowKit Go.Deep

/-- All blocks but the row's own. -/
def Live1 (w : World) (lv : Value) (b : Nat) : Prop := b < w.heap.size ∧ some b ≠ lv.ownBlock
theorem VTo.mono {d N : Nat} {S S' : Nat → Prop} {w : World} {lv : Value} {xs : List (Tr d)} {vs : List Value} (h : VTo S N w lv xs vs) (hS : ∀ b, S b → S' b) : VTo S' N w lv xs vs :=
  ⟨h.1, fun j x hx => by obtain ⟨c0, c1, c2, c3, c4, e0, e1, e2, e3, e4, hv⟩ := h.2 j x hx; exact ⟨c0, c1, c2, c3, c4, e0, e1, e2, e3, e4, hv.mono hS⟩⟩
end Go.Proofs.YtilgbnnjecpneaaGreatDoor

/- l4Sort of the model: a row in order. -/
namespace Go.Proofs.YtilgbnnjecpneaaGreatDoor
open Go.RowKit Go.Deep

theorem VTo.later {d N : Nat} {w w' : World} {lv : Value} {xs : List (Tr d)} {vs : List Value} (h : VTo (Live1 w lv) N w lv xs vs) (hb : Below w.heap.size w w') : VTo (Live1 w' lv) N w' lv xs vs :=
  (h.moved (fun _ hb' => hb.block _ hb'.1) (fun g hg => hb.block g (h.1.lt g hg).2)).mono (fun _ hb' => ⟨Nat.lt_of_lt_of_le hb'.1 hb.size, hb'.2⟩)

end Go.Proofs.YtilgbnnjecpneaaGreatDoor

/- RowSort, RowLeast of the model. -/
namespace Go.Proofs.YtilgbnnjecpneaaGreatDoor
open Go.RowKit Go.Deep

end Go.Proofs.YtilgbnnjecpneaaGreatDoor

/- RowCut of the model. -/
namespace Go.Proofs.YtilgbnnjecpneaaGreatDoor
open Go.RowKit Go.Deep

end Go.Proofs.YtilgbnnjecpneaaGreatDoor

/- pieceOf, RowCut of the program. -/
namespace Go.Proofs.YtilgbnnjecpneaaGreatDoor
open Go.RowKit Go.Deep

/-- What pieceOf is asked to give. -/
def PieceQ (d : Nat) (S : Nat → Prop) (t : Tr (d + 1)) (i j : Int) (w : World) (e : Ending) (w' : World) : Prop :=
  Below w.heap.size w w' ∧ ((∃ x u, cutF d t i j = some x ∧ e = .returned (.tuple #[u, .nilIface]) ∧ TreeG S w' (d + 1) x u) ∨ (cutF d t i j = none ∧ ∃ why, e = .returned (.tuple #[.nilIface, faultV why])))

set_option maxRecDepth 100000 in
set_option maxHeartbeats 4000000 in
theorem pieceOf_any (d : Nat) (S : Nat → Prop) (t : Tr (d + 1)) (u : Value) (i j : Int) (hi : I64 i) (hj : I64 j) (w : World) (hu : TreeG S w (d + 1) t u) (hS : Within S w) (hcap : ∀ sa n sc, u = .iface 80 (.agg #[.slice sa n sc]) → n ≤ sc) :
    Calls Tryz.prog 56 #[u, .int .i64 i, .int .i64 j] w (PieceQ d S t i j w) := by
  go_enter Tryz.func56, Tryz.ntmps56
  rcases hu with ⟨k', h1, hxe, rfl⟩ | ⟨n', h1, hxe, rfl⟩ | ⟨s', h1, hxe, rfl⟩ | ⟨ys, sv, h1, hxe, rfl, hr⟩ | ⟨keys, ys, ps, r, es, h1, h2, h3, h4, hxe, rfl, hr, hm, he⟩
  · have a5 := Tryz.asR_B
    have a4 := Tryz.asS_B
    have hq : Hid (cutF d t i j = none) := cutF_other (by rw [hxe]; show k' ≠ 5; omega) (by rw [hxe]; show k' ≠ 4; omega)
    clear hxe hcap
    go_wp2_with fail
    go_ret2
    exact ⟨by first | exact Below.refl _ _ | exact below_alloc1 _ _ | exact below_trans (below_alloc1 _ _) (below_alloc1 _ _), Or.inr ⟨hq.out, _, rfl⟩⟩
  · have a5 := Tryz.asR_N
    have a4 := Tryz.asS_N
    have hq : Hid (cutF d t i j = none) := cutF_other (by rw [hxe]; show (3 : Int) ≠ 5; omega) (by rw [hxe]; show (3 : Int) ≠ 4; omega)
    clear hxe hcap
    go_wp2_with fail
    go_ret2
    exact ⟨by first | exact Below.refl _ _ | exact below_alloc1 _ _ | exact below_trans (below_alloc1 _ _) (below_alloc1 _ _), Or.inr ⟨hq.out, _, rfl⟩⟩
  · have a5 := Tryz.asR_S
    have a4 := Tryz.asS_S
    have hF : Hid (cutF d t i j = some (wordT d (s'.extract (cutA i s'.size) (cutB i j s'.size)))) := by
      show cutF d t i j = _
      rw [cutF_word (by rw [hxe]), hxe]
    obtain ⟨hab, hbn⟩ := cut_le i j s'.size
    have hesz : Hid ((s'.extract (cutA i s'.size) (cutB i j s'.size)).size ≤ 1000) := by
      show (s'.extract (cutA i s'.size) (cutB i j s'.size)).size ≤ 1000
      rw [ByteArray.size_extract]
      omega
    have hpc := hide (fun w' => piece_any i j s'.size w' hi hj h1)
    clear hxe hcap
    go_wp2_with fail
    refine Calls.mono (hpc.out _) ?_
    rintro e w1 ⟨rfl, rfl⟩
    go_wp2_with fail
    go_ret2
    exact ⟨below_alloc1 _ _, Or.inl ⟨_, _, hF.out, rfl, Or.inr (Or.inr (Or.inl ⟨_, hesz.out, rfl, rfl⟩))⟩⟩
  · have a5 := Tryz.asR_R
    obtain ⟨sa, sc, rfl, _⟩ := hr.open'
    have hcs : ys.length ≤ sc := hcap _ _ _ rfl
    have hF : Hid (cutF d t i j = some (rowT d ((ys.drop (cutA i ys.length)).take (cutB i j ys.length - cutA i ys.length)))) := by
      show cutF d t i j = _
      rw [cutF_row (by rw [hxe]), hxe]
    obtain ⟨hab, hbn⟩ := cut_le i j ys.length
    have hpc := hide (fun w' => piece_any i j ys.length w' hi hj h1)
    have hlen : Hid (((ys.drop (cutA i ys.length)).take (cutB i j ys.length - cutA i ys.length)).length ≤ 1000) := by
      show ((ys.drop (cutA i ys.length)).take (cutB i j ys.length - cutA i ys.length)).length ≤ 1000
      rw [List.length_take, List.length_drop]
      omega
    have hA := below_alloc1 w (.cells #[.slice sa ys.length sc] 80)
    have hrA := hr.moved (At' := TreeG S (w.alloc (.cells #[.slice sa ys.length sc] 80)) d) (hS.same hA) (fun _ h => h) (fun x u hx => TreeG.moved (hS.same hA) (fun _ h => h) d x u hx)
    by_cases hca : sc = cutA i ys.length
    · subst hca
      have hpr : Hid (Row1At S (w.alloc (.cells #[.slice sa ys.length (cutA i ys.length)] 80)) (TreeG S (w.alloc (.cells #[.slice sa ys.length (cutA i ys.length)] 80)) d) (.slice sa (cutB i j ys.length - cutA i ys.length) 0) ((ys.drop (cutA i ys.length)).take (cutB i j ys.length - cutA i ys.length))) := by
        have e0 : cutB i j ys.length - cutA i ys.length = 0 := by omega
        rw [e0, List.take_zero]
        exact Row1At.noneR _ _
      have HA := hide hA
      clear hxe hcap hr hrA hA
      go_wp2_with fail
      refine Calls.mono (hpc.out _) ?_
      rintro e w1 ⟨rfl, rfl⟩
      go_wp2_with fail
      go_ret2
      exact ⟨HA.out, Or.inl ⟨_, _, hF.out, rfl, Or.inr (Or.inr (Or.inr (Or.inl ⟨_, _, hlen.out, rfl, rfl, hpr.out⟩)))⟩⟩
    · have hpr : Hid (Row1At S (w.alloc (.cells #[.slice sa ys.length sc] 80)) (TreeG S (w.alloc (.cells #[.slice sa ys.length sc] 80)) d) (.slice (sa.map (fun x => x.add (cutA i ys.length))) (cutB i j ys.length - cutA i ys.length) (sc - cutA i ys.length)) ((ys.drop (cutA i ys.length)).take (cutB i j ys.length - cutA i ys.length))) := hrA.piece _ hab hbn
      have HA := hide hA
      clear hxe hcap hr hrA hA
      go_wp2_with fail
      refine Calls.mono (hpc.out _) ?_
      rintro e w1 ⟨rfl, rfl⟩
      go_wp2_with fail
      go_ret2
      exact ⟨HA.out, Or.inl ⟨_, _, hF.out, rfl, Or.inr (Or.inr (Or.inr (Or.inl ⟨_, _, hlen.out, rfl, rfl, hpr.out⟩)))⟩⟩
  · have a5 := Tryz.asR_M
    have a4 := Tryz.asS_M
    have hq : Hid (cutF d t i j = none) := cutF_other (by rw [hxe]; show (6 : Int) ≠ 5; omega) (by rw [hxe]; show (6 : Int) ≠ 4; omega)
    clear hxe hcap he hm hr h4 h3 h2
    go_wp2_with fail
    go_ret2
    exact ⟨by first | exact Below.refl _ _ | exact below_alloc1 _ _ | exact below_trans (below_alloc1 _ _) (below_alloc1 _ _), Or.inr ⟨hq.out, _, rfl⟩⟩

set_option maxRecDepth 100000 in
set_option maxHeartbeats 2000000 in
theorem implRowCut_any (d : Nat) (S : Nat → Prop) (t : Tr (d + 1)) (v : Value) (i j : Int) (hi : I64 i) (hj : I64 j) (w : World) (hv : ValAt S w (d + 1) t v) (hS : Within S w) (hg : ErrType w) :
    Calls Tryz.prog 26 #[v, .int .i64 i, .int .i64 j] w (TellQ d (cutR d t i j).1 (cutR d t i j).2 w) := by
  obtain ⟨k, n, s, ak, lk, ck, al, ll, cl, rfl⟩ := hv.shape
  obtain ⟨W0, hW⟩ : ∃ W0, W0 = (w.alloc (.cells #[.int .i64 k, .int .i64 n, .string s, .slice ak lk ck, .slice al ll cl] 29)).alloc (.cells #[.int .i64 0, .int .i64 0, .string { data := #[] }, .slice none 0 0, .slice none 0 0] 29) := ⟨_, rfl⟩
  have hW0 : Below w.heap.size w W0 := by rw [hW]; exact below_trans (below_alloc1 _ _) (below_alloc1 _ _)
  have k1 : Blk5 W0 (w.heap.size + 1) 29 (.int .i64 0) (.int .i64 0) (.string { data := #[] }) (.slice none 0 0) (.slice none 0 0) := by
    have := Blk5.new (w.alloc (.cells #[.int .i64 k, .int .i64 n, .string s, .slice ak lk ck, .slice al ll cl] 29)) 29 (.int .i64 0) (.int .i64 0) (.string { data := #[] }) (.slice none 0 0) (.slice none 0 0)
    rw [World.size_alloc] at this
    rw [hW]
    exact this
  have HW := hide hW
  clear hW
  go_enter Tryz.func26, Tryz.ntmps26
  go_wp2_with fail
  rw [← HW.out]
  clear HW
  refine (given_own d S t _ W0 (hv.same (hS.same hW0)) (hS.later hW0.size)).mono ?_
  rintro en w1 ⟨hb1, hq⟩
  have hB1 := below_trans hW0 hb1
  have k2 := k1.below hb1
  have hg1 := hg.below hB1
  have hl1 := k1.lt
  have hs0 := hW0.size
  have hs1 := hb1.size
  clear hv
  -- what is told, however it is
  have hfin : ∀ (w1' : World), Below W0.heap.size w1 w1' → ∀ (x : Tr (d + 1)) (ok : Bool), Hid (∀ en w2, TellQ d x ok w1' en w2 → ∃ v0 v1 v2 v3 v4 v5 v6 v7 v8, en = .returned (.tuple #[.agg #[.int .i64 v0, .int .i64 v1, .string v2, .slice v3 v4 v5, .slice v6 v7 v8], .bool ok]) ∧
      Blk5 w2 (w.heap.size + 1) 29 (.int .i64 0) (.int .i64 0) (.string { data := #[] }) (.slice none 0 0) (.slice none 0 0) ∧
      ∀ wF, wF = set5 w2 (w.heap.size + 1) 0 (.int .i64 v0) (.int .i64 v1) (.string v2) (.slice v3 v4 v5) (.slice v6 v7 v8) → ValOwn wF (d + 1) (Fresh w wF) x (.agg #[.int .i64 v0, .int .i64 v1, .string v2, .slice v3 v4 v5, .slice v6 v7 v8]) ∧ Below w.heap.size w wF) := fun w1' hb' x ok => by
    intro en w2 ⟨v, he, hv, hb2⟩
    obtain ⟨v0, v1, v2, v3, v4, v5, v6, v7, v8, rfl⟩ := (ValOwn.at _ _ _ _ hv).shape
    have hs' := hb'.size
    exact ⟨v0, v1, v2, v3, v4, v5, v6, v7, v8, he, (k2.of_block (hb'.block _ hl1)).below hb2, tell_end hv (below_trans (hB1.trans (hb'.mono hs0)) hb2) (by omega) (by omega)⟩
  clear hW0 k1 hb1
  rcases hq with ⟨hok, u0, rfl, hu0, htop⟩ | ⟨hok, why, rfl⟩
  · have hcapU : ∀ sa n sc, u0 = .iface 80 (.agg #[.slice sa n sc]) → n ≤ sc := by
      intro sa n' sc he
      subst he
      rcases hu0 with ⟨k', h1, _, h3⟩ | ⟨k', h1, _, h3⟩ | ⟨k', h1, _, h3⟩ | ⟨ys, sv, h1, hxe, h3, hr⟩ | ⟨keys, ys, ps, r, es, h1, h2, h3, h4, _, h6, hr, hm, he⟩
      · simp at h3
      · simp at h3
      · simp at h3
      · obtain ⟨sv', vs, he, hto⟩ := htop.1 (by rw [hxe])
        simp at he
        subst he
        rcases hto.1.2 with ⟨h, _⟩ | ⟨g, cap, cur, h, _, _, hle, _⟩
        · simp at h; omega
        · simp at h; omega
      · simp at h6
    have hcall := hide (pieceOf_any d (Fresh W0 w1) t u0 i j hi hj w1 hu0 (Fresh.within _ _) hcapU)
    obtain ⟨T0, u1, rfl⟩ := hu0.iface
    have HR := hide hok
    clear hu0 htop hcapU hok
    go_wp2_with fail
    refine Calls.mono hcall.out ?_
    rintro en w2 ⟨hb2, hq⟩
    clear hcall
    have hz2 := hb2.size
    have h00 : 0 < W0.heap.size := Nat.lt_of_lt_of_le hg.lt hs0
    have hg2 : ErrType w2 := hg1.below hb2
    rcases hq with ⟨x, u, hx, rfl, hu⟩ | ⟨hx, why, rfl⟩
    · obtain ⟨T, u', rfl⟩ := hu.iface
      have hT := hide (cutR_some HR.out hx)
      have hcall := hide (told_tree d _ x _ w2 hu (fun b hb => Nat.lt_of_lt_of_le hb.2 hz2))
      clear hx hu
      go_wp2_with fail
      refine Calls.mono hcall.out ?_
      intro en w3 hq
      obtain ⟨v0, v1, v2, v3, v4, v5, v6, v7, v8, rfl, k3, hF⟩ := (hfin w2 (hb2.mono hs1) _ _).out en w3 hq
      have HF := hide hF
      obtain ⟨y0, y1, y2, y3, y4⟩ := k3.cell
      have yf := k3.frozen
      clear hF hq hfin hcall k3
      go_wp2_with fail
      refine bodyPost_ret (v := .tuple #[.agg #[.int .i64 v0, .int .i64 v1, .string v2, .slice v3 v4 v5, .slice v6 v7 v8], .bool (okT (d + 1) x)]) (by simp [results, Tryz.results26, go_sem, y0, y1, y2, y3, y4]) rfl ⟨_, by rw [hT.out], by rw [hT.out]; exact (HF.out _ rfl).1, (HF.out _ rfl).2⟩
    · have hT := hide (cutR_none hx)
      have hcall := hide (told_fault d .nilIface why w2 hg2)
      unfold faultV
      clear hx
      go_wp2_with fail
      refine Calls.mono hcall.out ?_
      intro en w3 hq
      obtain ⟨v0, v1, v2, v3, v4, v5, v6, v7, v8, rfl, k3, hF⟩ := (hfin w2 (hb2.mono hs1) _ _).out en w3 hq
      have HF := hide hF
      obtain ⟨y0, y1, y2, y3, y4⟩ := k3.cell
      have yf := k3.frozen
      clear hF hq hfin hcall k3
      go_wp2_with fail
      refine bodyPost_ret (v := .tuple #[.agg #[.int .i64 v0, .int .i64 v1, .string v2, .slice v3 v4 v5, .slice v6 v7 v8], .bool false]) (by simp [results, Tryz.results26, go_sem, y0, y1, y2, y3, y4]) rfl ⟨_, by rw [hT.out], by rw [hT.out]; exact (HF.out _ rfl).1, (HF.out _ rfl).2⟩
  · have hT := hide (cutR_bad (i := i) (j := j) hok)
    have hcall := hide (told_fault d .nilIface why w1 hg1)
    unfold faultV
    go_wp2_with fail
    refine Calls.mono hcall.out ?_
    intro en w2 hq
    obtain ⟨v0, v1, v2, v3, v4, v5, v6, v7, v8, rfl, k3, hF⟩ := (hfin w1 (Below.refl _ _) _ _).out en w2 hq
    have HF := hide hF
    obtain ⟨y0, y1, y2, y3, y4⟩ := k3.cell
    have yf := k3.frozen
    clear hF hq hfin hcall k3
    go_wp2_with fail
    refine bodyPost_ret (v := .tuple #[.agg #[.int .i64 v0, .int .i64 v1, .string v2, .slice v3 v4 v5, .slice v6 v7 v8], .bool false]) (by simp [results, Tryz.results26, go_sem, y0, y1, y2, y3, y4]) rfl ⟨_, by rw [hT.out], by rw [hT.out]; exact (HF.out _ rfl).1, (HF.out _ rfl).2⟩
end Go.Proofs.YtilgbnnjecpneaaGreatDoor

/- Pieces of rows, and what is told of rows: plain facts. -/
namespace Go.Proofs.YtilgbnnjecpneaaGreatDoor
open Go.RowKit Go.Deep

/-- The first k of a row. -/
theorem cut_first {d : Nat} {t : Tr (d + 1)} {k : Nat} (h : okT (d + 1) t = true) (h5 : Nd.kind t = 5) (hk : k ≤ (Nd.list t).length) : cutR d t 0 (k : Int) = (rowT d ((Nd.list t).take k), true) := by
  have ho : okT (d + 1) (rowT d ((Nd.list t).take k)) = true := by
    have h1 := h
    rw [row_self h h5] at h1
    exact okT_take h1 k
  have e0 : cutA 0 (Nd.list t).length = 0 := by
    unfold cutA
    rw [edge_pos (by omega)]
    show min 0 _ = 0
    omega
  have e1 : cutB 0 (k : Int) (Nd.list t).length = k := by
    unfold cutB
    rw [edge_pos (by omega), edge_pos (by omega)]
    show max (min 0 _) (min k _) = k
    omega
  rw [cutR_some h (cutF_row h5), e0, e1, List.drop_zero, Nat.sub_zero]
  unfold toldT
  rw [if_pos ho, ho]
theorem tell_of {d e : Nat} {f : List (Tr d) → Option (Tr (e + 1))} {xs : List (Tr d)} {x : Tr (e + 1)} (h : okT (d + 1) (rowT d xs) = true) (hf : f xs = some x) (hx : okT (e + 1) x = true) : rowTell f (rowT d xs) = (x, true) := by
  have hr : treesL d (rowT d xs) = some xs := by
    unfold treesL
    rw [if_pos h]
    exact if_pos rfl
  rw [rowTell_some hr hf]
  unfold toldT
  rw [if_pos hx, hx]
theorem tell_ok {d e : Nat} {f : List (Tr d) → Option (Tr (e + 1))} {t : Tr (d + 1)} (h : (rowTell f t).2 = true) : okT (d + 1) t = true ∧ Nd.kind t = 5 ∧ ∃ x, f (Nd.list t) = some x ∧ okT (e + 1) x = true ∧ rowTell f t = (x, true) := by
  cases hx : treesL d t with
  | none => rw [rowTell_none hx] at h; cases h
  | some xs =>
    obtain ⟨hok, h5, rfl⟩ := treesL_some hx
    cases hf : f (Nd.list t) with
    | none => rw [rowTell_fault hx hf] at h; cases h
    | some x =>
      have hs := rowTell_some hx hf
      rw [hs] at h
      have h : okT (e + 1) x = true := h
      refine ⟨hok, h5, x, rfl, h, ?_⟩
      rw [hs, h]
      unfold toldT
      rw [if_pos h]
/-- What is behind the first k of a row. -/
theorem cut_last {d : Nat} {t : Tr (d + 1)} {k : Nat} (h : okT (d + 1) t = true) (h5 : Nd.kind t = 5) (hk : k ≤ (Nd.list t).length) (ho : okT (d + 1) (rowT d ((Nd.list t).drop k)) = true) : cutR d t (k : Int) ((Nd.list t).length : Int) = (rowT d ((Nd.list t).drop k), true) := by
  have e0 : cutA (k : Int) (Nd.list t).length = k := by
    unfold cutA
    rw [edge_pos (by omega)]
    show min k _ = k
    omega
  have e1 : cutB (k : Int) ((Nd.list t).length : Int) (Nd.list t).length = (Nd.list t).length := by
    unfold cutB
    rw [edge_pos (by omega), edge_pos (by omega)]
    show max (min k _) (min _ _) = _
    omega
  rw [cutR_some h (cutF_row h5), e0, e1, List.take_of_length_le (by rw [List.length_drop]; exact Nat.le_refl _)]
  unfold toldT
  rw [if_pos ho, ho]
theorem okT_rowR {d : Nat} {xs ys : List (Tr d)} (h : okT (d + 1) (rowT d xs) = true) (hp : ys.Perm xs) : okT (d + 1) (rowT d ys) = true := by
  rw [okT_rowT_iff] at h ⊢
  exact ⟨fun x hx => h.1 x (hp.mem_iff.1 hx), by rw [(hp.map _).sum_nat]; exact h.2⟩
theorem okT_rowDrop {d : Nat} {xs : List (Tr d)} (h : okT (d + 1) (rowT d xs) = true) (k : Nat) : okT (d + 1) (rowT d (xs.drop k)) = true := by
  rw [okT_rowT_iff] at h ⊢
  refine ⟨fun x hx => h.1 x (List.mem_of_mem_drop hx), ?_⟩
  have e : (xs.map (fun x => manyT d x 5)).sum = ((xs.take k).map (fun x => manyT d x 5)).sum + ((xs.drop k).map (fun x => manyT d x 5)).sum := by
    rw [← List.sum_append, ← List.map_append, List.take_append_drop]
  have := h.2
  omega
theorem add_rowT {d : Nat} {xs ys : List (Tr d)} (hx : okT (d + 1) (rowT d xs) = true) (hy : okT (d + 1) (rowT d ys) = true) (h : okT (d + 1) (rowT d (xs ++ ys)) = true) : partAddT d (rowT d xs) (rowT d ys) = (rowT d (xs ++ ys), true) := by
  refine add_of hx hy ?_ h
  unfold sumT
  rw [if_neg (by show ¬ (5 : Int) = 0; omega), if_neg (by show ¬ (5 : Int) = 0; omega), if_neg (by show ¬ (5 : Int) ≠ 5; omega), if_neg (by show ¬ (5 : Int) = 3; omega), if_neg (by show ¬ (5 : Int) = 4; omega)]
  show (if (5 : Int) = 5 then _ else _) = _
  rw [if_pos rfl]
  rfl
end Go.Proofs.YtilgbnnjecpneaaGreatDoor

/- Rows turned round and in order: contracts, and the facts that FnRowBack and its like ask for. -/
namespace Go.Proofs.YtilgbnnjecpneaaGreatDoor
open Go.RowKit Go.Deep

theorem rbackI {d : Nat} {w W : World} {t : Tr (d + 1)} {v : Value} (h : ValAt (FreshP w W) W (d + 1) t v) (hg : ErrType W) (hl : w.heap.size ≤ W.heap.size) :
    Calls Tryz.prog 22 #[v] W (TQ w (d + 1) (rowTell (backF d) t).1 (rowTell (backF d) t).2 W) := (implRowBack_any d _ t v W h within_P hg).mono (fun _ _ h => tq_of hl h)
theorem rbackS {d : Nat} {w W : World} {t : Tr (d + 1)} {v : Value} (h : ValAt (FreshP w W) W (d + 1) t v) (hz : wtT (d + 1) t ≤ 10000) (hl : w.heap.size ≤ W.heap.size) :
    Calls Tryz.prog 25 #[v] W (TQ w (d + 1) (rowTell (backF d) t).1 (rowTell (backF d) t).2 W) := (specRowBack_own d _ t v W h within_P (nodes_small hz)).mono (fun _ _ h => tq_of hl h)
theorem rleastI {d : Nat} {w W : World} {t : Tr (d + 2)} {v : Value} (h : ValAt (FreshP w W) W (d + 2) t v) (hg : ErrType W) (hl : w.heap.size ≤ W.heap.size) :
    Calls Tryz.prog 19 #[v] W (TQ w (d + 1) (rowTell (leastF d) t).1 (rowTell (leastF d) t).2 W) := (implRowLeast_any d _ t v W h within_P hg).mono (fun _ _ h => tq_of hl h)
theorem rcutI' {d : Nat} {w W : World} {t : Tr (d + 1)} {v : Value} {i j : Int} (hi : I64 i) (hj : I64 j) (h : ValAt (FreshP w W) W (d + 1) t v) (hg : ErrType W) (hl : w.heap.size ≤ W.heap.size) :
    Calls Tryz.prog 26 #[v, .int .i64 i, .int .i64 j] W (TQ w (d + 1) (cutR d t i j).1 (cutR d t i j).2 W) := (implRowCut_any d _ t v i j hi hj W h within_P hg).mono (fun _ _ h => tq_of hl h)
theorem back_ok {d : Nat} {t : Tr (d + 1)} (h : okT (d + 1) t = true) (h5 : Nd.kind t = 5) : rowTell (backF d) t = (rowT d (Nd.list t).reverse, true) := by
  have h1 := h
  rw [row_self h h5] at h1 ⊢
  exact tell_of h1 rfl (okT_rowR h1 (List.reverse_perm _))
theorem back_row {d : Nat} {xs : List (Tr d)} (h : okT (d + 1) (rowT d xs) = true) : rowTell (backF d) (rowT d xs) = (rowT d xs.reverse, true) :=
  tell_of h rfl (okT_rowR h (List.reverse_perm _))
theorem least_ok {d : Nat} {xs : List (Tr (d + 1))} (h : okT (d + 2) (rowT (d + 1) xs) = true) : ∃ x, leastF d xs = some x ∧ okT (d + 1) x = true := by
  unfold leastF
  cases hs : sortL (ordT (d + 1)) xs with
  | nil => exact ⟨_, rfl, okT_zero d⟩
  | cons x r =>
    have hm : x ∈ xs := sort_mem.1 (by rw [hs]; exact List.mem_cons_self ..)
    exact ⟨x, rfl, okT_part (t := rowT (d + 1) xs) h hm⟩
theorem least_perm {d : Nat} {xs ys : List (Tr (d + 1))} (h : xs.Perm ys) : leastF d xs = leastF d ys := by
  unfold leastF
  rw [sort_perm h]
theorem tmod_nat (a b : Nat) : (a : Int).tmod ((b : Int) + 1) = ((a % (b + 1) : Nat) : Int) := by
  rw [show ((b : Int) + 1) = ((b + 1 : Nat) : Int) by omega]
  rfl
theorem mod_facts (n v : Nat) (h : v ≤ 60) : ∃ kk, kk ≤ v ∧ (n : Int).tmod ((v : Int) + 1) = (kk : Int) ∧ wrap64 ((v : Int) + 1) = (v : Int) + 1 ∧ ((v : Int) + 1 == 0) = false ∧ ¬ (v : Int) + 1 = 0 ∧ I64 (kk : Int) ∧ I64 (v : Int) := by
  refine ⟨n % (v + 1), ?_, tmod_nat n v, ?_, beq_false_of_ne (by omega), by omega, ?_, ⟨by omega, by omega⟩⟩
  · have := Nat.mod_lt n (show 0 < v + 1 by omega)
    omega
  · unfold wrap64
    omega
  · have := Nat.mod_lt n (show 0 < v + 1 by omega)
    exact ⟨by omega, by omega⟩
theorem i64_zero : I64 0 := ⟨by omega, by omega⟩
theorem wt_ok {d : Nat} {t : Tr d} (h : okT d t = true) : wtT d t ≤ 10000 := by have := wtT_ok h; omega
end Go.Proofs.YtilgbnnjecpneaaGreatDoor
