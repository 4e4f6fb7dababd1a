/- Texts of the proof, put together by program: WMrgM. -/
import Derived.Test.YtilgbnnjecpneaaGreatDoorV26
import Derived.Test.YtilgbnnjecpneaaGreatDoorV27
import Derived.Test.YtilgbnnjecpneaaGreatDoorV28
/- merged of the program: two rows in order, as one. -/
namespace Go.Proofs.YtilgbnnjecpneaaGreatDoor
open Go.RowKit Go.Deep

/-- The row without its first. -/
theorem Row1At.rest {α : Type} {S : Nat → Prop} {w : World} {At : α → Value → Prop} {b o n cap c' : Nat} {x : α} {xs : List α} (h : Row1At S w At (.slice (some ⟨b, o, none⟩) n cap) (x :: xs)) : Row1At S w At (.slice (some ⟨b, o + 1, none⟩) xs.length c') xs := by
  obtain ⟨h1, a', cap', hv, h3⟩ := h
  cases hv
  refine ⟨by have : (x :: xs).length = xs.length + 1 := rfl; omega, _, _, rfl, ?_⟩
  rcases h3 with h3 | ⟨b', o', hB, ha, hc⟩
  · cases h3
  · cases ha
    refine Or.inr ⟨b, o + 1, hB, rfl, fun i y hy => ?_⟩
    obtain ⟨u, e0, e1⟩ := hc (i + 1) y (by simpa using hy)
    exact ⟨u, by rw [show o + 1 + i = o + (i + 1) by omega]; exact e0, e1⟩
theorem Row1At.none_ {α : Type} {S : Nat → Prop} {w : World} {At : α → Value → Prop} (a : Option Addr) (c : Nat) : Row1At S w At (.slice a 0 c) ([] : List α) := ⟨by show (0 : Nat) < _; omega, a, c, rfl, Or.inl rfl⟩
theorem Row1At.first {α : Type} {S : Nat → Prop} {w : World} {At : α → Value → Prop} {a : Option Addr} {n cap : Nat} {x : α} {xs : List α} (h : Row1At S w At (.slice a n cap) (x :: xs)) : ∃ b o u, a = some ⟨b, o, none⟩ ∧ S b ∧ w.cell? ⟨b, o, none⟩ = some u ∧ At x u := by
  obtain ⟨_, a', cap', hv, h3⟩ := h
  cases hv
  rcases h3 with h3 | ⟨b, o, hB, ha, hc⟩
  · cases h3
  · obtain ⟨u, e0, e1⟩ := hc 0 x rfl
    exact ⟨b, o, u, ha, hB, e0, e1⟩
theorem row_slice1 {w : World} {N : Nat} {T : TypeId} {s n : Nat} {v : Value} {vs : List Value} (h : w.ownsRow N T s v (n + 1) vs) : ∃ a c, v = .slice a (n + 1) c := by
  rcases h.2 with ⟨_, h0⟩ | ⟨g, cap, cur, e, _⟩
  · omega
  · exact ⟨_, _, e⟩
theorem Row1At.nextA {α : Type} {S : Nat → Prop} {w : World} {At : α → Value → Prop} {a : Option Addr} {c : Nat} {xs : List α} (hc : xs.length + 1 ≤ 1) : Row1At S w At (.slice a xs.length c) xs := by
  have h0 : xs = [] := List.eq_nil_of_length_eq_zero (by omega)
  subst h0
  exact Row1At.none_ _ _
theorem Row1At.next {α : Type} {S : Nat → Prop} {w : World} {At : α → Value → Prop} {b o cap : Nat} {x : α} {xs : List α} (hc : xs.length + 1 ≤ cap) (h : Row1At S w At (.slice (some ⟨b, o, none⟩) (x :: xs).length cap) (x :: xs)) : Row1At S w At (.slice (if cap = 1 then some ⟨b, o, none⟩ else some ⟨b, o + 1, none⟩) xs.length (cap - 1)) xs := by
  by_cases h1 : cap = 1
  · have h0 : xs = [] := List.eq_nil_of_length_eq_zero (by omega)
    subst h0
    exact Row1At.none_ _ _
  · rw [if_neg h1]
    exact h.rest
/-- A row of its own, as one whose trees lie in what is new. -/
theorem GF.row {d N M : Nat} {S : Nat → Prop} {w : World} {sv : Value} {xs : List (Tr d)} {vs : List Value} (h : GF S N w sv xs vs) (hl : xs.length ≤ 1000) (hM : M ≤ N) (hSM : ∀ b, S b → M ≤ b ∧ b < w.heap.size) : Row1At (fun b => M ≤ b ∧ b < w.heap.size) w (TreeG (fun b => M ≤ b ∧ b < w.heap.size) w d) sv xs := by
  obtain ⟨h1, h2⟩ := h
  have hlen := h1.1
  rw [Nat.mul_one] at hlen
  refine ⟨by omega, ?_⟩
  rcases h1.2 with ⟨rfl, h0⟩ | ⟨g, cap, cur, rfl, hg, hh, _, _, _, _⟩
  · exact ⟨none, 0, by rw [h0], Or.inl (List.eq_nil_of_length_eq_zero h0)⟩
  · refine ⟨some ⟨g, 0, none⟩, cap, rfl, Or.inr ⟨g, 0, ⟨by omega, (Array.getElem?_eq_some_iff.1 hh).1⟩, rfl, fun i x hx => ?_⟩⟩
    have hi := (List.getElem?_eq_some_iff.1 hx).1
    have hvi : vs[i]? = some vs[i] := List.getElem?_eq_getElem (by omega)
    have hc := h1.cells (g := g) rfl i _ hvi
    have hadd : (⟨g, 0, none⟩ : Addr).add i = ⟨g, 0 + i, none⟩ := by unfold Addr.add; split <;> simp_all
    rw [hadd] at hc
    exact ⟨vs[i], hc, (h2 i x _ hx hvi).mono hSM⟩
theorem GF.cap {d N n c : Nat} {S : Nat → Prop} {w : World} {a : Option Addr} {xs : List (Tr d)} {vs : List Value} (h : GF S N w (.slice a n c) xs vs) : n ≤ c := by
  rcases h.1.2 with ⟨e, h0⟩ | ⟨g, cap, cur, e, _, _, hn, _⟩
  · cases e; omega
  · cases e; exact hn
/-- Where the loop stands: all is done, a and b are left. -/
structure MrgAt (S : Nat → Prop) (w wr : World) {d : Nat} (all a b xs : List (Tr d)) (la : Option Addr) (lc : Nat) (vs : List Value) (aa : Option Addr) (ca : Nat) (ba : Option Addr) (cb : Nat) : Prop where
  got : GF S w.heap.size wr (.slice la all.length lc) all vs
  left : Row1At S wr (TreeG S wr d) (.slice aa a.length ca) a
  right : Row1At S wr (TreeG S wr d) (.slice ba b.length cb) b
  capA : a.length ≤ ca
  capB : b.length ≤ cb
  mrg : Merging (ordT d) all a b xs
  bel : Below w.heap.size w wr
theorem MrgAt.go {S : Nat → Prop} {w wr w2 : World} {d : Nat} {all a b xs : List (Tr d)} {la : Option Addr} {lc : Nat} {vs : List Value} {aa : Option Addr} {ca : Nat} {ba : Option Addr} {cb : Nat} (h : MrgAt S w wr all a b xs la lc vs aa ca ba cb) (hb : Below wr.heap.size wr w2) (hS : Within S w) : MrgAt S w w2 all a b xs la lc vs aa ca ba cb := by
  have hSr : Within S wr := hS.later h.bel.size
  have hm : Same S wr w2 := hSr.same hb
  exact ⟨h.got.later hb hSr, h.left.moved hm (fun _ h => h) (fun x u hx => TreeG.moved hm (fun _ h => h) d x u hx), h.right.moved hm (fun _ h => h) (fun x u hx => TreeG.moved hm (fun _ h => h) d x u hx), h.capA, h.capB, h.mrg, below_trans h.bel hb⟩
/-- One tree goes behind what is done. -/
theorem MrgAt.push {S : Nat → Prop} {w w1 w2 : World} {d : Nat} {all a b a2 b2 xs : List (Tr d)} {la : Option Addr} {lc : Nat} {vs : List Value} {aa aa2 : Option Addr} {ca ca2 : Nat} {ba ba2 : Option Addr} {cb cb2 : Nat} {x : Tr d} {u lv' : Value} {o : Obj} (h : MrgAt S w w1 all a b xs la lc vs aa ca ba cb) (hS : Within S w) (hu : TreeG S w1 d x u)
    (o1 : w2.ownsRow w.heap.size 64 1 lv' (all.length + 1) (vs ++ [u])) (o2 : (w1.alloc o).grownBy w2 (Value.slice la all.length lc).ownBlock)
    (hl : ∀ W, Row1At S W (TreeG S W d) (.slice aa a.length ca) a → Row1At S W (TreeG S W d) (.slice aa2 a2.length ca2) a2) (hr : ∀ W, Row1At S W (TreeG S W d) (.slice ba b.length cb) b → Row1At S W (TreeG S W d) (.slice ba2 b2.length cb2) b2) (hca : a2.length ≤ ca2) (hcb : b2.length ≤ cb2) (hm : Merging (ordT d) (all ++ [x]) a2 b2 xs) :
    ∃ la2 lc2, lv' = .slice la2 (all.length + 1) lc2 ∧ MrgAt S w w2 (all ++ [x]) a2 b2 xs la2 lc2 (vs ++ [u]) aa2 ca2 ba2 cb2 := by
  have hrow1 : ∀ g, (Value.slice la all.length lc).ownBlock = some g → w.heap.size ≤ g := fun g hg => (h.got.1.lt g hg).1
  have hz1 := h.bel.size
  have hblk : ∀ b, b < w.heap.size → w2.heap[b]? = w1.heap[b]? := fun b hb => (o2.block b (by simp; omega) (fun c => by have := hrow1 b c.symm; omega)).trans (Below.heap_alloc _ _ _ (by omega))
  have hs : Same S w1 w2 := fun b hb => hblk b (hS b hb)
  have hg := h.got.grow (ys := [x]) (us := [u]) hs (fun j y v hy hv => by
    cases j with
    | zero => cases hy; cases hv; exact hu
    | succ j => simp at hy) o1
  obtain ⟨la2, lc2, e⟩ := hg.slice
  have hlen : (all ++ [x]).length = all.length + 1 := by rw [List.length_append, List.length_singleton]
  have hz2 : w1.heap.size ≤ w2.heap.size := Nat.le_trans (by simp) o2.size
  refine ⟨la2, lc2, by rw [e, hlen], ?_, hl w2 (h.left.moved hs (fun _ h => h) (fun x u hx => TreeG.moved hs (fun _ h => h) d x u hx)), hr w2 (h.right.moved hs (fun _ h => h) (fun x u hx => TreeG.moved hs (fun _ h => h) d x u hx)), hca, hcb, hm, ?_⟩
  · rw [← e]; exact hg
  · exact ⟨o2.os.trans h.bel.os, o2.tape.trans h.bel.tape, o2.output.trans h.bel.output, by omega, fun b hb => (hblk b hb).trans (h.bel.block b hb)⟩
def rowLen : Value → Nat
  | .slice _ n _ => n
  | _ => 0

set_option maxRecDepth 100000 in
set_option maxHeartbeats 16000000 in
theorem merged_any (d N : Nat) (w : World) (S : Nat → Prop) (hSd : S = fun b => N ≤ b ∧ b < w.heap.size) (xs ys : List (Tr (d + 1))) (aa ba : Option Addr) (ca cb : Nat) (hN : N ≤ w.heap.size) (hx : Row1At S w (TreeG S w (d + 1)) (.slice aa xs.length ca) xs) (hy : Row1At S w (TreeG S w (d + 1)) (.slice ba ys.length cb) ys) (hca : xs.length ≤ ca) (hcb : ys.length ≤ cb) (hl : xs.length + ys.length ≤ 1000)
    (hnx : ∀ x ∈ xs ++ ys, (nodes (d + 1) x : Int) ≤ 4194304) (hox : InOrd (ordT (d + 1)) xs) (hoy : InOrd (ordT (d + 1)) ys) :
    Calls Tryz.prog 90 #[.slice aa xs.length ca, .slice ba ys.length cb, .func (.func 64) #[] #[]] w fun e w' => ∃ sv vs M, e = .returned sv ∧ GF (fun b => N ≤ b ∧ b < M) M w' sv (sortL (ordT (d + 1)) (xs ++ ys)) vs ∧ Below w.heap.size w w' ∧ w.heap.size ≤ M := by
  have hS : Within S w := by rw [hSd]; exact fun b hb => hb.2
  have hst : Hid (MrgAt S w w (d := d + 1) [] xs ys (xs ++ ys) none 0 [] aa ca ba cb) := ⟨GF.nil _ _ _, hx, hy, hca, hcb, Merging.start hox hoy, Below.refl _ _⟩
  have HNX := hide hnx
  have HSD := hide hSd
  clear hx hy hnx hox hoy hSd hca hcb
  go_enter Tryz.func90, Tryz.ntmps90
  go_wp2_with fail
  go_loopw [0, 1, 7] (fun av bv lv wr => ∃ (aa : Option Addr) (na ca : Nat), av = .slice aa na ca ∧ ∃ (ba : Option Addr) (nb cb : Nat), bv = .slice ba nb cb ∧ ∃ (la : Option Addr) (nl lc : Nat), lv = .slice la nl lc ∧ Hid (∃ (all ra rb : List (Tr (d + 1))) (vs : List Value), Hid (na = ra.length ∧ nb = rb.length ∧ nl = all.length) ∧ Hid (MrgAt S w wr all ra rb (xs ++ ys) la lc vs aa ca ba cb))) (fun av bv _ _ => rowLen av + rowLen bv)
  case atStart => exact ⟨aa, _, ca, rfl, ba, _, cb, rfl, none, 0, 0, rfl, [], xs, ys, [], ⟨rfl, rfl, rfl⟩, hst⟩
  case round =>
    clear hst
    obtain ⟨aa, na, ca, rfl, ba, nb, cb, rfl, la, nl, lc, rfl, hh⟩ := hrel
    obtain ⟨all, ra, rb, vs, hn, hM⟩ := hh.out
    clear hh
    have hlen : Hid (all.length + (ra.length + rb.length) = xs.length + ys.length) := by
      have h := hM.out.mrg.perm.length_eq
      rw [List.length_append, List.length_append, List.length_append] at h
      exact h
    have hNL : Hid (nl ≤ 1000) := by show _ ≤ _; rw [hn.out.2.2]; have := hlen.out; omega
    by_cases hgo : 0 < na ∧ 0 < nb
    · obtain ⟨hna, hnb⟩ := hgo
      obtain ⟨x, ra, rfl⟩ : ∃ x r, ra = x :: r := by cases ra with | nil => have := hn.out.1; simp at this; omega | cons x r => exact ⟨x, r, rfl⟩
      obtain ⟨y, rb, rfl⟩ : ∃ x r, rb = x :: r := by cases rb with | nil => have := hn.out.2.1; simp at this; omega | cons x r => exact ⟨x, r, rfl⟩
      have hSr : Within S wr := hS.later hM.out.bel.size
      obtain ⟨b0, o0, u0', rfl, hS0, e0, hu0⟩ := hM.out.left.first
      obtain ⟨b1, o1, u1', rfl, hS1, e1, hu1⟩ := hM.out.right.first
      obtain ⟨T0, u0, rfl⟩ := hu0.iface
      obtain ⟨T1, u1, rfl⟩ := hu1.iface
      have hB0 := hide (hSr b0 hS0)
      have hB1 := hide (hSr b1 hS1)
      have hDr : Below wr.heap.size wr wr.drew := ⟨rfl, rfl, rfl, Nat.le_refl _, fun _ _ => rfl⟩
      have hnod : (nodes (d + 1) x : Int) ≤ 4194304 := HNX.out x (hM.out.mrg.perm.mem_iff.1 (List.mem_append_right _ (List.mem_append_left _ (List.mem_cons_self ..))))
      obtain ⟨o, ho⟩ : ∃ o, Hid (ordT (d + 1) x y = o) := ⟨_, rfl⟩
      have hTT : Hid (∀ W, Below wr.heap.size wr W → TreeG S W (d + 1) x (.iface T0 u0) ∧ TreeG S W (d + 1) y (.iface T1 u1)) := fun W hW => ⟨hu0.same (hSr.same hW), hu1.same (hSr.same hW)⟩
      have hcall : Hid (Calls Tryz.prog 64 #[.iface T0 u0, .iface T1 u1] wr.drew fun e w' => e = .returned (.int .i64 o) ∧ Below wr.drew.heap.size wr.drew w') := by
        have h := treeOrder_any d S x y _ _ wr.drew (hTT.out _ hDr).1 (hTT.out _ hDr).2 (hSr.later hDr.size) hnod
        rw [ho.out] at h
        exact h
      have hCC : Hid (∀ W, Below wr.heap.size wr W → W.cell? ⟨b0, o0, none⟩ = some (.iface T0 u0) ∧ W.cell? ⟨b1, o1, none⟩ = some (.iface T1 u1)) := fun W hW => ⟨(hW.cell (p := ⟨b0, o0, none⟩) hB0.out).trans e0, (hW.cell (p := ⟨b1, o1, none⟩) hB1.out).trans e1⟩
      have KK := hCC
      have hna' : (0 : Int) < (na : Int) := by omega
      have hnb' : (0 : Int) < (nb : Int) := by omega
      clear hu0 hu1 hnod hS0 hS1 hSr e0 e1
      have hcs : o ≤ 0 ∨ ¬ o ≤ 0 := Classical.em _
      go_upto_region 3 with fail
      go_region_held3 (fun w' => w'.cell? ⟨b0, o0, none⟩ = some (.iface T0 u0) ∧ w'.cell? ⟨b1, o1, none⟩ = some (.iface T1 u1))
        ((refine KK.out _ ?_; with_reducible assumption))
        ((go_at_call 64; refine hcall.out.mono ?_; rintro eC wC ⟨rfl, hbC⟩; have bC := below_trans hDr hbC))
      all_goals
        rcases hcs with hcs | hcs
        · rcases (Classical.em _ : ca = 1 ∨ ca ≠ 1) with rfl | hc1
          ·
            have hM2 := hM.out.go (below_trans hDr hbC) hS
            have hown0 : wC.drew.ownsRow w.heap.size 64 1 (.slice la nl lc) nl vs := by
              have h := hM2.got.1
              rw [← hn.out.2.2] at h
              exact h
            have hown1 := hide (hown0.alloc (.cells #[.iface T0 u0] 64))
            have hcn : Hid (∀ j v, ([.iface T0 u0] : List Value)[j]? = some v → (wC.drew.alloc (.cells #[.iface T0 u0] 64)).cell? ((⟨wC.heap.size, 0, none⟩ : Addr).add j) = some v) := cell_one_new wC.drew _ _
            have hcc := hCC.out wC (below_trans hDr hbC)
            have e0C := hcc.1
            have e0D : (wC.drew).cell? ⟨b0, o0, none⟩ = some (.iface T0 u0) := e0C
            have hbl : b0 < wC.heap.size := by have := hbC.size; have : wr.drew.heap.size = wr.heap.size := rfl; have := hB0.out; omega
            have hNN : w.heap.size ≤ wC.heap.size := hM2.bel.size
            have hnl : nl ≤ 1000 := hNL.out
            obtain ⟨i0, hi, hz0, hz1, hz2⟩ := info_parts Tryz.infoTree
            have HM2 := hide hM2
            have HPU := hide (hCC.out wC.drew (below_trans (below_trans hDr hbC) ⟨rfl, rfl, rfl, Nat.le_refl _, fun _ _ => rfl⟩))
            have HTR := hide (hTT.out wC.drew (below_trans (below_trans hDr hbC) ⟨rfl, rfl, rfl, Nat.le_refl _, fun _ _ => rfl⟩))
            clear hM2 hM hcc hown0 hcall KK hDr
            have h1n : (1 : Int) ≤ (na : Int) := by omega
            go_wp2_with fail
            go_region_law ((refine step_append_run _ (by rfl) _ _ 74 (by rfl) _ _ (by rfl) (by rfl) (run_append_own_at (P := Tryz.prog) _ w.heap.size 74 _ 64 i0 .nilIface 1 16 Tryz.underlying74 hi hz0 hz1 hz2 rfl (by decide) _ _ _ hown1.out ⟨wC.heap.size, 0, none⟩ 1 1 [.iface T0 u0] rfl hcn.out (by intro y hy; simp at hy; subst hy; rfl) (by unfold maxLen; omega) (by omega) (by rw [World.size_alloc]; show w.heap.size ≤ wC.heap.size + 1; omega)) ?_; rintro v' w2 ⟨q1, q2, q4, q3⟩; clear q4; obtain ⟨va, vc, rfl⟩ := row_slice1 q1))
            all_goals
              have hD : MrgAt S w wC.drew all (x :: ra) (y :: rb) (xs ++ ys) la lc vs (some ⟨b0, o0, none⟩) 1 (some ⟨b1, o1, none⟩) cb := HM2.out.go ⟨rfl, rfl, rfl, Nat.le_refl _, fun _ _ => rfl⟩ hS
              have hca := hD.capA
              have hcb := hD.capB
              have hca1 : ra.length + 1 ≤ 1 := hca
              have hcb1 : rb.length + 1 ≤ cb := hcb
              obtain ⟨la2, lc2, e2, hP⟩ := hD.push (x := x) (u := .iface T0 u0) (lv' := .slice va (nl + 1) vc) (w2 := w2) (a2 := ra) (b2 := (y :: rb)) (aa2 := some ⟨b0, o0, none⟩) (ca2 := 0) (ba2 := some ⟨b1, o1, none⟩) (cb2 := cb) hS HTR.out.1 (by rw [← hn.out.2.2]; exact q1) (by rw [← hn.out.2.2]; exact q2) (fun W h => Row1At.nextA hca1) (fun W h => h) (by omega) hcb (hD.mrg.one (ord_T (d + 1)) (by rw [ho.out]; exact hcs))
              have HN2 : Hid ((na - 1) = ra.length ∧ nb = (y :: rb).length ∧ nl + 1 = (all ++ [x]).length) := ⟨(by have h : na = ra.length + 1 := hn.out.1; omega), hn.out.2.1, by rw [List.length_append, List.length_singleton, hn.out.2.2]⟩
              have HP := hide hP
              have e3 := Value.slice.inj e2
              obtain rfl := e3.1
              obtain rfl := e3.2.2
              clear e3 e2
              clear hD hP hca hcb hca1 hcb1 q1 q2 q3 HM2 HTR HPU hown1 hcn hTT hCC e0C e0D
              go_wp2_with fail
              go_roundw
              case rel =>
                (repeat apply Exists.intro)
                exact ⟨⟨_, (na - 1), 0, rfl, _, nb, cb, rfl, va, nl + 1, vc, rfl, hide ⟨all ++ [x], ra, (y :: rb), _, HN2, HP⟩⟩, rfl⟩
              case measure =>
                show (na - 1) + nb < na + nb
                omega
          ·
            have hM2 := hM.out.go (below_trans hDr hbC) hS
            have hown0 : wC.drew.ownsRow w.heap.size 64 1 (.slice la nl lc) nl vs := by
              have h := hM2.got.1
              rw [← hn.out.2.2] at h
              exact h
            have hown1 := hide (hown0.alloc (.cells #[.iface T0 u0] 64))
            have hcn : Hid (∀ j v, ([.iface T0 u0] : List Value)[j]? = some v → (wC.drew.alloc (.cells #[.iface T0 u0] 64)).cell? ((⟨wC.heap.size, 0, none⟩ : Addr).add j) = some v) := cell_one_new wC.drew _ _
            have hcc := hCC.out wC (below_trans hDr hbC)
            have e0C := hcc.1
            have e0D : (wC.drew).cell? ⟨b0, o0, none⟩ = some (.iface T0 u0) := e0C
            have hbl : b0 < wC.heap.size := by have := hbC.size; have : wr.drew.heap.size = wr.heap.size := rfl; have := hB0.out; omega
            have hNN : w.heap.size ≤ wC.heap.size := hM2.bel.size
            have hnl : nl ≤ 1000 := hNL.out
            obtain ⟨i0, hi, hz0, hz1, hz2⟩ := info_parts Tryz.infoTree
            have HM2 := hide hM2
            have HPU := hide (hCC.out wC.drew (below_trans (below_trans hDr hbC) ⟨rfl, rfl, rfl, Nat.le_refl _, fun _ _ => rfl⟩))
            have HTR := hide (hTT.out wC.drew (below_trans (below_trans hDr hbC) ⟨rfl, rfl, rfl, Nat.le_refl _, fun _ _ => rfl⟩))
            clear hM2 hM hcc hown0 hcall KK hDr
            have h1n : (1 : Int) ≤ (na : Int) := by omega
            go_wp2_with fail
            go_region_law ((refine step_append_run _ (by rfl) _ _ 74 (by rfl) _ _ (by rfl) (by rfl) (run_append_own_at (P := Tryz.prog) _ w.heap.size 74 _ 64 i0 .nilIface 1 16 Tryz.underlying74 hi hz0 hz1 hz2 rfl (by decide) _ _ _ hown1.out ⟨wC.heap.size, 0, none⟩ 1 1 [.iface T0 u0] rfl hcn.out (by intro y hy; simp at hy; subst hy; rfl) (by unfold maxLen; omega) (by omega) (by rw [World.size_alloc]; show w.heap.size ≤ wC.heap.size + 1; omega)) ?_; rintro v' w2 ⟨q1, q2, q4, q3⟩; clear q4; obtain ⟨va, vc, rfl⟩ := row_slice1 q1))
            all_goals
              have hD : MrgAt S w wC.drew all (x :: ra) (y :: rb) (xs ++ ys) la lc vs (some ⟨b0, o0, none⟩) ca (some ⟨b1, o1, none⟩) cb := HM2.out.go ⟨rfl, rfl, rfl, Nat.le_refl _, fun _ _ => rfl⟩ hS
              have hca := hD.capA
              have hcb := hD.capB
              have hca1 : ra.length + 1 ≤ ca := hca
              have hcb1 : rb.length + 1 ≤ cb := hcb
              obtain ⟨la2, lc2, e2, hP⟩ := hD.push (x := x) (u := .iface T0 u0) (lv' := .slice va (nl + 1) vc) (w2 := w2) (a2 := ra) (b2 := (y :: rb)) (aa2 := some ⟨b0, o0 + 1, none⟩) (ca2 := (ca - 1)) (ba2 := some ⟨b1, o1, none⟩) (cb2 := cb) hS HTR.out.1 (by rw [← hn.out.2.2]; exact q1) (by rw [← hn.out.2.2]; exact q2) (fun W h => h.rest) (fun W h => h) (by omega) hcb (hD.mrg.one (ord_T (d + 1)) (by rw [ho.out]; exact hcs))
              have HN2 : Hid ((na - 1) = ra.length ∧ nb = (y :: rb).length ∧ nl + 1 = (all ++ [x]).length) := ⟨(by have h : na = ra.length + 1 := hn.out.1; omega), hn.out.2.1, by rw [List.length_append, List.length_singleton, hn.out.2.2]⟩
              have HP := hide hP
              have e3 := Value.slice.inj e2
              obtain rfl := e3.1
              obtain rfl := e3.2.2
              clear e3 e2
              clear hD hP hca hcb hca1 hcb1 q1 q2 q3 HM2 HTR HPU hown1 hcn hTT hCC e0C e0D
              go_wp2_with fail
              go_roundw
              case rel =>
                (repeat apply Exists.intro)
                exact ⟨⟨_, (na - 1), (ca - 1), rfl, _, nb, cb, rfl, va, nl + 1, vc, rfl, hide ⟨all ++ [x], ra, (y :: rb), _, HN2, HP⟩⟩, rfl⟩
              case measure =>
                show (na - 1) + nb < na + nb
                omega
        · rcases (Classical.em _ : cb = 1 ∨ cb ≠ 1) with rfl | hc1
          ·
            have hM2 := hM.out.go (below_trans hDr hbC) hS
            have hown0 : wC.drew.ownsRow w.heap.size 64 1 (.slice la nl lc) nl vs := by
              have h := hM2.got.1
              rw [← hn.out.2.2] at h
              exact h
            have hown1 := hide (hown0.alloc (.cells #[.iface T1 u1] 64))
            have hcn : Hid (∀ j v, ([.iface T1 u1] : List Value)[j]? = some v → (wC.drew.alloc (.cells #[.iface T1 u1] 64)).cell? ((⟨wC.heap.size, 0, none⟩ : Addr).add j) = some v) := cell_one_new wC.drew _ _
            have hcc := hCC.out wC (below_trans hDr hbC)
            have e1C := hcc.2
            have e1D : (wC.drew).cell? ⟨b1, o1, none⟩ = some (.iface T1 u1) := e1C
            have hbl : b1 < wC.heap.size := by have := hbC.size; have : wr.drew.heap.size = wr.heap.size := rfl; have := hB1.out; omega
            have hNN : w.heap.size ≤ wC.heap.size := hM2.bel.size
            have hnl : nl ≤ 1000 := hNL.out
            obtain ⟨i0, hi, hz0, hz1, hz2⟩ := info_parts Tryz.infoTree
            have HM2 := hide hM2
            have HPU := hide (hCC.out wC.drew (below_trans (below_trans hDr hbC) ⟨rfl, rfl, rfl, Nat.le_refl _, fun _ _ => rfl⟩))
            have HTR := hide (hTT.out wC.drew (below_trans (below_trans hDr hbC) ⟨rfl, rfl, rfl, Nat.le_refl _, fun _ _ => rfl⟩))
            clear hM2 hM hcc hown0 hcall KK hDr
            have h1n : (1 : Int) ≤ (nb : Int) := by omega
            go_wp2_with fail
            go_region_law ((refine step_append_run _ (by rfl) _ _ 74 (by rfl) _ _ (by rfl) (by rfl) (run_append_own_at (P := Tryz.prog) _ w.heap.size 74 _ 64 i0 .nilIface 1 16 Tryz.underlying74 hi hz0 hz1 hz2 rfl (by decide) _ _ _ hown1.out ⟨wC.heap.size, 0, none⟩ 1 1 [.iface T1 u1] rfl hcn.out (by intro y hy; simp at hy; subst hy; rfl) (by unfold maxLen; omega) (by omega) (by rw [World.size_alloc]; show w.heap.size ≤ wC.heap.size + 1; omega)) ?_; rintro v' w2 ⟨q1, q2, q4, q3⟩; clear q4; obtain ⟨va, vc, rfl⟩ := row_slice1 q1))
            all_goals
              have hD : MrgAt S w wC.drew all (x :: ra) (y :: rb) (xs ++ ys) la lc vs (some ⟨b0, o0, none⟩) ca (some ⟨b1, o1, none⟩) 1 := HM2.out.go ⟨rfl, rfl, rfl, Nat.le_refl _, fun _ _ => rfl⟩ hS
              have hca := hD.capA
              have hcb := hD.capB
              have hca1 : ra.length + 1 ≤ ca := hca
              have hcb1 : rb.length + 1 ≤ 1 := hcb
              obtain ⟨la2, lc2, e2, hP⟩ := hD.push (x := y) (u := .iface T1 u1) (lv' := .slice va (nl + 1) vc) (w2 := w2) (a2 := (x :: ra)) (b2 := rb) (aa2 := some ⟨b0, o0, none⟩) (ca2 := ca) (ba2 := some ⟨b1, o1, none⟩) (cb2 := 0) hS HTR.out.2 (by rw [← hn.out.2.2]; exact q1) (by rw [← hn.out.2.2]; exact q2) (fun W h => h) (fun W h => Row1At.nextA hcb1) hca (by omega) (hD.mrg.two (ord_T (d + 1)) (by rw [ho.out]; omega))
              have HN2 : Hid (na = (x :: ra).length ∧ (nb - 1) = rb.length ∧ nl + 1 = (all ++ [y]).length) := ⟨hn.out.1, (by have h : nb = rb.length + 1 := hn.out.2.1; omega), by rw [List.length_append, List.length_singleton, hn.out.2.2]⟩
              have HP := hide hP
              have e3 := Value.slice.inj e2
              obtain rfl := e3.1
              obtain rfl := e3.2.2
              clear e3 e2
              clear hD hP hca hcb hca1 hcb1 q1 q2 q3 HM2 HTR HPU hown1 hcn hTT hCC e1C e1D
              go_wp2_with fail
              go_roundw
              case rel =>
                (repeat apply Exists.intro)
                exact ⟨⟨_, na, ca, rfl, _, (nb - 1), 0, rfl, va, nl + 1, vc, rfl, hide ⟨all ++ [y], (x :: ra), rb, _, HN2, HP⟩⟩, rfl⟩
              case measure =>
                show na + (nb - 1) < na + nb
                omega
          ·
            have hM2 := hM.out.go (below_trans hDr hbC) hS
            have hown0 : wC.drew.ownsRow w.heap.size 64 1 (.slice la nl lc) nl vs := by
              have h := hM2.got.1
              rw [← hn.out.2.2] at h
              exact h
            have hown1 := hide (hown0.alloc (.cells #[.iface T1 u1] 64))
            have hcn : Hid (∀ j v, ([.iface T1 u1] : List Value)[j]? = some v → (wC.drew.alloc (.cells #[.iface T1 u1] 64)).cell? ((⟨wC.heap.size, 0, none⟩ : Addr).add j) = some v) := cell_one_new wC.drew _ _
            have hcc := hCC.out wC (below_trans hDr hbC)
            have e1C := hcc.2
            have e1D : (wC.drew).cell? ⟨b1, o1, none⟩ = some (.iface T1 u1) := e1C
            have hbl : b1 < wC.heap.size := by have := hbC.size; have : wr.drew.heap.size = wr.heap.size := rfl; have := hB1.out; omega
            have hNN : w.heap.size ≤ wC.heap.size := hM2.bel.size
            have hnl : nl ≤ 1000 := hNL.out
            obtain ⟨i0, hi, hz0, hz1, hz2⟩ := info_parts Tryz.infoTree
            have HM2 := hide hM2
            have HPU := hide (hCC.out wC.drew (below_trans (below_trans hDr hbC) ⟨rfl, rfl, rfl, Nat.le_refl _, fun _ _ => rfl⟩))
            have HTR := hide (hTT.out wC.drew (below_trans (below_trans hDr hbC) ⟨rfl, rfl, rfl, Nat.le_refl _, fun _ _ => rfl⟩))
            clear hM2 hM hcc hown0 hcall KK hDr
            have h1n : (1 : Int) ≤ (nb : Int) := by omega
            go_wp2_with fail
            go_region_law ((refine step_append_run _ (by rfl) _ _ 74 (by rfl) _ _ (by rfl) (by rfl) (run_append_own_at (P := Tryz.prog) _ w.heap.size 74 _ 64 i0 .nilIface 1 16 Tryz.underlying74 hi hz0 hz1 hz2 rfl (by decide) _ _ _ hown1.out ⟨wC.heap.size, 0, none⟩ 1 1 [.iface T1 u1] rfl hcn.out (by intro y hy; simp at hy; subst hy; rfl) (by unfold maxLen; omega) (by omega) (by rw [World.size_alloc]; show w.heap.size ≤ wC.heap.size + 1; omega)) ?_; rintro v' w2 ⟨q1, q2, q4, q3⟩; clear q4; obtain ⟨va, vc, rfl⟩ := row_slice1 q1))
            all_goals
              have hD : MrgAt S w wC.drew all (x :: ra) (y :: rb) (xs ++ ys) la lc vs (some ⟨b0, o0, none⟩) ca (some ⟨b1, o1, none⟩) cb := HM2.out.go ⟨rfl, rfl, rfl, Nat.le_refl _, fun _ _ => rfl⟩ hS
              have hca := hD.capA
              have hcb := hD.capB
              have hca1 : ra.length + 1 ≤ ca := hca
              have hcb1 : rb.length + 1 ≤ cb := hcb
              obtain ⟨la2, lc2, e2, hP⟩ := hD.push (x := y) (u := .iface T1 u1) (lv' := .slice va (nl + 1) vc) (w2 := w2) (a2 := (x :: ra)) (b2 := rb) (aa2 := some ⟨b0, o0, none⟩) (ca2 := ca) (ba2 := some ⟨b1, o1 + 1, none⟩) (cb2 := (cb - 1)) hS HTR.out.2 (by rw [← hn.out.2.2]; exact q1) (by rw [← hn.out.2.2]; exact q2) (fun W h => h) (fun W h => h.rest) hca (by omega) (hD.mrg.two (ord_T (d + 1)) (by rw [ho.out]; omega))
              have HN2 : Hid (na = (x :: ra).length ∧ (nb - 1) = rb.length ∧ nl + 1 = (all ++ [y]).length) := ⟨hn.out.1, (by have h : nb = rb.length + 1 := hn.out.2.1; omega), by rw [List.length_append, List.length_singleton, hn.out.2.2]⟩
              have HP := hide hP
              have e3 := Value.slice.inj e2
              obtain rfl := e3.1
              obtain rfl := e3.2.2
              clear e3 e2
              clear hD hP hca hcb hca1 hcb1 q1 q2 q3 HM2 HTR HPU hown1 hcn hTT hCC e1C e1D
              go_wp2_with fail
              go_roundw
              case rel =>
                (repeat apply Exists.intro)
                exact ⟨⟨_, na, ca, rfl, _, (nb - 1), (cb - 1), rfl, va, nl + 1, vc, rfl, hide ⟨all ++ [y], (x :: ra), rb, _, HN2, HP⟩⟩, rfl⟩
              case measure =>
                show na + (nb - 1) < na + nb
                omega
    · have hends : ra = [] ∨ rb = [] := by
        cases ra with
        | nil => exact Or.inl rfl
        | cons x r =>
          cases rb with
          | nil => exact Or.inr rfl
          | cons y q =>
            have h1 := hn.out.1
            have h2 := hn.out.2.1
            simp at h1 h2
            omega
      have hsrt := hide (hM.out.mrg.ends hends)
      have hSr : Within S wr := hS.later hM.out.bel.size
      have hsub : ∀ b, S b → N ≤ b ∧ b < wr.heap.size := by
        intro b hb
        have h1 := hSr b hb
        rw [HSD.out] at hb
        exact ⟨hb.1, h1⟩
      have hA := below_alloc1 wr (.cells #[.slice la nl lc, .slice aa na ca, .slice ba nb cb] 74)
      have hf1 : (wr.alloc (.cells #[.slice la nl lc, .slice aa na ca, .slice ba nb cb] 74)).heap[wr.heap.size]? = some (.cells #[.slice la nl lc, .slice aa na ca, .slice ba nb cb] 74 (0, 0)) := heap_alloc_new _ _
      obtain ⟨W1, HW1⟩ : ∃ W1, Hid (wr.alloc (.cells #[.slice la nl lc, .slice aa na ca, .slice ba nb cb] 74) = W1) := ⟨_, rfl⟩
      rw [HW1.out] at hA hf1
      have hw1 : W1.heap.size = wr.heap.size + 1 := by rw [← HW1.out]; simp
      have hS1 : Within (fun b => N ≤ b ∧ b < wr.heap.size) W1 := fun b hb => by have := hb.2; omega
      have hm1 : Same (fun b => N ≤ b ∧ b < wr.heap.size) wr W1 := fun b hb => hA.block b hb.2
      have hbw := hM.out.bel.size
      have hto1 : ∀ (v : Value) (zs : List (Tr (d + 1))), Row1At S wr (TreeG S wr (d + 1)) v zs → Row1At (fun b => N ≤ b ∧ b < wr.heap.size) W1 (TreeG (fun b => N ≤ b ∧ b < wr.heap.size) W1 (d + 1)) v zs := fun v zs h =>
        h.moved (fun b hb => hm1 b (hsub b hb)) hsub (fun x u hx => TreeG.moved (fun b hb => hm1 b (hsub b hb)) hsub (d + 1) x u hx)
      have hra := hto1 _ _ hM.out.left
      have hrb := hto1 _ _ hM.out.right
      have hal0 := hM.out.got.row (M := N) (by rw [← hn.out.2.2]; exact hNL.out) (by omega) hsub
      have hal := hal0.moved (w' := W1) (At' := TreeG (fun b => N ≤ b ∧ b < wr.heap.size) W1 (d + 1)) hm1 (fun _ h => h) (fun x u hx => TreeG.moved hm1 (fun _ h => h) (d + 1) x u hx)
      have hln := hlen.out
      have hcall := concat3_any (d + 1) (fun b => N ≤ b ∧ b < wr.heap.size) all ra rb la aa ba lc ca cb wr.heap.size W1 hal hra hrb hS1 (by rw [← hn.out.2.2]; unfold World.cell?; rw [hf1]; rfl) (by rw [← hn.out.1]; unfold World.cell?; rw [hf1]; rfl) (by rw [← hn.out.2.1]; unfold World.cell?; rw [hf1]; rfl) (by omega) (by omega) (by omega) (by omega)
      have HC := hide hcall
      have HB := hide (below_trans hM.out.bel hA)
      have hng : ¬ (0 : Int) < (na : Int) ∨ ¬ (0 : Int) < (nb : Int) := by omega
      have hz : wr.heap.size < W1.heap.size := by omega
      clear hcall hal hal0 hra hrb hto1 hm1 hS1 hf1 hA hsub hSr hends hM hw1 hln hlen hn hNL
      rcases hng with hng | hng
      · go_wp2_with fail
        rw [HW1.out]
        refine Calls.mono HC.out ?_
        rintro e w2 ⟨sv, vs2, rfl, hgf, hb2⟩
        have HG := hide hgf
        have HB2 := hide (below_trans HB.out hb2)
        clear hgf hb2 HC HB
        go_wp2_with fail
        go_ret
        refine ⟨sv, vs2, W1.heap.size, rfl, ?_, HB2.out, by omega⟩
        rw [← hsrt.out]
        exact ⟨HG.out.1, fun j x u hx hu => (HG.out.2 j x u hx hu).mono (fun b hb => ⟨hb.1, by have := hb.2; omega⟩)⟩
      · rcases (Classical.em _ : (0 : Int) < (na : Int) ∨ ¬ (0 : Int) < (na : Int)) with hng2 | hng2
        · go_wp2_with fail
          rw [HW1.out]
          refine Calls.mono HC.out ?_
          rintro e w2 ⟨sv, vs2, rfl, hgf, hb2⟩
          have HG := hide hgf
          have HB2 := hide (below_trans HB.out hb2)
          clear hgf hb2 HC HB
          go_wp2_with fail
          go_ret
          refine ⟨sv, vs2, W1.heap.size, rfl, ?_, HB2.out, by omega⟩
          rw [← hsrt.out]
          exact ⟨HG.out.1, fun j x u hx hu => (HG.out.2 j x u hx hu).mono (fun b hb => ⟨hb.1, by have := hb.2; omega⟩)⟩
        · go_wp2_with fail
          rw [HW1.out]
          refine Calls.mono HC.out ?_
          rintro e w2 ⟨sv, vs2, rfl, hgf, hb2⟩
          have HG := hide hgf
          have HB2 := hide (below_trans HB.out hb2)
          clear hgf hb2 HC HB
          go_wp2_with fail
          go_ret
          refine ⟨sv, vs2, W1.heap.size, rfl, ?_, HB2.out, by omega⟩
          rw [← hsrt.out]
          exact ⟨HG.out.1, fun j x u hx hu => (HG.out.2 j x u hx hu).mono (fun b hb => ⟨hb.1, by have := hb.2; omega⟩)⟩
end Go.Proofs.YtilgbnnjecpneaaGreatDoor
