/- Texts of the proof, put together by program: WEachI, WTold2, LPartC. -/
import Derived.Test.YtgjahnkldobphaaGreatDoorP30
import Derived.Test.YtgjahnkldobphaaGreatDoorP11
import Derived.Test.YtgjahnkldobphaaGreatDoorP7
import Derived.Test.YtgjahnkldobphaaGreatDoorP15
import Derived.Test.YtgjahnkldobphaaGreatDoorP16
import Derived.Test.YtgjahnkldobphaaGreatDoorP18
import Derived.Test.YtgjahnkldobphaaGreatDoorP22
import Derived.Test.YtgjahnkldobphaaGreatDoorP25
import Derived.Test.YtgjahnkldobphaaGreatDoorP26
import Derived.Test.YtgjahnkldobphaaGreatDoorP27
import Derived.Test.YtgjahnkldobphaaGreatDoorP29
import Derived.Test.YtgjahnkldobphaaGreatDoorP17
/- PartEach of the program. -/
namespace Go.Proofs.YtgjahnkldobphaaGreatDoor
open Go.RowKit Go.Deep

set_option maxRecDepth 100000 in
set_option maxHeartbeats 4000000 in
theorem implPartEach_any (d : Nat) (S : Nat → Prop) (t : Tr (d + 1)) (v : Value) (w : World) (hv : ValAt S w (d + 1) t v) (hS : Within S w) (hg : ErrType w) :
    Calls Tryz.prog 19 #[v] w (TellRQ d (eachT d t).1 (eachT d t).2 w) := by
  obtain ⟨k, n, s, ak, lk, ck, al, ll, cl, rfl⟩ := hv.shape
  have hA := below_alloc1 w (.cells #[.int .i64 k, .int .i64 n, .string s, .slice ak lk ck, .slice al ll cl] 26)
  go_enter Tryz.func19, Tryz.ntmps19
  go_wp2_with fail
  refine (withParts_any d S t _ _ (hv.same (hS.same hA)) (hS.later hA.size)).mono ?_
  rintro e w1 ⟨hb1, hq⟩
  have hB1 := below_trans hA hb1
  have hg1 := hg.below hB1
  clear hv hb1 hA
  -- what is told, however it is
  have hfin : ∀ (x : Tr (d + 1)) (ok : Bool), Hid (∀ e w2, TellQ d x ok w1 e w2 → ∃ v0 v1 v2 v3 v4 v5 v6 v7 v8, e = .returned (.tuple #[.agg #[.int .i64 v0, .int .i64 v1, .string v2, .slice v3 v4 v5, .slice v6 v7 v8], .bool ok]) ∧ Below w.heap.size w w2 ∧
      ∀ o, RowOwn (w2.alloc o) (fun P y u => ValOwn (w2.alloc o) d P y u) (Fresh w (w2.alloc o)) (.slice v6 v7 v8) (Nd.list x) ∧ Below w.heap.size w (w2.alloc o)) := fun x ok => by
    intro e w2 ⟨v, he, hv, hb2⟩
    obtain ⟨v0, v1, v2, v3, v4, v5, v6, v7, v8, rfl⟩ := (ValOwn.at _ _ _ _ hv).shape
    have hB2 := below_trans hB1 hb2
    refine ⟨v0, v1, v2, v3, v4, v5, v6, v7, v8, he, hB2, fun o => ⟨?_, below_trans hB2 (below_alloc1 _ _)⟩⟩
    obtain ⟨vk, vl, Sk, Sl, hvv, _, _, _, _, hl, _, s2, _⟩ := hv
    cases hvv
    have hs1 := hB1.size
    have hsm : ∀ R : Nat → Prop, (∀ b, R b → Sl b) → Same R w2 (w2.alloc o) := fun R hR b hb => Below.heap_alloc _ _ _ (s2 b (hR b hb)).2
    exact hl.moved (hsm Sl (fun _ h => h)) (fun b hb => ⟨by have := (s2 b hb).1; omega, by have := (s2 b hb).2; simp; omega⟩) (fun P y u hP hy => ValOwn.moved d P P y u hy (hsm P (fun b hb => hP b hb)) (fun _ h => h))
  rcases hq with ⟨hok, h5, u, rfl, hu⟩ | ⟨hno, why, rfl⟩
  · obtain ⟨T, u', rfl⟩ := hu.iface
    have HR : Hid (eachT d t = (Nd.list (toldT d t), okT (d + 1) t)) := by
      show eachT d t = _
      rw [eachT, if_pos ⟨hok, h5⟩, toldT, if_pos hok, hok]
    have hcall := hide (told_tree d _ t _ w1 hu (Fresh.within _ _))
    clear hu hok h5
    go_wp2_with fail
    refine Calls.mono hcall.out ?_
    intro e w2 hq
    obtain ⟨v0, v1, v2, v3, v4, v5, v6, v7, v8, rfl, hb2, hF⟩ := (hfin _ _).out e w2 hq
    have HF := hide hF
    clear hF hq hfin hcall hb2
    go_wp2_with fail
    go_ret2
    exact ⟨_, by rw [HR.out]; rfl, by rw [HR.out]; exact (HF.out _).1, (HF.out _).2⟩
  · have HR : Hid (eachT d t = (Nd.list (zeroT d), false)) := by
      show eachT d t = _
      rw [eachT, if_neg hno]
      rfl
    have hcall := hide (told_fault d .nilIface why w1 hg1)
    unfold faultV
    clear hno
    go_wp2_with fail
    refine Calls.mono hcall.out ?_
    intro e w2 hq
    obtain ⟨v0, v1, v2, v3, v4, v5, v6, v7, v8, rfl, hb2, hF⟩ := (hfin _ _).out e w2 hq
    have HF := hide hF
    clear hF hq hfin hcall hb2
    go_wp2_with fail
    go_ret2
    exact ⟨_, by rw [HR.out]; rfl, by rw [HR.out]; exact (HF.out _).1, (HF.out _).2⟩
end Go.Proofs.YtgjahnkldobphaaGreatDoor

/- An answer, in a variable of its own. -/
namespace Go.Proofs.YtgjahnkldobphaaGreatDoor
open Go.RowKit Go.Deep

/-- An answer, in a variable of its own at b. -/
structure ToldIn (e lo b : Nat) (t : Tr (e + 1)) (w wc : World) (p0 p1 : Int) (p2 : ByteArray) (p3 : Option Addr) (p4 p5 : Nat) (p6 : Option Addr) (p7 p8 : Nat) : Prop where
  var : Blk5 wc b 26 (.int .i64 p0) (.int .i64 p1) (.string p2) (.slice p3 p4 p5) (.slice p6 p7 p8)
  val : ValAt (fun x => lo ≤ x ∧ x < wc.heap.size ∧ x ≠ b) wc (e + 1) t (.agg #[.int .i64 p0, .int .i64 p1, .string p2, .slice p3 p4 p5, .slice p6 p7 p8])
  below : Below lo w wc
  lob : lo ≤ b

theorem told_set {e lo b : Nat} {t : Tr (e + 1)} {w W : World} {p0 p1 : Int} {p2 : ByteArray} {p3 : Option Addr} {p4 p5 : Nat} {p6 : Option Addr} {p7 p8 : Nat} {c0 c1 c2 c3 c4 : Value} {S : Nat → Prop} (hz : Blk5 W b 26 c0 c1 c2 c3 c4) (hlo : lo ≤ b) (hb : Below lo w W)
    (ha : ValAt S W (e + 1) t (.agg #[.int .i64 p0, .int .i64 p1, .string p2, .slice p3 p4 p5, .slice p6 p7 p8])) (hS : ∀ x, S x → lo ≤ x ∧ x < W.heap.size ∧ x ≠ b) :
    ToldIn e lo b t w (set5 W b 0 (.int .i64 p0) (.int .i64 p1) (.string p2) (.slice p3 p4 p5) (.slice p6 p7 p8)) p0 p1 p2 p3 p4 p5 p6 p7 p8 := by
  refine ⟨?_, ?_, below_set5 hb hlo _ _ _ _ _ _, hlo⟩
  · unfold Blk5 at hz ⊢
    simp [set5, World.setCell, Array.getElem?_modify, hz]
  · exact ValAt.moved (fun x hx => set5_block _ _ _ _ _ _ _ _ _ (hS x hx).2.2) (fun x hx => ⟨(hS x hx).1, by rw [set5_size]; exact (hS x hx).2.1, (hS x hx).2.2⟩) _ _ _ ha
theorem told_new {e lo : Nat} {t : Tr (e + 1)} {w W : World} {p0 p1 : Int} {p2 : ByteArray} {p3 : Option Addr} {p4 p5 : Nat} {p6 : Option Addr} {p7 p8 : Nat} {S : Nat → Prop} (hlo : lo ≤ W.heap.size) (hb : Below lo w W)
    (ha : ValAt S W (e + 1) t (.agg #[.int .i64 p0, .int .i64 p1, .string p2, .slice p3 p4 p5, .slice p6 p7 p8])) (hS : ∀ x, S x → lo ≤ x ∧ x < W.heap.size) :
    ToldIn e lo W.heap.size t w (W.alloc (.cells #[.int .i64 p0, .int .i64 p1, .string p2, .slice p3 p4 p5, .slice p6 p7 p8] 26)) p0 p1 p2 p3 p4 p5 p6 p7 p8 := by
  refine ⟨Blk5.new _ _ _ _ _ _ _, ?_, hb.alloc hlo _, hlo⟩
  exact ValAt.moved (fun x hx => Below.heap_alloc _ _ _ (hS x hx).2) (fun x hx => ⟨(hS x hx).1, by have := (hS x hx).2; simp; omega, by have := (hS x hx).2; omega⟩) _ _ _ ha
theorem Fresh.within' (w : World) {w' w2 : World} (h : w'.heap.size ≤ w2.heap.size) : Within (Fresh w w') w2 := fun _ hb => Nat.lt_of_lt_of_le hb.2 h
theorem newDrew (w : World) (T : TypeId) (c0 c1 c2 c3 c4 : Value) : Blk5 (w.alloc (.cells #[c0, c1, c2, c3, c4] T)).drew w.heap.size T c0 c1 c2 c3 c4 := Blk5.new w T c0 c1 c2 c3 c4
theorem belowChain {n b : Nat} {w W : World} {T : TypeId} {c0 c1 c2 c3 c4 : Value} (hb : Below n w W) (_hz : Blk5 W b T c0 c1 c2 c3 c4) (hle : n ≤ b) (v0 v1 v2 v3 v4 : Value) : Below n w (((((W.setCell ⟨b, 0, none⟩ v0).setCell ⟨b, 1, none⟩ v1).setCell ⟨b, 2, none⟩ v2).setCell ⟨b, 3, none⟩ v3).setCell ⟨b, 4, none⟩ v4) :=
  below_set5 hb hle 0 v0 v1 v2 v3 v4
end Go.Proofs.YtgjahnkldobphaaGreatDoor

/- The laws of chapter 2: what their calls give, and how their variables lie. -/
namespace Go.Proofs.YtgjahnkldobphaaGreatDoor
open Go.RowKit Go.Deep

/-- What is told: a tree in new plain memory, and whether it can be done. -/
def TQ (w : World) (d : Nat) (t : Tr d) (ok : Bool) (W : World) (e : Ending) (w' : World) : Prop :=
  ∃ (c0 c1 : Int) (c2 : ByteArray) (c3 : Option Addr) (c4 c5 : Nat) (c6 : Option Addr) (c7 c8 : Nat), e = .returned (.tuple #[.agg #[.int .i64 c0, .int .i64 c1, .string c2, .slice c3 c4 c5, .slice c6 c7 c8], .bool ok]) ∧
    ValAt (FreshP w w') w' d t (.agg #[.int .i64 c0, .int .i64 c1, .string c2, .slice c3 c4 c5, .slice c6 c7 c8]) ∧ Below W.heap.size W w'
theorem tq_of {w W w' : World} {d : Nat} {t : Tr (d + 1)} {ok : Bool} {e : Ending} (hl : w.heap.size ≤ W.heap.size) (h : TellQ d t ok W e w') : TQ w (d + 1) t ok W e w' := by
  obtain ⟨v, rfl, hv, hb⟩ := h
  have hp := (own_plain (d + 1) _ t v hv).mono (S' := FreshP w w') (fun b hb' => ⟨⟨Nat.le_trans hl hb'.1.1, hb'.1.2⟩, hb'.2⟩)
  obtain ⟨c0, c1, c2, c3, c4, c5, c6, c7, c8, rfl⟩ := hp.shape
  exact ⟨c0, c1, c2, c3, c4, c5, c6, c7, c8, rfl, hp, hb⟩
theorem nodes_small {d : Nat} {t : Tr d} (h : wtT d t ≤ 10000) : (nodes d t : Int) ≤ 4194304 := by
  have := nodes_wt' d t
  omega

theorem getI {d : Nat} {w W : World} {t : Tr (d + 2)} {v : Value} {s : ByteArray} (h : ValAt (FreshP w W) W (d + 2) t v) (hs : s.size < 281474976710656) (hg : ErrType W) (hl : w.heap.size ≤ W.heap.size) :
    Calls Tryz.prog 13 #[v, .string s] W (TQ w (d + 1) (partGetT d t s).1 (partGetT d t s).2 W) := (implPartGet_any d _ t v s hs W h within_P hg).mono (fun _ _ h => tq_of hl h)
theorem getS {d : Nat} {w W : World} {t : Tr (d + 2)} {v : Value} {s : ByteArray} (h : ValAt (FreshP w W) W (d + 2) t v) (hs : s.size < 281474976710656) (hz : wtT (d + 2) t ≤ 10000) (hl : w.heap.size ≤ W.heap.size) :
    Calls Tryz.prog 27 #[v, .string s] W (TQ w (d + 1) (partGetT d t s).1 (partGetT d t s).2 W) := (specPartGet_own d _ t v s hs W h within_P (nodes_small hz)).mono (fun _ _ h => tq_of hl h)
theorem atI {d : Nat} {w W : World} {t : Tr (d + 2)} {v : Value} {i : Int} (h : ValAt (FreshP w W) W (d + 2) t v) (hi : I64 i) (hg : ErrType W) (hl : w.heap.size ≤ W.heap.size) :
    Calls Tryz.prog 17 #[v, .int .i64 i] W (TQ w (d + 1) (partAtT d t i).1 (partAtT d t i).2 W) := (implPartAt_any d _ t v i hi W h within_P hg).mono (fun _ _ h => tq_of hl h)
theorem atS {d : Nat} {w W : World} {t : Tr (d + 2)} {v : Value} {i : Int} (h : ValAt (FreshP w W) W (d + 2) t v) (hi : I64 i) (hz : wtT (d + 2) t ≤ 10000) (hl : w.heap.size ≤ W.heap.size) :
    Calls Tryz.prog 28 #[v, .int .i64 i] W (TQ w (d + 1) (partAtT d t i).1 (partAtT d t i).2 W) := (specPartAt_own d _ t v i hi W h within_P (nodes_small hz)).mono (fun _ _ h => tq_of hl h)
theorem putI {d : Nat} {w W : World} {t : Tr (d + 2)} {x : Tr (d + 1)} {v u : Value} {s : ByteArray} (h : ValAt (FreshP w W) W (d + 2) t v) (hx : ValAt (FreshP w W) W (d + 1) x u) (hs : s.size < 281474976710656) (hg : ErrType W) (hl : w.heap.size ≤ W.heap.size) :
    Calls Tryz.prog 10 #[v, .string s, u] W (TQ w (d + 2) (partPutT d t s x).1 (partPutT d t s x).2 W) := (implPartPut_any d _ t v s hs _ x u W h within_P hx within_P hg).mono (fun _ _ h => tq_of hl h)
theorem putS {d : Nat} {w W : World} {t : Tr (d + 2)} {x : Tr (d + 1)} {v u : Value} {s : ByteArray} (h : ValAt (FreshP w W) W (d + 2) t v) (hx : ValAt (FreshP w W) W (d + 1) x u) (hs : s.size < 281474976710656) (hz : wtT (d + 2) t ≤ 10000) (hz' : wtT (d + 1) x ≤ 10000) (hl : w.heap.size ≤ W.heap.size) :
    Calls Tryz.prog 11 #[v, .string s, u] W (TQ w (d + 2) (partPutT d t s x).1 (partPutT d t s x).2 W) := (specPartPut_own d _ t v s hs _ x u W h within_P hx within_P (nodes_small hz) (nodes_small hz')).mono (fun _ _ h => tq_of hl h)
theorem setI {d : Nat} {w W : World} {t : Tr (d + 2)} {x : Tr (d + 1)} {v u : Value} {i : Int} (h : ValAt (FreshP w W) W (d + 2) t v) (hx : ValAt (FreshP w W) W (d + 1) x u) (hi : I64 i) (hg : ErrType W) (hl : w.heap.size ≤ W.heap.size) :
    Calls Tryz.prog 15 #[v, .int .i64 i, u] W (TQ w (d + 2) (partSetT d t i x).1 (partSetT d t i x).2 W) := (implPartSet_any d _ t v i hi _ x u W h within_P hx within_P hg).mono (fun _ _ h => tq_of hl h)
theorem setS {d : Nat} {w W : World} {t : Tr (d + 2)} {x : Tr (d + 1)} {v u : Value} {i : Int} (h : ValAt (FreshP w W) W (d + 2) t v) (hx : ValAt (FreshP w W) W (d + 1) x u) (hi : I64 i) (hz : wtT (d + 2) t ≤ 10000) (hz' : wtT (d + 1) x ≤ 10000) (hl : w.heap.size ≤ W.heap.size) :
    Calls Tryz.prog 16 #[v, .int .i64 i, u] W (TQ w (d + 2) (partSetT d t i x).1 (partSetT d t i x).2 W) := (specPartSet_own d _ t v i hi _ x u W h within_P hx within_P (nodes_small hz) (nodes_small hz')).mono (fun _ _ h => tq_of hl h)
theorem lenI {d : Nat} {w W : World} {t : Tr (d + 1)} {v : Value} (h : ValAt (FreshP w W) W (d + 1) t v) (hg : ErrType W) (hl : w.heap.size ≤ W.heap.size) :
    Calls Tryz.prog 21 #[v] W (TQ w (d + 1) (partLenT d t).1 (partLenT d t).2 W) := (implPartLen_any d _ t v W h within_P hg).mono (fun _ _ h => tq_of hl h)
theorem lenS {d : Nat} {w W : World} {t : Tr (d + 1)} {v : Value} (h : ValAt (FreshP w W) W (d + 1) t v) (hz : wtT (d + 1) t ≤ 10000) (hl : w.heap.size ≤ W.heap.size) :
    Calls Tryz.prog 22 #[v] W (TQ w (d + 1) (partLenT d t).1 (partLenT d t).2 W) := (specPartLen_own d _ t v W h within_P (nodes_small hz)).mono (fun _ _ h => tq_of hl h)
theorem keysI {d : Nat} {w W : World} {t : Tr (d + 2)} {v : Value} (h : ValAt (FreshP w W) W (d + 2) t v) (hg : ErrType W) (hl : w.heap.size ≤ W.heap.size) :
    Calls Tryz.prog 23 #[v] W (TQ w (d + 2) (partKeysT d t).1 (partKeysT d t).2 W) := (implPartKeys_any d _ t v W h within_P hg).mono (fun _ _ h => tq_of hl h)
theorem keysS {d : Nat} {w W : World} {t : Tr (d + 2)} {v : Value} (h : ValAt (FreshP w W) W (d + 2) t v) (hz : wtT (d + 2) t ≤ 10000) (hl : w.heap.size ≤ W.heap.size) :
    Calls Tryz.prog 24 #[v] W (TQ w (d + 2) (partKeysT d t).1 (partKeysT d t).2 W) := (specPartKeys_own d _ t v W h within_P (nodes_small hz)).mono (fun _ _ h => tq_of hl h)
/-- A row of trees in plain memory, and whether it can be told. -/
def RQ (w : World) (d : Nat) (xs : List (Tr d)) (ok : Bool) (W : World) (e : Ending) (w' : World) : Prop :=
  ∃ (a : Option Addr) (c : Nat), e = .returned (.tuple #[.slice a xs.length c, .bool ok]) ∧ RowAt (FreshP w w') w' (ValAt (FreshP w w') w' d) (.slice a xs.length c) xs ∧ Below W.heap.size W w'
theorem rq_of {w W w' : World} {d : Nat} {xs : List (Tr d)} {ok : Bool} {e : Ending} (hl : w.heap.size ≤ W.heap.size) (h : TellRQ d xs ok W e w') : RQ w d xs ok W e w' := by
  obtain ⟨v, rfl, hv, hb⟩ := h
  have h1 : ValOwn w' (d + 1) (Fresh W w') (Nd.mk 5 0 ByteArray.empty [] xs : Nd (Tr d)) (.agg #[.int .i64 5, .int .i64 0, .string ByteArray.empty, .slice none 0 0, v]) :=
    ⟨_, _, fun _ => False, Fresh W w', rfl, ⟨by show _ ≤ (5 : Int); omega, by show (5 : Int) ≤ _; omega⟩, ⟨by show _ ≤ (0 : Int); omega, by show (0 : Int) ≤ _; omega⟩, by show ByteArray.empty.size < _; decide, ⟨by show (0 : Nat) < _; omega, fun s h => by (cases h), none, 0, rfl, Or.inl rfl⟩, hv, fun _ h => h.elim, fun _ h => h, fun _ h => h.elim⟩
  have hp := (own_plain (d + 1) _ _ _ h1).mono (S' := FreshP w w') (fun b hb' => ⟨⟨Nat.le_trans hl hb'.1.1, hb'.1.2⟩, hb'.2⟩)
  obtain ⟨vk, vl, hv', _, _, _, _, hrow⟩ := hp
  cases hv'
  obtain ⟨a, c, rfl, _⟩ := hrow.open'
  exact ⟨a, c, rfl, hrow, hb⟩
theorem eachI {d : Nat} {w W : World} {t : Tr (d + 1)} {v : Value} (h : ValAt (FreshP w W) W (d + 1) t v) (hg : ErrType W) (hl : w.heap.size ≤ W.heap.size) :
    Calls Tryz.prog 19 #[v] W (RQ w d (eachT d t).1 (eachT d t).2 W) := (implPartEach_any d _ t v W h within_P hg).mono (fun _ _ h => rq_of hl h)
theorem eachS {d : Nat} {w W : World} {t : Tr (d + 1)} {v : Value} (h : ValAt (FreshP w W) W (d + 1) t v) (hz : wtT (d + 1) t ≤ 10000) (hl : w.heap.size ≤ W.heap.size) :
    Calls Tryz.prog 20 #[v] W (RQ w d (eachT d t).1 (eachT d t).2 W) := (specPartEach_own d _ t v W h within_P (nodes_small hz)).mono (fun _ _ h => rq_of hl h)
/-- The same, the answer being known to lie in what is new. -/
theorem getG {d : Nat} {w W : World} {t : Tr (d + 2)} {v : Value} {s : ByteArray} (h : ValAt (FreshP w W) W (d + 2) t v) (hs : s.size < 281474976710656) (hg : ErrType W) (_hl : w.heap.size ≤ W.heap.size) :
    Calls Tryz.prog 13 #[v, .string s] W (TQ W (d + 1) (partGetT d t s).1 (partGetT d t s).2 W) := (implPartGet_any d _ t v s hs W h within_P hg).mono (fun _ _ h => tq_of (Nat.le_refl _) h)
theorem setG {d : Nat} {w W : World} {t : Tr (d + 2)} {x : Tr (d + 1)} {v u : Value} {i : Int} (h : ValAt (FreshP w W) W (d + 2) t v) (hx : ValAt (FreshP w W) W (d + 1) x u) (hi : I64 i) (hg : ErrType W) :
    Calls Tryz.prog 15 #[v, .int .i64 i, u] W (TQ W (d + 2) (partSetT d t i x).1 (partSetT d t i x).2 W) := (implPartSet_any d _ t v i hi _ x u W h within_P hx within_P hg).mono (fun _ _ h => tq_of (Nat.le_refl _) h)
theorem putG {d : Nat} {w W : World} {t : Tr (d + 2)} {x : Tr (d + 1)} {v u : Value} {s : ByteArray} (h : ValAt (FreshP w W) W (d + 2) t v) (hx : ValAt (FreshP w W) W (d + 1) x u) (hs : s.size < 281474976710656) (hg : ErrType W) :
    Calls Tryz.prog 10 #[v, .string s, u] W (TQ W (d + 2) (partPutT d t s x).1 (partPutT d t s x).2 W) := (implPartPut_any d _ t v s hs _ x u W h within_P hx within_P hg).mono (fun _ _ h => tq_of (Nat.le_refl _) h)
/-- One tree, twice. -/
theorem samE {d : Nat} {w W : World} {t : Tr d} {v v' : Value} (h : ValAt (FreshP w W) W d t v) (h' : ValAt (FreshP w W) W d t v') (hs : wtT d t ≤ 10000) : Calls Tryz.prog 12 #[v, v'] W fun e w' => e = .returned (.bool true) ∧ Below W.heap.size W w' := by
  have hc := samI_at h h' hs
  rw [(ord_T d).self t] at hc
  exact hc
theorem okS_at {d : Nat} {w W : World} {t : Tr d} {v : Value} (h : ValAt (FreshP w W) W d t v) (hs : wtT d t ≤ 10000) : Calls Tryz.prog 29 #[v] W fun e w' => e = .returned (.bool (okT d t)) ∧ Below W.heap.size W w' :=
  specValOk_any d _ t v W h within_P (nodes_small hs)

theorem toList_ne {a b : ByteArray} (h : a ≠ b) : (a.toList == b.toList) = false := by
  cases hb : (a.toList == b.toList)
  · rfl
  · have e := beq_iff_eq.1 hb
    rw [ByteArray.toList_eq, ByteArray.toList_eq] at e
    refine absurd ?_ h
    cases a with
    | mk a =>
      cases b with
      | mk b =>
        have e : a.toList = b.toList := e
        cases a; cases b
        simp at e
        rw [e]
theorem yes_at (S : Nat → Prop) (w : World) (d : Nat) : ValAt S w (d + 1) (yesT d) (.agg #[.int .i64 2, .int .i64 0, .string { data := #[] }, .slice none 0 0, .slice none 0 0]) :=
  bareT_at S w d 2 0 ⟨#[]⟩ ⟨by omega, by omega⟩ ⟨by omega, by omega⟩ (by show (0 : Nat) < _; omega)
theorem zero_at (S : Nat → Prop) (w : World) (d : Nat) : ValAt S w (d + 1) (zeroT d) (.agg #[.int .i64 0, .int .i64 0, .string { data := #[] }, .slice none 0 0, .slice none 0 0]) :=
  bareT_at S w d 0 0 ⟨#[]⟩ ⟨by omega, by omega⟩ ⟨by omega, by omega⟩ (by show (0 : Nat) < _; omega)
/-- A variable that holds a tree. -/
structure VarAt (w W : World) (b : Nat) (c0 c1 : Int) (c2 : ByteArray) (c3 : Option Addr) (c4 c5 : Nat) (c6 : Option Addr) (c7 c8 : Nat) (d : Nat) (t : Tr d) : Prop where
  blk : Blk5 W b 26 (.int .i64 c0) (.int .i64 c1) (.string c2) (.slice c3 c4 c5) (.slice c6 c7 c8)
  val : ValAt (FreshP w W) W d t (.agg #[.int .i64 c0, .int .i64 c1, .string c2, .slice c3 c4 c5, .slice c6 c7 c8])
theorem VarAt.go {w W W' : World} {b : Nat} {c0 c1 : Int} {c2 : ByteArray} {c3 : Option Addr} {c4 c5 : Nat} {c6 : Option Addr} {c7 c8 : Nat} {d : Nat} {t : Tr d} (h : VarAt w W b c0 c1 c2 c3 c4 c5 c6 c7 c8 d t) (hb : Below W.heap.size W W') : VarAt w W' b c0 c1 c2 c3 c4 c5 c6 c7 c8 d t :=
  ⟨h.blk.below hb, freshP_go h.val hb⟩
theorem VarAt.new {w W : World} {c0 c1 : Int} {c2 : ByteArray} {c3 : Option Addr} {c4 c5 : Nat} {c6 : Option Addr} {c7 c8 : Nat} {d : Nat} {t : Tr d} (h : ValAt (FreshP w W) W d t (.agg #[.int .i64 c0, .int .i64 c1, .string c2, .slice c3 c4 c5, .slice c6 c7 c8])) :
    VarAt w (W.alloc (.cells #[.int .i64 c0, .int .i64 c1, .string c2, .slice c3 c4 c5, .slice c6 c7 c8] 26)) W.heap.size c0 c1 c2 c3 c4 c5 c6 c7 c8 d t :=
  ⟨Blk5.new W _ _ _ _ _ _, freshP_go h (below_alloc1 _ _)⟩
theorem VarAt.two {w W : World} {c0 c1 : Int} {c2 : ByteArray} {c3 : Option Addr} {c4 c5 : Nat} {c6 : Option Addr} {c7 c8 : Nat} {d : Nat} {t : Tr d} {q0 q1 : Int} {q2 : ByteArray} {q3 : Option Addr} {q4 q5 : Nat} {q6 : Option Addr} {q7 q8 : Nat} {d' : Nat} {t' : Tr d'}
    (h : ValAt (FreshP w W) W d t (.agg #[.int .i64 c0, .int .i64 c1, .string c2, .slice c3 c4 c5, .slice c6 c7 c8])) (h' : ValAt (FreshP w W) W d' t' (.agg #[.int .i64 q0, .int .i64 q1, .string q2, .slice q3 q4 q5, .slice q6 q7 q8])) :
    VarAt w ((W.alloc (.cells #[.int .i64 c0, .int .i64 c1, .string c2, .slice c3 c4 c5, .slice c6 c7 c8] 26)).alloc (.cells #[.int .i64 q0, .int .i64 q1, .string q2, .slice q3 q4 q5, .slice q6 q7 q8] 26)) W.heap.size c0 c1 c2 c3 c4 c5 c6 c7 c8 d t ∧
    VarAt w ((W.alloc (.cells #[.int .i64 c0, .int .i64 c1, .string c2, .slice c3 c4 c5, .slice c6 c7 c8] 26)).alloc (.cells #[.int .i64 q0, .int .i64 q1, .string q2, .slice q3 q4 q5, .slice q6 q7 q8] 26)) (W.heap.size + 1) q0 q1 q2 q3 q4 q5 q6 q7 q8 d' t' ∧
    Below W.heap.size W ((W.alloc (.cells #[.int .i64 c0, .int .i64 c1, .string c2, .slice c3 c4 c5, .slice c6 c7 c8] 26)).alloc (.cells #[.int .i64 q0, .int .i64 q1, .string q2, .slice q3 q4 q5, .slice q6 q7 q8] 26)) := by
  have h1 := below_alloc1 W (.cells #[.int .i64 c0, .int .i64 c1, .string c2, .slice c3 c4 c5, .slice c6 c7 c8] 26)
  have h2 := VarAt.new (freshP_go h' h1)
  rw [World.size_alloc] at h2
  exact ⟨(VarAt.new h).go (below_alloc1 _ _), h2, below_trans h1 (below_alloc1 _ _)⟩
/-- An answer that is written into a new variable, made ahead of the call or behind it. -/
theorem var_set {w Wc W : World} {b : Nat} {z0 z1 z2 z3 z4 : Value} {c0 c1 : Int} {c2 : ByteArray} {c3 : Option Addr} {c4 c5 : Nat} {c6 : Option Addr} {c7 c8 : Nat} {d : Nat} {t : Tr d} (hz : Blk5 W b 26 z0 z1 z2 z3 z4) (hb : b < Wc.heap.size) (hl : w.heap.size ≤ Wc.heap.size)
    (h : ValAt (FreshP Wc W) W d t (.agg #[.int .i64 c0, .int .i64 c1, .string c2, .slice c3 c4 c5, .slice c6 c7 c8])) :
    VarAt w (set5 W b 0 (.int .i64 c0) (.int .i64 c1) (.string c2) (.slice c3 c4 c5) (.slice c6 c7 c8)) b c0 c1 c2 c3 c4 c5 c6 c7 c8 d t := by
  have hs : ∀ x, x ≠ b → (set5 W b 0 (.int .i64 c0) (.int .i64 c1) (.string c2) (.slice c3 c4 c5) (.slice c6 c7 c8)).heap[x]? = W.heap[x]? := fun x hx => set5_block _ _ _ _ _ _ _ _ _ hx
  refine ⟨blk_set5 hz _ _ _ _ _, ValAt.moved (fun x hx => hs x (by have := hx.1.1; omega)) (fun x hx => ?_) d t _ h⟩
  exact ⟨⟨Nat.le_trans hl hx.1.1, by rw [set5_size]; exact hx.1.2⟩, hx.2.of_block (hs x (by have := hx.1.1; omega))⟩
theorem var_new {w Wc W : World} {c0 c1 : Int} {c2 : ByteArray} {c3 : Option Addr} {c4 c5 : Nat} {c6 : Option Addr} {c7 c8 : Nat} {d : Nat} {t : Tr d} (hl : w.heap.size ≤ Wc.heap.size) (h : ValAt (FreshP Wc W) W d t (.agg #[.int .i64 c0, .int .i64 c1, .string c2, .slice c3 c4 c5, .slice c6 c7 c8])) :
    VarAt w (W.alloc (.cells #[.int .i64 c0, .int .i64 c1, .string c2, .slice c3 c4 c5, .slice c6 c7 c8] 26)) W.heap.size c0 c1 c2 c3 c4 c5 c6 c7 c8 d t := VarAt.new (freshP_wide h hl)
/-- What has come since a world: nothing that was there has turned. -/
structure Since (W0 W : World) : Prop where
  bel : Below W0.heap.size W0 W
theorem Since.go {W0 W W' : World} (h : Since W0 W) (hb : Below W.heap.size W W') : Since W0 W' := ⟨below_trans h.bel hb⟩
theorem Since.start (W : World) : Since W W := ⟨Below.refl _ _⟩
/-- A row of trees that came of a call. -/
structure RowsAt (w W : World) (a : Option Addr) (c d : Nat) (xs : List (Tr d)) : Prop where
  row : RowAt (FreshP w W) W (ValAt (FreshP w W) W d) (.slice a xs.length c) xs
theorem RowsAt.go {w W W' : World} {a : Option Addr} {c d : Nat} {xs : List (Tr d)} (h : RowsAt w W a c d xs) (hb : Below W.heap.size W W') : RowsAt w W' a c d xs := by
  have hs : Same (FreshP w W) W W' := fun b hb' => hb.block b hb'.1.2
  exact ⟨h.row.moved hs (fun b hb' => ⟨⟨hb'.1.1, Nat.lt_of_lt_of_le hb'.1.2 hb.size⟩, hb'.2.of_block (hs b hb')⟩) (fun x u hx => freshP_go hx hb)⟩
/-- The tree at a place of a row, with its cells. -/
theorem row_elem {w W : World} {a : Option Addr} {n c d k : Nat} {xs : List (Tr d)} (h : RowAt (FreshP w W) W (ValAt (FreshP w W) W d) (.slice a n c) xs) (hk : k < xs.length) :
    ∃ (b o : Nat) (x : Tr d) (c0 c1 : Int) (c2 : ByteArray) (c3 : Option Addr) (c4 c5 : Nat) (c6 : Option Addr) (c7 c8 : Nat), a = some ⟨b, o, none⟩ ∧ b < W.heap.size ∧ xs[k]? = some x ∧
      W.cell? ⟨b, o + k * 5, none⟩ = some (.int .i64 c0) ∧ W.cell? ⟨b, o + k * 5 + 1, none⟩ = some (.int .i64 c1) ∧ W.cell? ⟨b, o + k * 5 + 2, none⟩ = some (.string c2) ∧ W.cell? ⟨b, o + k * 5 + 3, none⟩ = some (.slice c3 c4 c5) ∧ W.cell? ⟨b, o + k * 5 + 4, none⟩ = some (.slice c6 c7 c8) ∧
      ValAt (FreshP w W) W d x (.agg #[.int .i64 c0, .int .i64 c1, .string c2, .slice c3 c4 c5, .slice c6 c7 c8]) := by
  obtain ⟨b, o, x, c0, c1, c2, c3, c4, ha, hS, hx, e0, e1, e2, e3, e4, hv⟩ := h.cell hk
  obtain ⟨p0, p1, p2, p3, p4, p5, p6, p7, p8, hp⟩ := hv.shape
  cases hp
  exact ⟨b, o, x, _, _, _, _, _, _, _, _, _, ha, hS.1.2, hx, e0, e1, e2, e3, e4, hv⟩
/-- The key at a place, with its cell. -/
theorem key_elem {w W : World} {a : Option Addr} {n c k : Nat} {ks : List ByteArray} (h : StrsAt (FreshP w W) W (.slice a n c) ks) (hk : k < ks.length) :
    ∃ (b o : Nat) (s : ByteArray), a = some ⟨b, o, none⟩ ∧ b < W.heap.size ∧ ks[k]? = some s ∧ s.size < 281474976710656 ∧ W.cell? ⟨b, o + k, none⟩ = some (.string s) := by
  obtain ⟨b, o, s, ha, hS, hx, hz, hc⟩ := h.cell hk
  exact ⟨b, o, s, ha, hS.1.2, hx, hz, hc⟩
theorem val_parts {w W : World} {d : Nat} {t : Tr (d + 1)} {c0 c1 : Int} {c2 : ByteArray} {c3 : Option Addr} {c4 c5 : Nat} {c6 : Option Addr} {c7 c8 : Nat} (h : ValAt (FreshP w W) W (d + 1) t (.agg #[.int .i64 c0, .int .i64 c1, .string c2, .slice c3 c4 c5, .slice c6 c7 c8])) :
    c0 = Nd.kind t ∧ c1 = Nd.num t ∧ c2 = Nd.str t ∧ c4 = (Nd.keys t).length ∧ c7 = (Nd.list t).length ∧ StrsAt (FreshP w W) W (.slice c3 c4 c5) (Nd.keys t) ∧ RowAt (FreshP w W) W (ValAt (FreshP w W) W d) (.slice c6 c7 c8) (Nd.list t) := by
  obtain ⟨h0, h1, h2, _, _, _, hk, hl⟩ := parts_of h
  obtain ⟨_, _, e1, _⟩ := hk.open'
  obtain ⟨_, _, e2, _⟩ := hl.open'
  cases h0
  cases h1
  cases h2
  cases e1
  cases e2
  exact ⟨rfl, rfl, rfl, rfl, rfl, hk, hl⟩
/-- What stands all along. -/
structure Amid (w W : World) : Prop where
  bel : Below w.heap.size w W
  err : ErrType W
theorem Amid.go {w W W' : World} (h : Amid w W) (hb : Below W.heap.size W W') : Amid w W' := ⟨below_trans h.bel hb, h.err.below hb⟩
theorem Amid.le {w W : World} (h : Amid w W) : w.heap.size ≤ W.heap.size := h.bel.size
end Go.Proofs.YtgjahnkldobphaaGreatDoor
