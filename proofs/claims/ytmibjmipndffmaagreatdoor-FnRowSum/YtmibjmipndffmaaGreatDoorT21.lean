/- Texts of the proof, put together by program: WSetT, WMapS, WPutR, WPutI, WPutU, WSetTo, WPutUo, WSetQ, WSetS, WSetI, WSetJ, WSetU, WSetUo, WGetM, WGetS, WGetSo, WAtM, WAtS, WAtSo, WLen, WLenN, WLenS, WLenSo, WKeyP, WKeyS, WKeySo, WEachS, WEachSo, WGet, WKeyI, WEachI, WTold2, LPartC, PAdd. -/
import Derived.Test.YtmibjmipndffmaaGreatDoorT19
import Derived.Test.YtmibjmipndffmaaGreatDoorT8
import Derived.Test.YtmibjmipndffmaaGreatDoorT2
import Derived.Test.YtmibjmipndffmaaGreatDoorT18
import Derived.Test.YtmibjmipndffmaaGreatDoorT20
import Derived.Deep.OwnRows
import Derived.Test.YtmibjmipndffmaaGreatDoorT6
import Derived.Test.YtmibjmipndffmaaGreatDoorT10
import Derived.Test.YtmibjmipndffmaaGreatDoorT5
/- l2Told of the model: a tree in new memory, if it is right. -/
namespace Go.Proofs.YtmibjmipndffmaaGreatDoor
open Go.RowKit Go.Deep

end Go.Proofs.YtmibjmipndffmaaGreatDoor

/- A map, turned at a key that is there. -/
namespace Go.Proofs.YtmibjmipndffmaaGreatDoor
open Go.RowKit Go.Deep

theorem run_mapSet (w : World) (r clock j : Nat) (es : Array MapEntry) (s : ByteArray) (u v : Value) (b : Nat) (hb : w.heap[r]? = some (.map es clock)) (hj : es[j]? = some ⟨.string s, v, b⟩)
    (hn : ∀ i' e', i' < j → es[i']? = some e' → ∃ k, e'.key = .string k ∧ k ≠ s) :
    (Instr.mapUpdate 87 (.map (some r)) (.string s) u).run Tryz.prog w = .ok () (withObj w r (.map (es.modify j fun e => { e with key := .string s, val := u }) clock)) := by
  have hf := findNow_at s es.toList j 0 ⟨.string s, v, b⟩ (by rw [Array.getElem?_toList]; exact hj) rfl (fun i' e' hi he => hn i' e' hi (by rw [Array.getElem?_toList] at he; exact he))
  have hk : (Instr.checkKey false 10000 9 (.string s)).run Tryz.prog w = .ok () w :=
    MapKept.run_checkKey (P := Tryz.prog) (w := w) (k := .string s) Tryz.underlying9 trivial false 9999
  have hfk := MapKept.run_findKey (P := Tryz.prog) (w := w) Tryz.underlying9 hf
  have hst : (Instr.keyThatStays (.string s) (.string s)).run Tryz.prog w = .ok (.string s) w := MapKept.run_keyThatStays (P := Tryz.prog) (w := w) (d := .string) (k := .string s) trivial
  simp [Instr.mapUpdate, run_underlying Tryz.underlying87, getObj, setObj, Sem.run, hb, hk, hfk, hj, hst, withObj]

theorem below_withObj {N r : Nat} (w : World) (o : Obj) (h : N ≤ r) : Below N w (withObj w r o) :=
  ⟨rfl, rfl, rfl, by simp [withObj], fun b hb => withObj_block w r o b (by omega)⟩
end Go.Proofs.YtmibjmipndffmaaGreatDoor

/- partsByKeys: the map owns its memory; a map's update. -/
namespace Go.Proofs.YtmibjmipndffmaaGreatDoor
open Go.RowKit Go.Deep

/-- A map of the program's own trees that owns its memory: its trees lie in blocks from N on, not in the map's own. -/
structure MapO {d : Nat} (N : Nat) (w : World) (r : Nat) (es : Array MapEntry) (keys : List ByteArray) (xs : List (Tr d)) : Prop where
  len : xs.length ≤ 60
  good : keysB keys = true
  same : keys.length = xs.length
  ge : N ≤ r
  obj : w.heap[r]? = some (.map es keys.length)
  ent : MapG (TreeG (fun b => N ≤ b ∧ b < w.heap.size ∧ b ≠ r) w d) es (keys.zip xs)

theorem MapO.moved {d N r : Nat} {w w' : World} {es : Array MapEntry} {keys : List ByteArray} {xs : List (Tr d)} (h : MapO N w r es keys xs) (hb : Below w.heap.size w w') : MapO N w' r es keys xs := by
  have hz := hb.size
  exact ⟨h.len, h.good, h.same, h.ge, (hb.block r (Array.getElem?_eq_some_iff.1 h.obj).1).trans h.obj, h.ent.moved (fun x u hx => TreeG.moved (fun b hb' => hb.block b hb'.2.1) (fun b hb' => ⟨hb'.1, by have := hb'.2.1; omega, hb'.2.2⟩) d x u hx)⟩

end Go.Proofs.YtmibjmipndffmaaGreatDoor

/- A map's update; PartPut of the program. -/
namespace Go.Proofs.YtmibjmipndffmaaGreatDoor
open Go.RowKit Go.Deep

/-- A tree is put at a key of a map that owns its memory. -/
theorem MapO.put {d N r : Nat} {w : World} {es : Array MapEntry} {keys : List ByteArray} {xs : List (Tr d)} {s : ByteArray} {x : Tr d} {u : Value} {S : Nat → Prop} (h : MapO N w r es keys xs) (hs : strOk s = true) (hu : TreeG S w d x u) (hS : ∀ b, S b → N ≤ b ∧ b < w.heap.size ∧ b ≠ r) :
    ∃ w', (Instr.mapUpdate 87 (.map (some r)) (.string s) u).run Tryz.prog w = .ok () w' ∧ Below N w w' ∧ TreeG (fun b => N ≤ b ∧ b < w'.heap.size) w' (d + 1) (mapT d (putL keys xs s x)) (.iface 145 (.agg #[.map (some r)])) := by
  have hrl := (Array.getElem?_eq_some_iff.1 h.obj).1
  have hsz : ∀ o, (withObj w r o).heap.size = w.heap.size := fun o => by simp [withObj]
  have hlen : (keys.zip xs).length = keys.length := by rw [List.length_zip, ← h.same, Nat.min_self]
  have hput := putL_length keys xs s x
  have hkl := h.same
  have hl60 := h.len
  have hmv : ∀ o y v, TreeG (fun b => N ≤ b ∧ b < w.heap.size ∧ b ≠ r) w d y v → TreeG (fun b => N ≤ b ∧ b < (withObj w r o).heap.size) (withObj w r o) d y v := fun o y v hy =>
    TreeG.moved (fun b hb => withObj_block w r o b hb.2.2) (fun b hb => ⟨hb.1, by rw [hsz]; exact hb.2.1⟩) d y v hy
  have hmu : ∀ o, TreeG (fun b => N ≤ b ∧ b < (withObj w r o).heap.size) (withObj w r o) d x u := fun o =>
    TreeG.moved (fun b hb => withObj_block w r o b (hS b hb).2.2) (fun b hb => ⟨(hS b hb).1, by rw [hsz]; exact (hS b hb).2.1⟩) d x u hu
  have hobj : ∀ o, (withObj w r o).heap[r]? = some o := fun o => by simp [withObj, hrl]
  have hge := h.ge
  by_cases hm : s ∈ keys
  · obtain ⟨j, y, hj, hy, hmin⟩ := key_at hm hkl
    have hzj : (keys.zip xs)[j]? = some (s, y) := List.getElem?_zip_eq_some.2 ⟨hj, hy⟩
    obtain ⟨v, hev, _⟩ := h.ent.2 j s y hzj
    have hjl := (List.getElem?_eq_some_iff.1 hj).1
    have hbefore : ∀ i' e', i' < j → es[i']? = some e' → ∃ k, e'.key = .string k ∧ k ≠ s := fun i' e' hi he => by
      obtain ⟨v', hv', _⟩ := h.ent.2 i' _ _ (List.getElem?_zip_eq_some.2 ⟨List.getElem?_eq_getElem (by omega : i' < keys.length), List.getElem?_eq_getElem (by omega : i' < xs.length)⟩)
      rw [he] at hv'
      cases hv'
      exact ⟨_, rfl, fun e => hmin i' hi (by rw [List.getElem?_eq_getElem (by omega : i' < keys.length), e])⟩
    have hth : putL keys xs s x = (keys.zip xs).set j (s, x) := putL_there (p := none) hkl h.good hj
    refine ⟨_, run_mapSet w r keys.length j es s u v j h.obj hev hbefore, below_withObj _ _ hge, Or.inr (Or.inr (Or.inr (Or.inr ⟨_, _, putL keys xs s x, r, es.modify j fun e => { e with key := .string s, val := u }, ?_, ?_, ?_, ?_, rfl, rfl, ⟨hge, by rw [hsz]; exact hrl⟩, ?_, ?_⟩)))⟩
    · rw [List.length_map]; omega
    · exact putL_keys hs hkl h.good (fun q e => by cases e)
    · rw [List.length_map, List.length_map]
    · rw [zip_unzip]
    · rw [hobj, hth, List.length_set, hlen]
    · rw [hth]
      refine ⟨by rw [Array.size_modify, List.length_set]; exact h.ent.1, fun i k z hi => ?_⟩
      by_cases e : j = i
      · subst e
        rw [List.getElem?_set_self (by omega)] at hi
        cases hi
        exact ⟨u, by simp [Array.getElem?_modify, hev], hmu _⟩
      · rw [List.getElem?_set_ne e] at hi
        obtain ⟨v', hv', ha⟩ := h.ent.2 i k z hi
        exact ⟨v', by rw [Array.getElem?_modify, if_neg e]; exact hv', hmv _ _ _ ha⟩
  · have hmiss := h.ent.miss (s := s) (by rw [zip_fst _ _ hkl]; exact hm)
    have hp := putL_new (x := x) hkl hm
    have hpl := hp.length_eq
    rw [List.length_append, hlen, List.length_singleton] at hpl
    refine ⟨_, run_mapPush w r keys.length es s u h.obj hmiss, below_withObj _ _ hge, Or.inr (Or.inr (Or.inr (Or.inr ⟨_, _, (keys.zip xs) ++ [(s, x)], r, es.push ⟨.string s, u, keys.length⟩, ?_, ?_, ?_, ?_, rfl, rfl, ⟨hge, by rw [hsz]; exact hrl⟩, ?_, ?_⟩)))⟩
    · rw [List.length_map]; omega
    · exact putL_keys hs hkl h.good (fun q e => by cases e)
    · rw [List.length_map, List.length_map]
    · rw [zip_unzip]; exact hp
    · rw [hobj, List.length_append, hlen, List.length_singleton]
    · refine ⟨by rw [Array.size_push, List.length_append, List.length_singleton, h.ent.1], fun i k z hi => ?_⟩
      have hes : es.size = keys.length := h.ent.1.trans hlen
      by_cases e : i < keys.length
      · rw [List.getElem?_append_left (by omega)] at hi
        obtain ⟨v', hv', ha⟩ := h.ent.2 i k z hi
        exact ⟨v', by rw [Array.getElem?_push, if_neg (by omega)]; exact hv', hmv _ _ _ ha⟩
      · have hil := (List.getElem?_eq_some_iff.1 hi).1
        rw [List.length_append, hlen, List.length_singleton] at hil
        obtain rfl : i = keys.length := by omega
        rw [List.getElem?_append_right (by omega), hlen, Nat.sub_self] at hi
        cases hi
        exact ⟨u, by rw [Array.getElem?_push, if_pos hes.symm], hmu _⟩

end Go.Proofs.YtmibjmipndffmaaGreatDoor

/- PartPut of the model. -/
namespace Go.Proofs.YtmibjmipndffmaaGreatDoor
open Go.RowKit Go.Deep

end Go.Proofs.YtmibjmipndffmaaGreatDoor

/- l2Told of the model: a tree in new memory, if it is right : the answer owns its memory. -/
namespace Go.Proofs.YtmibjmipndffmaaGreatDoor
open Go.RowKit Go.Deep

set_option maxRecDepth 100000 in
set_option maxHeartbeats 4000000 in
theorem l2Told_own (d : Nat) (S : Nat → Prop) (t : Tr (d + 1)) (v : Value) (w : World) (hv : ValAt S w (d + 1) t v) (hS : Within S w) (hsm : (nodes (d + 1) t : Int) ≤ 4194304) :
    Calls Tryz.prog 49 #[v] w (TellQ d (toldT d t) (okT (d + 1) t) w) := by
  have hv0 := hv
  obtain ⟨k, n, s, ak, lk, ck, al, ll, cl, rfl⟩ := hv.shape
  obtain ⟨W0, hW⟩ : ∃ W0, W0 = (w.alloc (.cells #[.int .i64 k, .int .i64 n, .string s, .slice ak lk ck, .slice al ll cl] 26)).alloc (.cells #[.int .i64 0, .int .i64 0, .string { data := #[] }, .slice none 0 0, .slice none 0 0] 26) := ⟨_, rfl⟩
  have hW0 : Below w.heap.size w W0 := by rw [hW]; exact below_trans (below_alloc1 _ _) (below_alloc1 _ _)
  have k0 : Blk5 W0 w.heap.size 26 (.int .i64 k) (.int .i64 n) (.string s) (.slice ak lk ck) (.slice al ll cl) := by
    rw [hW]; exact (Blk5.new w 26 _ _ _ _ _).alloc _
  have k1 : Blk5 W0 (w.heap.size + 1) 26 (.int .i64 0) (.int .i64 0) (.string { data := #[] }) (.slice none 0 0) (.slice none 0 0) := by
    have := Blk5.new (w.alloc (.cells #[.int .i64 k, .int .i64 n, .string s, .slice ak lk ck, .slice al ll cl] 26)) 26 (.int .i64 0) (.int .i64 0) (.string { data := #[] }) (.slice none 0 0) (.slice none 0 0)
    rw [World.size_alloc] at this
    rw [hW]
    exact this
  have HW := hide hW
  clear hW hv
  go_enter Tryz.func49, Tryz.ntmps49
  go_wp2_with fail
  rw [← HW.out]
  clear HW
  refine (specValOk_any (d + 1) S t _ W0 (hv0.same (hS.same hW0)) (hS.later hW0.size) hsm).mono ?_
  rintro e w1 ⟨rfl, hb1⟩
  replace k0 := k0.below hb1
  replace k1 := k1.below hb1
  have hB1 := below_trans hW0 hb1
  obtain ⟨x0, x1, x2, x3, x4⟩ := k0.cell
  have hlt := k1.lt
  clear hb1 hW0
  cases hf : okT (d + 1) t with
  | false =>
    have hz : Hid (toldT d t = zeroT d) := by
      show toldT d t = _
      rw [toldT, hf]
      rfl
    have hno : Hid (∀ wF, wF = set5 w1 (w.heap.size + 1) 0 (.int .i64 0) (.int .i64 0) (.string { data := #[] }) (.slice none 0 0) (.slice none 0 0) → Below w.heap.size w wF) := by
      intro wF hF
      rw [hF]
      exact below_set5 hB1 (by omega) _ _ _ _ _ _
    obtain ⟨y0, y1, y2, y3, y4⟩ := k1.cell
    have yf := k1.frozen
    clear k0 k1 hB1 hv0
    go_wp2_with fail
    rw [hz.out, hf]
    refine bodyPost_ret (v := .tuple #[zeroVal, .bool false]) (by simp [results, Tryz.results49, go_sem, zeroVal, y0, y1, y2, y3, y4]; rfl) rfl ⟨_, rfl, zeroVal_own d _ _, hno.out _ rfl⟩
  | true =>
    have hz : Hid (toldT d t = t) := by
      show toldT d t = _
      rw [toldT, hf]
      rfl
    have hwt := wtT_ok hf
    go_wp2_with fail
    refine (l1Copy_any (d + 1) S t _ w1 (hv0.same (hS.same hB1)) (hS.later hB1.size) (by omega)).mono ?_
    rintro e w3 ⟨u, rfl, hu3, hb3⟩
    obtain ⟨u0, u1, u2, u3, u4, u5, u6, u7, u8, rfl⟩ := (ValOwn.at _ _ _ _ hu3).shape
    have HF := hide (tell_end hu3 (below_trans hB1 hb3) (by omega) hlt)
    have k3 := k1.below hb3
    clear hu3 hb3 k1 k0 hv0 x0 x1 x2 x3 x4
    obtain ⟨y0, y1, y2, y3, y4⟩ := k3.cell
    have yf := k3.frozen
    clear k3
    go_wp2_with fail
    rw [hz.out, hf]
    refine bodyPost_ret (v := .tuple #[.agg #[.int .i64 u0, .int .i64 u1, .string u2, .slice u3 u4 u5, .slice u6 u7 u8], .bool true]) (by simp [results, Tryz.results49, go_sem, y0, y1, y2, y3, y4]) rfl ⟨_, rfl, (HF.out _ rfl).1, (HF.out _ rfl).2⟩
end Go.Proofs.YtmibjmipndffmaaGreatDoor

/- PartPut of the model : the answer owns its memory. -/
namespace Go.Proofs.YtmibjmipndffmaaGreatDoor
open Go.RowKit Go.Deep

end Go.Proofs.YtmibjmipndffmaaGreatDoor

/- A row of the model's that is being made out of trees that lie elsewhere. -/
namespace Go.Proofs.YtmibjmipndffmaaGreatDoor
open Go.RowKit Go.Deep

end Go.Proofs.YtmibjmipndffmaaGreatDoor

/- l2Set of the model. -/
namespace Go.Proofs.YtmibjmipndffmaaGreatDoor
open Go.RowKit Go.Deep

/-- What stands while a row is made longer, in a variable's list. -/
structure L2At (d : Nat) (S : Nat → Prop) (N ob : Nat) (W wr : World) (xs : List (Tr (d + 1))) (lv : Value) (ws : List Value) : Prop where
  out : Blk5 wr ob 26 (.int .i64 5) (.int .i64 0) (.string { data := #[] }) (.slice none 0 0) lv
  row : VTo S N wr lv xs ws
  below : Below N W wr
  off : lv.ownBlock ≠ some ob
  ge : N ≤ ob

theorem L2At.step {d N ob : Nat} {S : Nat → Prop} {W wr w2 : World} {xs : List (Tr (d + 1))} {lv lv' : Value} {ws : List Value} {o : Obj} (h : L2At d S N ob W wr xs lv ws) (hS : ∀ b, S b → b < N) (hSw : Within S wr)
    (hown : w2.ownsRow N 26 5 lv' (xs.length + 1) (ws ++ [.int .i64 0, .int .i64 0, .string { data := #[] }, .slice none 0 0, .slice none 0 0])) (hg : (wr.alloc o).grownBy w2 lv.ownBlock) (hw : lv'.ownBlock = lv.ownBlock ∨ lv'.ownBlock = some (wr.alloc o).heap.size) :
    Blk5 w2 ob 26 (.int .i64 5) (.int .i64 0) (.string { data := #[] }) (.slice none 0 0) lv ∧ L2At d S N ob W (w2.setCell ⟨ob, 4, none⟩ lv') (xs ++ [zeroT d]) lv' (ws ++ [.int .i64 0, .int .i64 0, .string { data := #[] }, .slice none 0 0, .slice none 0 0]) := by
  have hol := h.out.lt
  have hge := h.ge
  have hs2 := hg.size
  have hz : (wr.alloc o).heap.size = wr.heap.size + 1 := by simp
  rw [hz] at hw
  have hrow : ∀ g, lv.ownBlock = some g → N ≤ g := fun g hg => (h.row.1.lt g hg).1
  have hblk : ∀ b, b < wr.heap.size → some b ≠ lv.ownBlock → w2.heap[b]? = wr.heap[b]? := fun b hb1 hb2 => (hg.block b (by omega) hb2).trans (Below.heap_alloc _ _ _ hb1)
  have yb : Blk5 w2 ob 26 (.int .i64 5) (.int .i64 0) (.string { data := #[] }) (.slice none 0 0) lv := h.out.of_block (hblk ob hol (fun e => h.off e.symm))
  have hsame : Same S wr w2 := fun b hb => hblk b (hSw b hb) (fun e => by have := hrow b e.symm; have := hS b hb; omega)
  have hoff : lv'.ownBlock ≠ some ob := by
    rcases hw with e | e
    · rw [e]; exact h.off
    · rw [e]; intro e2; cases e2; omega
  refine ⟨yb, yb.set4 _, ?_, ?_, hoff, hge⟩
  · have hz0 : ValAt S wr (d + 1) (zeroT d) (.agg #[.int .i64 0, .int .i64 0, .string { data := #[] }, .slice none 0 0, .slice none 0 0]) := zeroAt d S wr
    refine (h.row.grow hsame hz0 hown).moved (fun b hb => Below.heap_setCell _ _ _ _ (by have := hS b hb; show b ≠ ob; omega)) (fun g hg => Below.heap_setCell _ _ _ _ (fun e => hoff (by rw [hg, e])))
  · have hb := h.below
    refine ⟨hg.os.trans hb.os, hg.tape.trans hb.tape, hg.output.trans hb.output, ?_, fun b hbN => ?_⟩
    · have := hb.size
      simp [World.setCell]
      omega
    · exact (Below.heap_setCell _ _ _ _ (by show b ≠ ob; omega)).trans ((hblk b (by omega) (fun e => by have := hrow b e.symm; omega)).trans (hb.block b hbN))

end Go.Proofs.YtmibjmipndffmaaGreatDoor

/- setTree of the program. -/
namespace Go.Proofs.YtmibjmipndffmaaGreatDoor
open Go.RowKit Go.Deep

end Go.Proofs.YtmibjmipndffmaaGreatDoor

/- PartSet of the program. -/
namespace Go.Proofs.YtmibjmipndffmaaGreatDoor
open Go.RowKit Go.Deep

theorem GTo.moved {d N : Nat} {w w' : World} {sv : Value} {xs : List (Tr d)} {vs : List Value} (h : GTo N w sv xs vs) (hb : Below w.heap.size w w') : GTo N w' sv xs vs := by
  obtain ⟨h1, h2⟩ := h
  have hz := hb.size
  refine ⟨⟨h1.1, ?_⟩, fun j x u hx hu => TreeG.moved (fun b hb' => hb.block b hb'.2.1) (fun b hb' => ⟨hb'.1, by have := hb'.2.1; omega, hb'.2.2⟩) d x u (h2 j x u hx hu)⟩
  rcases h1.2 with h | ⟨g, cap, cur, hv, hg, hh, hrest⟩
  · exact Or.inl h
  · exact Or.inr ⟨g, cap, cur, hv, hg, (hb.block g (Array.getElem?_eq_some_iff.1 hh).1).trans hh, hrest⟩

end Go.Proofs.YtmibjmipndffmaaGreatDoor

/- PartSet of the model. -/
namespace Go.Proofs.YtmibjmipndffmaaGreatDoor
open Go.RowKit Go.Deep

end Go.Proofs.YtmibjmipndffmaaGreatDoor

/- PartSet of the model : the answer owns its memory. -/
namespace Go.Proofs.YtmibjmipndffmaaGreatDoor
open Go.RowKit Go.Deep

end Go.Proofs.YtmibjmipndffmaaGreatDoor

/- PartGet of the model. Of what is right. -/
namespace Go.Proofs.YtmibjmipndffmaaGreatDoor
open Go.RowKit Go.Deep

end Go.Proofs.YtmibjmipndffmaaGreatDoor

/- PartGet of the model. -/
namespace Go.Proofs.YtmibjmipndffmaaGreatDoor
open Go.RowKit Go.Deep

end Go.Proofs.YtmibjmipndffmaaGreatDoor

/- PartGet of the model : the answer owns its memory. -/
namespace Go.Proofs.YtmibjmipndffmaaGreatDoor
open Go.RowKit Go.Deep

end Go.Proofs.YtmibjmipndffmaaGreatDoor

/- PartAt of the model. Of what is right. -/
namespace Go.Proofs.YtmibjmipndffmaaGreatDoor
open Go.RowKit Go.Deep

end Go.Proofs.YtmibjmipndffmaaGreatDoor

/- PartAt of the model. -/
namespace Go.Proofs.YtmibjmipndffmaaGreatDoor
open Go.RowKit Go.Deep

end Go.Proofs.YtmibjmipndffmaaGreatDoor

/- PartAt of the model : the answer owns its memory. -/
namespace Go.Proofs.YtmibjmipndffmaaGreatDoor
open Go.RowKit Go.Deep

end Go.Proofs.YtmibjmipndffmaaGreatDoor

/- PartLen of the model and of the program. -/
namespace Go.Proofs.YtmibjmipndffmaaGreatDoor
open Go.RowKit Go.Deep

end Go.Proofs.YtmibjmipndffmaaGreatDoor

/- Numbers of the model. -/
namespace Go.Proofs.YtmibjmipndffmaaGreatDoor
open Go.RowKit Go.Deep

end Go.Proofs.YtmibjmipndffmaaGreatDoor

/- PartLen of the model. -/
namespace Go.Proofs.YtmibjmipndffmaaGreatDoor
open Go.RowKit Go.Deep

end Go.Proofs.YtmibjmipndffmaaGreatDoor

/- PartLen of the model : the answer owns its memory. -/
namespace Go.Proofs.YtmibjmipndffmaaGreatDoor
open Go.RowKit Go.Deep

end Go.Proofs.YtmibjmipndffmaaGreatDoor

/- The keys, or places, of a tree as a row. -/
namespace Go.Proofs.YtmibjmipndffmaaGreatDoor
open Go.RowKit Go.Deep

theorem okT_maps {d : Nat} {t : Tr (d + 1)} (h : okT (d + 1) t = true) (h6 : Nd.kind t = 6) : (Nd.keys t).length = (Nd.list t).length ∧ keysB (Nd.keys t) = true := by
  obtain ⟨hf, hm⟩ := okT_form h
  obtain ⟨kind, num, str, keys, list⟩ := t
  have h6 : kind = 6 := h6
  cases hb : headBad kind num str keys.length list.length 6 with
  | true => rw [formT_bad hb] at hf; cases hf
  | false =>
    rw [formT_good hb, if_neg (by omega), if_neg (by omega), if_neg (by omega), if_pos h6] at hf
    simp only [Bool.and_eq_true] at hf
    exact ⟨by simpa using hf.1.1, hf.1.2⟩
theorem okT_len {d : Nat} {t : Tr (d + 1)} (h : okT (d + 1) t = true) : (Nd.list t).length < 60 := by
  obtain ⟨_, hm⟩ := okT_form h
  obtain ⟨kind, num, str, keys, list⟩ := t
  have hmm : manyT (d + 1) (Nd.mk kind num str keys list : Nd (Tr d)) 6 = 1 + (list.map (fun x => manyT d x (6 - 1))).sum := rfl
  rw [hmm] at hm
  have := len_le_many (d := d) (deep := 6 - 1) list
  show list.length < 60
  omega
end Go.Proofs.YtmibjmipndffmaaGreatDoor

/- PartKeys of the model. -/
namespace Go.Proofs.YtmibjmipndffmaaGreatDoor
open Go.RowKit Go.Deep

end Go.Proofs.YtmibjmipndffmaaGreatDoor

/- PartKeys of the model : the answer owns its memory. -/
namespace Go.Proofs.YtmibjmipndffmaaGreatDoor
open Go.RowKit Go.Deep

end Go.Proofs.YtmibjmipndffmaaGreatDoor

/- PartEach of the model. -/
namespace Go.Proofs.YtmibjmipndffmaaGreatDoor
open Go.RowKit Go.Deep

end Go.Proofs.YtmibjmipndffmaaGreatDoor

/- PartEach of the model : the answer owns its memory. -/
namespace Go.Proofs.YtmibjmipndffmaaGreatDoor
open Go.RowKit Go.Deep

end Go.Proofs.YtmibjmipndffmaaGreatDoor

/- PartGet of the program. -/
namespace Go.Proofs.YtmibjmipndffmaaGreatDoor
open Go.RowKit Go.Deep

end Go.Proofs.YtmibjmipndffmaaGreatDoor

/- PartKeys of the program. -/
namespace Go.Proofs.YtmibjmipndffmaaGreatDoor
open Go.RowKit Go.Deep

end Go.Proofs.YtmibjmipndffmaaGreatDoor

/- PartEach of the program. -/
namespace Go.Proofs.YtmibjmipndffmaaGreatDoor
open Go.RowKit Go.Deep

end Go.Proofs.YtmibjmipndffmaaGreatDoor

/- An answer, in a variable of its own. -/
namespace Go.Proofs.YtmibjmipndffmaaGreatDoor
open Go.RowKit Go.Deep

theorem newDrew (w : World) (T : TypeId) (c0 c1 c2 c3 c4 : Value) : Blk5 (w.alloc (.cells #[c0, c1, c2, c3, c4] T)).drew w.heap.size T c0 c1 c2 c3 c4 := Blk5.new w T c0 c1 c2 c3 c4
theorem belowChain {n b : Nat} {w W : World} {T : TypeId} {c0 c1 c2 c3 c4 : Value} (hb : Below n w W) (_hz : Blk5 W b T c0 c1 c2 c3 c4) (hle : n ≤ b) (v0 v1 v2 v3 v4 : Value) : Below n w (((((W.setCell ⟨b, 0, none⟩ v0).setCell ⟨b, 1, none⟩ v1).setCell ⟨b, 2, none⟩ v2).setCell ⟨b, 3, none⟩ v3).setCell ⟨b, 4, none⟩ v4) :=
  below_set5 hb hle 0 v0 v1 v2 v3 v4
end Go.Proofs.YtmibjmipndffmaaGreatDoor

/- The laws of chapter 2: what their calls give, and how their variables lie. -/
namespace Go.Proofs.YtmibjmipndffmaaGreatDoor
open Go.RowKit Go.Deep

/-- What is told: a tree in new plain memory, and whether it can be done. -/
def TQ (w : World) (d : Nat) (t : Tr d) (ok : Bool) (W : World) (e : Ending) (w' : World) : Prop :=
  ∃ (c0 c1 : Int) (c2 : ByteArray) (c3 : Option Addr) (c4 c5 : Nat) (c6 : Option Addr) (c7 c8 : Nat), e = .returned (.tuple #[.agg #[.int .i64 c0, .int .i64 c1, .string c2, .slice c3 c4 c5, .slice c6 c7 c8], .bool ok]) ∧
    ValAt (FreshP w w') w' d t (.agg #[.int .i64 c0, .int .i64 c1, .string c2, .slice c3 c4 c5, .slice c6 c7 c8]) ∧ Below W.heap.size W w'
theorem tq_of {w W w' : World} {d : Nat} {t : Tr (d + 1)} {ok : Bool} {e : Ending} (hl : w.heap.size ≤ W.heap.size) (h : TellQ d t ok W e w') : TQ w (d + 1) t ok W e w' := by
  obtain ⟨v, rfl, hv, hb⟩ := h
  have hp := (own_plain (d + 1) _ t v hv).mono (S' := FreshP w w') (fun b hb' => ⟨⟨Nat.le_trans hl hb'.1.1, hb'.1.2⟩, hb'.2⟩)
  obtain ⟨c0, c1, c2, c3, c4, c5, c6, c7, c8, rfl⟩ := hp.shape
  exact ⟨c0, c1, c2, c3, c4, c5, c6, c7, c8, rfl, hp, hb⟩
theorem nodes_small {d : Nat} {t : Tr d} (h : wtT d t ≤ 10000) : (nodes d t : Int) ≤ 4194304 := by
  have := nodes_wt' d t
  omega

/-- One tree, twice. -/
theorem samE {d : Nat} {w W : World} {t : Tr d} {v v' : Value} (h : ValAt (FreshP w W) W d t v) (h' : ValAt (FreshP w W) W d t v') (hs : wtT d t ≤ 10000) : Calls Tryz.prog 12 #[v, v'] W fun e w' => e = .returned (.bool true) ∧ Below W.heap.size W w' := by
  have hc := samI_at h h' hs
  rw [(ord_T d).self t] at hc
  exact hc
theorem zero_at (S : Nat → Prop) (w : World) (d : Nat) : ValAt S w (d + 1) (zeroT d) (.agg #[.int .i64 0, .int .i64 0, .string { data := #[] }, .slice none 0 0, .slice none 0 0]) :=
  bareT_at S w d 0 0 ⟨#[]⟩ ⟨by omega, by omega⟩ ⟨by omega, by omega⟩ (by show (0 : Nat) < _; omega)
/-- A variable that holds a tree. -/
structure VarAt (w W : World) (b : Nat) (c0 c1 : Int) (c2 : ByteArray) (c3 : Option Addr) (c4 c5 : Nat) (c6 : Option Addr) (c7 c8 : Nat) (d : Nat) (t : Tr d) : Prop where
  blk : Blk5 W b 26 (.int .i64 c0) (.int .i64 c1) (.string c2) (.slice c3 c4 c5) (.slice c6 c7 c8)
  val : ValAt (FreshP w W) W d t (.agg #[.int .i64 c0, .int .i64 c1, .string c2, .slice c3 c4 c5, .slice c6 c7 c8])
theorem VarAt.go {w W W' : World} {b : Nat} {c0 c1 : Int} {c2 : ByteArray} {c3 : Option Addr} {c4 c5 : Nat} {c6 : Option Addr} {c7 c8 : Nat} {d : Nat} {t : Tr d} (h : VarAt w W b c0 c1 c2 c3 c4 c5 c6 c7 c8 d t) (hb : Below W.heap.size W W') : VarAt w W' b c0 c1 c2 c3 c4 c5 c6 c7 c8 d t :=
  ⟨h.blk.below hb, freshP_go h.val hb⟩
theorem VarAt.new {w W : World} {c0 c1 : Int} {c2 : ByteArray} {c3 : Option Addr} {c4 c5 : Nat} {c6 : Option Addr} {c7 c8 : Nat} {d : Nat} {t : Tr d} (h : ValAt (FreshP w W) W d t (.agg #[.int .i64 c0, .int .i64 c1, .string c2, .slice c3 c4 c5, .slice c6 c7 c8])) :
    VarAt w (W.alloc (.cells #[.int .i64 c0, .int .i64 c1, .string c2, .slice c3 c4 c5, .slice c6 c7 c8] 26)) W.heap.size c0 c1 c2 c3 c4 c5 c6 c7 c8 d t :=
  ⟨Blk5.new W _ _ _ _ _ _, freshP_go h (below_alloc1 _ _)⟩
/-- An answer that is written into a new variable, made ahead of the call or behind it. -/
theorem var_set {w Wc W : World} {b : Nat} {z0 z1 z2 z3 z4 : Value} {c0 c1 : Int} {c2 : ByteArray} {c3 : Option Addr} {c4 c5 : Nat} {c6 : Option Addr} {c7 c8 : Nat} {d : Nat} {t : Tr d} (hz : Blk5 W b 26 z0 z1 z2 z3 z4) (hb : b < Wc.heap.size) (hl : w.heap.size ≤ Wc.heap.size)
    (h : ValAt (FreshP Wc W) W d t (.agg #[.int .i64 c0, .int .i64 c1, .string c2, .slice c3 c4 c5, .slice c6 c7 c8])) :
    VarAt w (set5 W b 0 (.int .i64 c0) (.int .i64 c1) (.string c2) (.slice c3 c4 c5) (.slice c6 c7 c8)) b c0 c1 c2 c3 c4 c5 c6 c7 c8 d t := by
  have hs : ∀ x, x ≠ b → (set5 W b 0 (.int .i64 c0) (.int .i64 c1) (.string c2) (.slice c3 c4 c5) (.slice c6 c7 c8)).heap[x]? = W.heap[x]? := fun x hx => set5_block _ _ _ _ _ _ _ _ _ hx
  refine ⟨blk_set5 hz _ _ _ _ _, ValAt.moved (fun x hx => hs x (by have := hx.1.1; omega)) (fun x hx => ?_) d t _ h⟩
  exact ⟨⟨Nat.le_trans hl hx.1.1, by rw [set5_size]; exact hx.1.2⟩, hx.2.of_block (hs x (by have := hx.1.1; omega))⟩
theorem var_new {w Wc W : World} {c0 c1 : Int} {c2 : ByteArray} {c3 : Option Addr} {c4 c5 : Nat} {c6 : Option Addr} {c7 c8 : Nat} {d : Nat} {t : Tr d} (hl : w.heap.size ≤ Wc.heap.size) (h : ValAt (FreshP Wc W) W d t (.agg #[.int .i64 c0, .int .i64 c1, .string c2, .slice c3 c4 c5, .slice c6 c7 c8])) :
    VarAt w (W.alloc (.cells #[.int .i64 c0, .int .i64 c1, .string c2, .slice c3 c4 c5, .slice c6 c7 c8] 26)) W.heap.size c0 c1 c2 c3 c4 c5 c6 c7 c8 d t := VarAt.new (freshP_wide h hl)
/-- What has come since a world: nothing that was there has turned. -/
structure Since (W0 W : World) : Prop where
  bel : Below W0.heap.size W0 W
theorem Since.go {W0 W W' : World} (h : Since W0 W) (hb : Below W.heap.size W W') : Since W0 W' := ⟨below_trans h.bel hb⟩
theorem Since.start (W : World) : Since W W := ⟨Below.refl _ _⟩
/-- A row of trees that came of a call. -/
structure RowsAt (w W : World) (a : Option Addr) (c d : Nat) (xs : List (Tr d)) : Prop where
  row : RowAt (FreshP w W) W (ValAt (FreshP w W) W d) (.slice a xs.length c) xs
theorem RowsAt.go {w W W' : World} {a : Option Addr} {c d : Nat} {xs : List (Tr d)} (h : RowsAt w W a c d xs) (hb : Below W.heap.size W W') : RowsAt w W' a c d xs := by
  have hs : Same (FreshP w W) W W' := fun b hb' => hb.block b hb'.1.2
  exact ⟨h.row.moved hs (fun b hb' => ⟨⟨hb'.1.1, Nat.lt_of_lt_of_le hb'.1.2 hb.size⟩, hb'.2.of_block (hs b hb')⟩) (fun x u hx => freshP_go hx hb)⟩
/-- The tree at a place of a row, with its cells. -/
theorem row_elem {w W : World} {a : Option Addr} {n c d k : Nat} {xs : List (Tr d)} (h : RowAt (FreshP w W) W (ValAt (FreshP w W) W d) (.slice a n c) xs) (hk : k < xs.length) :
    ∃ (b o : Nat) (x : Tr d) (c0 c1 : Int) (c2 : ByteArray) (c3 : Option Addr) (c4 c5 : Nat) (c6 : Option Addr) (c7 c8 : Nat), a = some ⟨b, o, none⟩ ∧ b < W.heap.size ∧ xs[k]? = some x ∧
      W.cell? ⟨b, o + k * 5, none⟩ = some (.int .i64 c0) ∧ W.cell? ⟨b, o + k * 5 + 1, none⟩ = some (.int .i64 c1) ∧ W.cell? ⟨b, o + k * 5 + 2, none⟩ = some (.string c2) ∧ W.cell? ⟨b, o + k * 5 + 3, none⟩ = some (.slice c3 c4 c5) ∧ W.cell? ⟨b, o + k * 5 + 4, none⟩ = some (.slice c6 c7 c8) ∧
      ValAt (FreshP w W) W d x (.agg #[.int .i64 c0, .int .i64 c1, .string c2, .slice c3 c4 c5, .slice c6 c7 c8]) := by
  obtain ⟨b, o, x, c0, c1, c2, c3, c4, ha, hS, hx, e0, e1, e2, e3, e4, hv⟩ := h.cell hk
  obtain ⟨p0, p1, p2, p3, p4, p5, p6, p7, p8, hp⟩ := hv.shape
  cases hp
  exact ⟨b, o, x, _, _, _, _, _, _, _, _, _, ha, hS.1.2, hx, e0, e1, e2, e3, e4, hv⟩
theorem val_parts {w W : World} {d : Nat} {t : Tr (d + 1)} {c0 c1 : Int} {c2 : ByteArray} {c3 : Option Addr} {c4 c5 : Nat} {c6 : Option Addr} {c7 c8 : Nat} (h : ValAt (FreshP w W) W (d + 1) t (.agg #[.int .i64 c0, .int .i64 c1, .string c2, .slice c3 c4 c5, .slice c6 c7 c8])) :
    c0 = Nd.kind t ∧ c1 = Nd.num t ∧ c2 = Nd.str t ∧ c4 = (Nd.keys t).length ∧ c7 = (Nd.list t).length ∧ StrsAt (FreshP w W) W (.slice c3 c4 c5) (Nd.keys t) ∧ RowAt (FreshP w W) W (ValAt (FreshP w W) W d) (.slice c6 c7 c8) (Nd.list t) := by
  obtain ⟨h0, h1, h2, _, _, _, hk, hl⟩ := parts_of h
  obtain ⟨_, _, e1, _⟩ := hk.open'
  obtain ⟨_, _, e2, _⟩ := hl.open'
  cases h0
  cases h1
  cases h2
  cases e1
  cases e2
  exact ⟨rfl, rfl, rfl, rfl, rfl, hk, hl⟩
/-- What stands all along. -/
structure Amid (w W : World) : Prop where
  bel : Below w.heap.size w W
  err : ErrType W
theorem Amid.go {w W W' : World} (h : Amid w W) (hb : Below W.heap.size W W') : Amid w W' := ⟨below_trans h.bel hb, h.err.below hb⟩
theorem Amid.le {w W : World} (h : Amid w W) : w.heap.size ≤ W.heap.size := h.bel.size
end Go.Proofs.YtmibjmipndffmaaGreatDoor

/- Two trees together: plain facts. -/
namespace Go.Proofs.YtmibjmipndffmaaGreatDoor
open Go.RowKit Go.Deep

/-- What lies at a key of pairs. -/
def getP {α : Type} (ps : List (ByteArray × α)) (s : ByteArray) : Option α := getL (ps.map Prod.fst) (ps.map Prod.snd) s
/-- One pair more, at its place. -/
def putP {α : Type} (ps : List (ByteArray × α)) (q : ByteArray × α) : List (ByteArray × α) := putL (ps.map Prod.fst) (ps.map Prod.snd) q.1 q.2
/-- All pairs of the second put into the first, one behind the other. -/
def putAll {α : Type} (ps qs : List (ByteArray × α)) : List (ByteArray × α) := qs.foldl putP ps

theorem getP_same {α : Type} (ps : List (ByteArray × α)) (q : ByteArray × α) : getP (putP ps q) q.1 = some q.2 := getL_put_same _ _ _ _ (putL_len2 ps)
theorem getP_other {α : Type} (ps : List (ByteArray × α)) (q : ByteArray × α) {s : ByteArray} (h : s ≠ q.1) : getP (putP ps q) s = getP ps s := getL_put_other _ h _ _ (putL_len2 ps)
theorem putP_order {α : Type} {ps : List (ByteArray × α)} {q : ByteArray × α} (hq : strOk q.1 = true) (h : keysGo none (ps.map Prod.fst) = true) : keysGo none ((putP ps q).map Prod.fst) = true := putL_order hq (putL_len2 ps) h
theorem putAll_order {α : Type} : ∀ (qs ps : List (ByteArray × α)), (∀ q ∈ qs, strOk q.1 = true) → keysGo none (ps.map Prod.fst) = true → keysGo none ((putAll ps qs).map Prod.fst) = true
  | [], _, _, h => h
  | q :: r, ps, hq, h => putAll_order r (putP ps q) (fun x hx => hq x (by simp [hx])) (putP_order (hq q (by simp)) h)
theorem putAll_miss {α : Type} {s : ByteArray} : ∀ (qs ps : List (ByteArray × α)), (∀ q ∈ qs, s ≠ q.1) → getP (putAll ps qs) s = getP ps s
  | [], _, _ => rfl
  | q :: r, ps, h => by
    show getP (putAll (putP ps q) r) s = _
    rw [putAll_miss r (putP ps q) (fun x hx => h x (by simp [hx])), getP_other ps q (h q (by simp))]
theorem putAll_hit {α : Type} {q : ByteArray × α} : ∀ (qs ps : List (ByteArray × α)), qs.Pairwise (fun a b => a.1 ≠ b.1) → q ∈ qs → getP (putAll ps qs) q.1 = some q.2
  | [], _, _, h => by cases h
  | p :: r, ps, hp, h => by
    obtain ⟨h1, h2⟩ := List.pairwise_cons.1 hp
    show getP (putAll (putP ps p) r) q.1 = _
    rcases List.mem_cons.1 h with rfl | h
    · rw [putAll_miss r _ (fun x hx => h1 x hx), getP_same]
    · exact putAll_hit r _ h2 h
/-- The order in which they come does not matter. -/
theorem putAll_perm {α : Type} {ps qs qs' : List (ByteArray × α)} (hp : qs.Perm qs') (hd : qs.Pairwise (fun a b => a.1 ≠ b.1)) (hk : ∀ q ∈ qs, strOk q.1 = true) (ho : keysGo none (ps.map Prod.fst) = true) : putAll ps qs = putAll ps qs' := by
  have hd' : qs'.Pairwise (fun a b => a.1 ≠ b.1) := hp.pairwise hd (fun h => Ne.symm h)
  refine assoc_ext _ _ none none (putAll_order qs ps hk ho) (putAll_order qs' ps (fun q hq => hk q (hp.mem_iff.2 hq)) ho) (fun s => ?_)
  show getP (putAll ps qs) s = getP (putAll ps qs') s
  by_cases hs : ∃ q ∈ qs, s = q.1
  · obtain ⟨q, hq, rfl⟩ := hs
    rw [putAll_hit qs ps hd hq, putAll_hit qs' ps hd' (hp.mem_iff.1 hq)]
  · rw [putAll_miss qs ps (fun q hq e => hs ⟨q, hq, e⟩), putAll_miss qs' ps (fun q hq e => hs ⟨q, hp.mem_iff.2 hq, e⟩)]
/-- Keys in order are each once. -/
theorem keys_pairwise {α : Type} {ps : List (ByteArray × α)} (h : keysGo none (ps.map Prod.fst) = true) : ps.Pairwise (fun a b => a.1 ≠ b.1) := by
  have hp := keysGo_pair _ none h
  rw [List.pairwise_map] at hp
  exact hp.imp (fun h => ltB_ne h)

/-- The pairs of a map. -/
def pairsT {d : Nat} (t : Tr (d + 1)) : List (ByteArray × Tr d) := (Nd.keys t).zip (Nd.list t)
/-- What two trees that are ok, and of one kind, are together, before it is asked whether that is ok. -/
def sumT (d : Nat) (a b : Tr (d + 1)) : Option (Tr (d + 1)) :=
  if Nd.kind a = 0 then some b else if Nd.kind b = 0 then some a else if Nd.kind a ≠ Nd.kind b then none
  else if Nd.kind a = 3 then some (Nd.mk 3 (Nd.num a + Nd.num b) ByteArray.empty [] [] : Nd (Tr d)) else if Nd.kind a = 4 then some (Nd.mk 4 0 (Nd.str a ++ Nd.str b) [] [] : Nd (Tr d))
  else if Nd.kind a = 5 then some (rowT d (Nd.list a ++ Nd.list b)) else if Nd.kind a = 6 then some (mapT d (putAll (pairsT a) (pairsT b))) else none
/-- What PartAdd tells. -/
def partAddT (d : Nat) (a b : Tr (d + 1)) : Tr (d + 1) × Bool :=
  if okT (d + 1) a = true ∧ okT (d + 1) b = true then (match sumT d a b with | some t => (toldT d t, okT (d + 1) t) | none => (zeroT d, false)) else (zeroT d, false)
theorem okT_partAdd (d : Nat) (a b : Tr (d + 1)) : okT (d + 1) (partAddT d a b).1 = true := by
  unfold partAddT
  split
  · split
    · exact okT_told _ _
    · exact okT_zero _
  · exact okT_zero _
end Go.Proofs.YtmibjmipndffmaaGreatDoor
