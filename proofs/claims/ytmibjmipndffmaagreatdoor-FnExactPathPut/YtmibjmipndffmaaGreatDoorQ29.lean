/- Texts of the proof, put together by program: WLenN, WLenS, WLenSo, WKeyP, WKeyS, WKeySo, WEachS, WEachSo, WKeyI, WEachI, LPartC, WPathQ, WPathL, WDeep, ReadSt. -/
import Derived.Test.YtmibjmipndffmaaGreatDoorQ5
import Derived.Test.YtmibjmipndffmaaGreatDoorQ28
import Derived.Test.YtmibjmipndffmaaGreatDoorQ6
import Derived.Test.YtmibjmipndffmaaGreatDoorQ7
import Derived.Test.YtmibjmipndffmaaGreatDoorQ4
import Derived.Test.YtmibjmipndffmaaGreatDoorQ8
import Derived.Test.YtmibjmipndffmaaGreatDoorQ16
import Derived.Test.YtmibjmipndffmaaGreatDoorQ17
import Derived.Test.YtmibjmipndffmaaGreatDoorQ9
import Derived.Test.YtmibjmipndffmaaGreatDoorQ19
import Derived.Test.YtmibjmipndffmaaGreatDoorQ13
import Derived.Test.YtmibjmipndffmaaGreatDoorQ10
import Derived.Test.YtmibjmipndffmaaGreatDoorQ12
import Derived.ChangeArms
/- Numbers of the model. -/
namespace Go.Proofs.YtmibjmipndffmaaGreatDoor
open Go.RowKit Go.Deep

end Go.Proofs.YtmibjmipndffmaaGreatDoor

/- PartLen of the model. -/
namespace Go.Proofs.YtmibjmipndffmaaGreatDoor
open Go.RowKit Go.Deep

theorem okT_partLen (d : Nat) (t : Tr (d + 1)) : okT (d + 1) (partLenT d t).1 = true := by
  unfold partLenT
  split
  · rename_i h
    cases hl : lenT d t with
    | none => exact okT_zero d
    | some n => exact okT_num d n (lenT_bd h hl)
  · exact okT_zero d
end Go.Proofs.YtmibjmipndffmaaGreatDoor

/- PartLen of the model : the answer owns its memory. -/
namespace Go.Proofs.YtmibjmipndffmaaGreatDoor
open Go.RowKit Go.Deep

end Go.Proofs.YtmibjmipndffmaaGreatDoor

/- The keys, or places, of a tree as a row. -/
namespace Go.Proofs.YtmibjmipndffmaaGreatDoor
open Go.RowKit Go.Deep

def strT (d : Nat) (s : ByteArray) : Tr (d + 1) := (Nd.mk 4 0 s [] [] : Nd (Tr d))
def rowK (d : Nat) (xs : List (Tr (d + 1))) : Tr (d + 2) := (Nd.mk 5 0 ByteArray.empty [] xs : Nd (Tr (d + 1)))
/-- The places of so many, as numbers. -/
def placesT (d n : Nat) : List (Tr (d + 1)) := (List.range n).map (fun (i : Nat) => numT d (i : Int))
def keyTs (d : Nat) (t : Tr (d + 2)) : List (Tr (d + 1)) := if Nd.kind t = 5 then placesT d (Nd.list t).length else (Nd.keys t).map (strT d)
def partKeysT (d : Nat) (t : Tr (d + 2)) : Tr (d + 2) × Bool := if okT (d + 2) t = true ∧ 5 ≤ Nd.kind t then (rowK d (keyTs d t), true) else (zeroT (d + 1), false)

theorem places_at (d n k : Nat) (h : k < n) : (placesT d n)[k]? = some (numT d (k : Int)) := by
  simp [placesT, h]
theorem places_len (d n : Nat) : (placesT d n).length = n := by simp [placesT]

theorem okT_maps {d : Nat} {t : Tr (d + 1)} (h : okT (d + 1) t = true) (h6 : Nd.kind t = 6) : (Nd.keys t).length = (Nd.list t).length ∧ keysB (Nd.keys t) = true := by
  obtain ⟨hf, hm⟩ := okT_form h
  obtain ⟨kind, num, str, keys, list⟩ := t
  have h6 : kind = 6 := h6
  cases hb : headBad kind num str keys.length list.length 6 with
  | true => rw [formT_bad hb] at hf; cases hf
  | false =>
    rw [formT_good hb, if_neg (by omega), if_neg (by omega), if_neg (by omega), if_pos h6] at hf
    simp only [Bool.and_eq_true] at hf
    exact ⟨by simpa using hf.1.1, hf.1.2⟩
theorem okT_len {d : Nat} {t : Tr (d + 1)} (h : okT (d + 1) t = true) : (Nd.list t).length < 60 := by
  obtain ⟨_, hm⟩ := okT_form h
  obtain ⟨kind, num, str, keys, list⟩ := t
  have hmm : manyT (d + 1) (Nd.mk kind num str keys list : Nd (Tr d)) 6 = 1 + (list.map (fun x => manyT d x (6 - 1))).sum := rfl
  rw [hmm] at hm
  have := len_le_many (d := d) (deep := 6 - 1) list
  show list.length < 60
  omega
theorem keyTs_len {d : Nat} {t : Tr (d + 2)} (h : okT (d + 2) t = true) (h5 : 5 ≤ Nd.kind t) : (keyTs d t).length = (Nd.list t).length := by
  unfold keyTs
  split
  · exact places_len _ _
  · rename_i h6
    rw [List.length_map]
    have hk := (okT_kinds h).1
    exact (okT_maps h (by omega)).1

theorem sum_ones {α : Type} {f : α → Nat} : ∀ (xs : List α), (∀ x ∈ xs, f x = 1) → (xs.map f).sum = xs.length
  | [], _ => rfl
  | x :: r, h => by
    simp only [List.map_cons, List.sum_cons, List.length_cons]
    rw [h x (by simp), sum_ones r (fun y hy => h y (by simp [hy]))]
    omega
theorem form_num (d : Nat) (n : Int) (h : -1000000 ≤ n ∧ n ≤ 1000000) : formT (d + 1) (numT d n) (6 - 1) = true := by
  have hb : headBad 3 n ByteArray.empty ([] : List ByteArray).length ([] : List (Tr d)).length (6 - 1) = false := headBad_iff.2 ⟨by omega, fun h => absurd rfl h, fun _ => empty_toList, fun _ => rfl, fun _ => rfl⟩
  show formT (d + 1) (Nd.mk 3 n ByteArray.empty [] [] : Nd (Tr d)) (6 - 1) = true
  rw [formT_good hb]
  simp [h]
theorem form_str (d : Nat) (s : ByteArray) (h : strOk s = true) : formT (d + 1) (strT d s) (6 - 1) = true := by
  have hb : headBad 4 0 s ([] : List ByteArray).length ([] : List (Tr d)).length (6 - 1) = false := headBad_iff.2 ⟨by omega, fun _ => rfl, fun h => absurd rfl h, fun _ => rfl, fun _ => rfl⟩
  show formT (d + 1) (Nd.mk 4 0 s [] [] : Nd (Tr d)) (6 - 1) = true
  rw [formT_good hb]
  simp [h]
theorem okT_rowK {d : Nat} {xs : List (Tr (d + 1))} (hl : xs.length < 60) (hx : ∀ x ∈ xs, formT (d + 1) x (6 - 1) = true ∧ manyT (d + 1) x (6 - 1) = 1) : okT (d + 2) (rowK d xs) = true := by
  have hb : headBad 5 0 ByteArray.empty ([] : List ByteArray).length xs.length 6 = false := headBad_iff.2 ⟨by omega, fun _ => rfl, fun _ => empty_toList, fun _ => rfl, fun h => absurd h (by omega)⟩
  have h1 : formT (d + 2) (rowK d xs) 6 = true := by
    show formT (d + 2) (Nd.mk 5 0 ByteArray.empty [] xs : Nd (Tr (d + 1))) 6 = true
    rw [formT_good hb, if_neg (by omega), if_neg (by omega), if_neg (by omega), if_neg (by omega), if_pos rfl]
    exact List.all_eq_true.2 (fun x h => (hx x h).1)
  have h2 : manyT (d + 2) (rowK d xs) 6 = 1 + (xs.map (fun x => manyT (d + 1) x (6 - 1))).sum := rfl
  rw [sum_ones xs (fun x h => (hx x h).2)] at h2
  have h3 : manyT (d + 2) (rowK d xs) 6 ≤ 60 := by omega
  unfold okT
  rw [h1]
  simpa using h3
theorem okT_partKeys (d : Nat) (t : Tr (d + 2)) : okT (d + 2) (partKeysT d t).1 = true := by
  unfold partKeysT
  split
  · rename_i h
    have hl := okT_len h.1
    refine okT_rowK (by rw [keyTs_len h.1 h.2]; exact hl) (fun x hx => ?_)
    unfold keyTs at hx
    split at hx
    · simp only [placesT, List.mem_map, List.mem_range] at hx
      obtain ⟨i, hi, rfl⟩ := hx
      exact ⟨form_num d i (by omega), rfl⟩
    · rename_i h5
      obtain ⟨s, hs, rfl⟩ := List.mem_map.1 hx
      have hk := (okT_kinds h.1).1
      exact ⟨form_str d s (keysB_strOk _ none (okT_maps h.1 (by have := h.2; omega)).2 s hs), rfl⟩
  · exact okT_zero (d + 1)
end Go.Proofs.YtmibjmipndffmaaGreatDoor

/- PartKeys of the model. -/
namespace Go.Proofs.YtmibjmipndffmaaGreatDoor
open Go.RowKit Go.Deep

theorem row_sliceK {w : World} {base : Nat} {e : TypeId} {size n : Nat} {v : Value} {xs : List Value} (h : w.ownsRow base e size v n xs) : ∃ a m c, v = .slice a m c := by
  rcases h.2 with ⟨rfl, _⟩ | ⟨g, cap, cur, rfl, _⟩
  · exact ⟨_, _, _, rfl⟩
  · exact ⟨_, _, _, rfl⟩

end Go.Proofs.YtmibjmipndffmaaGreatDoor

/- PartKeys of the model : the answer owns its memory. -/
namespace Go.Proofs.YtmibjmipndffmaaGreatDoor
open Go.RowKit Go.Deep

end Go.Proofs.YtmibjmipndffmaaGreatDoor

/- PartEach of the model. -/
namespace Go.Proofs.YtmibjmipndffmaaGreatDoor
open Go.RowKit Go.Deep

/-- The parts of a tree, and whether there can be some. -/
def eachT (d : Nat) (t : Tr (d + 1)) : List (Tr d) × Bool := if okT (d + 1) t = true ∧ 5 ≤ Nd.kind t then (Nd.list t, true) else ([], false)
/-- What is asked of PartEach of the model, .. of the program. -/
def SpecRQ (d : Nat) (xs : List (Tr d)) (ok : Bool) (w : World) (e : Ending) (w' : World) : Prop :=
  ∃ v, e = .returned (.tuple #[v, .bool ok]) ∧ RowAt (Fresh w w') w' (ValAt (Fresh w w') w' d) v xs ∧ Below w.heap.size w w'
def TellRQ (d : Nat) (xs : List (Tr d)) (ok : Bool) (w : World) (e : Ending) (w' : World) : Prop :=
  ∃ v, e = .returned (.tuple #[v, .bool ok]) ∧ RowOwn w' (fun P x u => ValOwn w' d P x u) (Fresh w w') v xs ∧ Below w.heap.size w w'
theorem row_nil {d : Nat} (S : Nat → Prop) (w : World) (a : Option Addr) : RowAt S w (ValAt S w d) (.slice a 0 0) [] := ⟨by show (0 : Nat) < _; omega, a, 0, rfl, Or.inl rfl⟩
theorem rowOwn_at {d : Nat} {S : Nat → Prop} {w : World} {v : Value} {xs : List (Tr d)} (h : RowOwn w (fun P x u => ValOwn w d P x u) S v xs) : RowAt S w (ValAt S w d) v xs := by
  have h1 : ValOwn w (d + 1) S (Nd.mk 5 0 ByteArray.empty [] xs : Nd (Tr d)) (.agg #[.int .i64 5, .int .i64 0, .string ByteArray.empty, .slice none 0 0, v]) :=
    ⟨_, _, fun _ => False, S, rfl, ⟨by show _ ≤ (5 : Int); omega, by show (5 : Int) ≤ _; omega⟩, ⟨by show _ ≤ (0 : Int); omega, by show (0 : Int) ≤ _; omega⟩, by show ByteArray.empty.size < _; decide, ⟨by show (0 : Nat) < _; omega, fun s h => by (cases h), none, 0, rfl, Or.inl rfl⟩, h, fun _ h => h.elim, fun _ h => h, fun _ h => h.elim⟩
  obtain ⟨vk, vl, hv, _, _, _, _, hl⟩ := ValOwn.at _ _ _ _ h1
  cases hv
  exact hl

end Go.Proofs.YtmibjmipndffmaaGreatDoor

/- PartEach of the model : the answer owns its memory. -/
namespace Go.Proofs.YtmibjmipndffmaaGreatDoor
open Go.RowKit Go.Deep

end Go.Proofs.YtmibjmipndffmaaGreatDoor

/- PartKeys of the program. -/
namespace Go.Proofs.YtmibjmipndffmaaGreatDoor
open Go.RowKit Go.Deep

/-- A row of trees without parts. -/
theorem row1_of_own {d N : Nat} {S : Nat → Prop} {w' : World} {sv : Value} {xs : List (Tr d)} {vs : List Value} (h1 : w'.ownsRow N 70 1 sv xs.length vs) (hl : xs.length < 17592186044416) (hS : ∀ b, N ≤ b → b < w'.heap.size → S b)
    (h2 : ∀ (i : Nat) (x : Tr d) (u : Value), xs[i]? = some x → vs[i]? = some u → TreeG S w' d x u) : Row1At S w' (TreeG S w' d) sv xs := by
  refine ⟨hl, ?_⟩
  have hlen := h1.1
  rw [Nat.mul_one] at hlen
  rcases h1.2 with ⟨rfl, h0⟩ | ⟨g, cap, cur, rfl, hg, hh, _, _, _, _⟩
  · exact ⟨none, 0, by rw [h0], Or.inl (List.eq_nil_of_length_eq_zero h0)⟩
  · refine ⟨some ⟨g, 0, none⟩, cap, rfl, Or.inr ⟨g, 0, hS g hg (Array.getElem?_eq_some_iff.1 hh).1, rfl, fun i x hx => ?_⟩⟩
    have hi := (List.getElem?_eq_some_iff.1 hx).1
    have hvi : vs[i]? = some vs[i] := List.getElem?_eq_getElem (by omega)
    have hc := h1.cells (g := g) rfl i _ hvi
    have hadd : (⟨g, 0, none⟩ : Addr).add i = ⟨g, 0 + i, none⟩ := by unfold Addr.add; split <;> simp_all
    rw [hadd] at hc
    exact ⟨vs[i], hc, h2 i x _ hx hvi⟩
/-- Places, keys as the program's own trees. -/
def placeVs (k : Nat) : List Value := (List.range k).map (fun (i : Nat) => .iface 157 (.agg #[.int .i64 (i : Int)]))
def keyVs (ks : List ByteArray) : List Value := ks.map (fun s => .iface 155 (.agg #[.string s]))
theorem placeVs_succ (k : Nat) : placeVs (k + 1) = placeVs k ++ [.iface 157 (.agg #[.int .i64 (k : Int)])] := by
  simp [placeVs, List.range_succ]
theorem keyVs_succ (ks : List ByteArray) (k : Nat) (s : ByteArray) (h : ks[k]? = some s) : keyVs (ks.take (k + 1)) = keyVs (ks.take k) ++ [.iface 155 (.agg #[.string s])] := by
  rw [List.take_add_one, h]
  simp [keyVs]

/-- What withParts is asked to give. -/
def WithQ (d : Nat) (t : Tr (d + 1)) (w : World) (e : Ending) (w' : World) : Prop :=
  Below w.heap.size w w' ∧ ((okT (d + 1) t = true ∧ 5 ≤ Nd.kind t ∧ ∃ u, e = .returned (.tuple #[u, .nilIface]) ∧ TreeG (Fresh w w') w' (d + 1) t u) ∨ (¬ (okT (d + 1) t = true ∧ 5 ≤ Nd.kind t) ∧ ∃ why, e = .returned (.tuple #[.nilIface, faultV why])))

/-- What keyRow is asked to give. -/
def KeyQ (d : Nat) (t : Tr (d + 2)) (w : World) (e : Ending) (w' : World) : Prop :=
  Below w.heap.size w w' ∧ ((okT (d + 2) t = true ∧ 5 ≤ Nd.kind t ∧ ∃ u, e = .returned (.tuple #[u, .nilIface]) ∧ TreeG (Fresh w w') w' (d + 2) (rowK d (keyTs d t)) u) ∨ (¬ (okT (d + 2) t = true ∧ 5 ≤ Nd.kind t) ∧ ∃ why, e = .returned (.tuple #[.nilIface, faultV why])))

end Go.Proofs.YtmibjmipndffmaaGreatDoor

/- PartEach of the program. -/
namespace Go.Proofs.YtmibjmipndffmaaGreatDoor
open Go.RowKit Go.Deep

end Go.Proofs.YtmibjmipndffmaaGreatDoor

/- The laws of chapter 2: what their calls give, and how their variables lie. -/
namespace Go.Proofs.YtmibjmipndffmaaGreatDoor
open Go.RowKit Go.Deep

/-- What is told: a tree in new plain memory, and whether it can be done. -/
def TQ (w : World) (d : Nat) (t : Tr d) (ok : Bool) (W : World) (e : Ending) (w' : World) : Prop :=
  ∃ (c0 c1 : Int) (c2 : ByteArray) (c3 : Option Addr) (c4 c5 : Nat) (c6 : Option Addr) (c7 c8 : Nat), e = .returned (.tuple #[.agg #[.int .i64 c0, .int .i64 c1, .string c2, .slice c3 c4 c5, .slice c6 c7 c8], .bool ok]) ∧
    ValAt (FreshP w w') w' d t (.agg #[.int .i64 c0, .int .i64 c1, .string c2, .slice c3 c4 c5, .slice c6 c7 c8]) ∧ Below W.heap.size W w'
theorem tq_of {w W w' : World} {d : Nat} {t : Tr (d + 1)} {ok : Bool} {e : Ending} (hl : w.heap.size ≤ W.heap.size) (h : TellQ d t ok W e w') : TQ w (d + 1) t ok W e w' := by
  obtain ⟨v, rfl, hv, hb⟩ := h
  have hp := (own_plain (d + 1) _ t v hv).mono (S' := FreshP w w') (fun b hb' => ⟨⟨Nat.le_trans hl hb'.1.1, hb'.1.2⟩, hb'.2⟩)
  obtain ⟨c0, c1, c2, c3, c4, c5, c6, c7, c8, rfl⟩ := hp.shape
  exact ⟨c0, c1, c2, c3, c4, c5, c6, c7, c8, rfl, hp, hb⟩
theorem nodes_small {d : Nat} {t : Tr d} (h : wtT d t ≤ 10000) : (nodes d t : Int) ≤ 4194304 := by
  have := nodes_wt' d t
  omega

theorem getI {d : Nat} {w W : World} {t : Tr (d + 2)} {v : Value} {s : ByteArray} (h : ValAt (FreshP w W) W (d + 2) t v) (hs : s.size < 281474976710656) (hg : ErrType W) (hl : w.heap.size ≤ W.heap.size) :
    Calls Tryz.prog 22 #[v, .string s] W (TQ w (d + 1) (partGetT d t s).1 (partGetT d t s).2 W) := (implPartGet_any d _ t v s hs W h within_P hg).mono (fun _ _ h => tq_of hl h)
theorem atI {d : Nat} {w W : World} {t : Tr (d + 2)} {v : Value} {i : Int} (h : ValAt (FreshP w W) W (d + 2) t v) (hi : I64 i) (hg : ErrType W) (hl : w.heap.size ≤ W.heap.size) :
    Calls Tryz.prog 23 #[v, .int .i64 i] W (TQ w (d + 1) (partAtT d t i).1 (partAtT d t i).2 W) := (implPartAt_any d _ t v i hi W h within_P hg).mono (fun _ _ h => tq_of hl h)
theorem putI {d : Nat} {w W : World} {t : Tr (d + 2)} {x : Tr (d + 1)} {v u : Value} {s : ByteArray} (h : ValAt (FreshP w W) W (d + 2) t v) (hx : ValAt (FreshP w W) W (d + 1) x u) (hs : s.size < 281474976710656) (hg : ErrType W) (hl : w.heap.size ≤ W.heap.size) :
    Calls Tryz.prog 92 #[v, .string s, u] W (TQ w (d + 2) (partPutT d t s x).1 (partPutT d t s x).2 W) := (implPartPut_any d _ t v s hs _ x u W h within_P hx within_P hg).mono (fun _ _ h => tq_of hl h)
theorem putS {d : Nat} {w W : World} {t : Tr (d + 2)} {x : Tr (d + 1)} {v u : Value} {s : ByteArray} (h : ValAt (FreshP w W) W (d + 2) t v) (hx : ValAt (FreshP w W) W (d + 1) x u) (hs : s.size < 281474976710656) (hz : wtT (d + 2) t ≤ 10000) (hz' : wtT (d + 1) x ≤ 10000) (hl : w.heap.size ≤ W.heap.size) :
    Calls Tryz.prog 96 #[v, .string s, u] W (TQ w (d + 2) (partPutT d t s x).1 (partPutT d t s x).2 W) := (specPartPut_own d _ t v s hs _ x u W h within_P hx within_P (nodes_small hz) (nodes_small hz')).mono (fun _ _ h => tq_of hl h)
theorem setI {d : Nat} {w W : World} {t : Tr (d + 2)} {x : Tr (d + 1)} {v u : Value} {i : Int} (h : ValAt (FreshP w W) W (d + 2) t v) (hx : ValAt (FreshP w W) W (d + 1) x u) (hi : I64 i) (hg : ErrType W) (hl : w.heap.size ≤ W.heap.size) :
    Calls Tryz.prog 93 #[v, .int .i64 i, u] W (TQ w (d + 2) (partSetT d t i x).1 (partSetT d t i x).2 W) := (implPartSet_any d _ t v i hi _ x u W h within_P hx within_P hg).mono (fun _ _ h => tq_of hl h)
theorem setS {d : Nat} {w W : World} {t : Tr (d + 2)} {x : Tr (d + 1)} {v u : Value} {i : Int} (h : ValAt (FreshP w W) W (d + 2) t v) (hx : ValAt (FreshP w W) W (d + 1) x u) (hi : I64 i) (hz : wtT (d + 2) t ≤ 10000) (hz' : wtT (d + 1) x ≤ 10000) (hl : w.heap.size ≤ W.heap.size) :
    Calls Tryz.prog 97 #[v, .int .i64 i, u] W (TQ w (d + 2) (partSetT d t i x).1 (partSetT d t i x).2 W) := (specPartSet_own d _ t v i hi _ x u W h within_P hx within_P (nodes_small hz) (nodes_small hz')).mono (fun _ _ h => tq_of hl h)
/-- A row of trees in plain memory, and whether it can be told. -/
def RQ (w : World) (d : Nat) (xs : List (Tr d)) (ok : Bool) (W : World) (e : Ending) (w' : World) : Prop :=
  ∃ (a : Option Addr) (c : Nat), e = .returned (.tuple #[.slice a xs.length c, .bool ok]) ∧ RowAt (FreshP w w') w' (ValAt (FreshP w w') w' d) (.slice a xs.length c) xs ∧ Below W.heap.size W w'
theorem rq_of {w W w' : World} {d : Nat} {xs : List (Tr d)} {ok : Bool} {e : Ending} (hl : w.heap.size ≤ W.heap.size) (h : TellRQ d xs ok W e w') : RQ w d xs ok W e w' := by
  obtain ⟨v, rfl, hv, hb⟩ := h
  have h1 : ValOwn w' (d + 1) (Fresh W w') (Nd.mk 5 0 ByteArray.empty [] xs : Nd (Tr d)) (.agg #[.int .i64 5, .int .i64 0, .string ByteArray.empty, .slice none 0 0, v]) :=
    ⟨_, _, fun _ => False, Fresh W w', rfl, ⟨by show _ ≤ (5 : Int); omega, by show (5 : Int) ≤ _; omega⟩, ⟨by show _ ≤ (0 : Int); omega, by show (0 : Int) ≤ _; omega⟩, by show ByteArray.empty.size < _; decide, ⟨by show (0 : Nat) < _; omega, fun s h => by (cases h), none, 0, rfl, Or.inl rfl⟩, hv, fun _ h => h.elim, fun _ h => h, fun _ h => h.elim⟩
  have hp := (own_plain (d + 1) _ _ _ h1).mono (S' := FreshP w w') (fun b hb' => ⟨⟨Nat.le_trans hl hb'.1.1, hb'.1.2⟩, hb'.2⟩)
  obtain ⟨vk, vl, hv', _, _, _, _, hrow⟩ := hp
  cases hv'
  obtain ⟨a, c, rfl, _⟩ := hrow.open'
  exact ⟨a, c, rfl, hrow, hb⟩
/-- The same, the answer being known to lie in what is new. -/
theorem getG {d : Nat} {w W : World} {t : Tr (d + 2)} {v : Value} {s : ByteArray} (h : ValAt (FreshP w W) W (d + 2) t v) (hs : s.size < 281474976710656) (hg : ErrType W) (_hl : w.heap.size ≤ W.heap.size) :
    Calls Tryz.prog 22 #[v, .string s] W (TQ W (d + 1) (partGetT d t s).1 (partGetT d t s).2 W) := (implPartGet_any d _ t v s hs W h within_P hg).mono (fun _ _ h => tq_of (Nat.le_refl _) h)
theorem setG {d : Nat} {w W : World} {t : Tr (d + 2)} {x : Tr (d + 1)} {v u : Value} {i : Int} (h : ValAt (FreshP w W) W (d + 2) t v) (hx : ValAt (FreshP w W) W (d + 1) x u) (hi : I64 i) (hg : ErrType W) :
    Calls Tryz.prog 93 #[v, .int .i64 i, u] W (TQ W (d + 2) (partSetT d t i x).1 (partSetT d t i x).2 W) := (implPartSet_any d _ t v i hi _ x u W h within_P hx within_P hg).mono (fun _ _ h => tq_of (Nat.le_refl _) h)
theorem putG {d : Nat} {w W : World} {t : Tr (d + 2)} {x : Tr (d + 1)} {v u : Value} {s : ByteArray} (h : ValAt (FreshP w W) W (d + 2) t v) (hx : ValAt (FreshP w W) W (d + 1) x u) (hs : s.size < 281474976710656) (hg : ErrType W) :
    Calls Tryz.prog 92 #[v, .string s, u] W (TQ W (d + 2) (partPutT d t s x).1 (partPutT d t s x).2 W) := (implPartPut_any d _ t v s hs _ x u W h within_P hx within_P hg).mono (fun _ _ h => tq_of (Nat.le_refl _) h)
/-- One tree, twice. -/
theorem samE {d : Nat} {w W : World} {t : Tr d} {v v' : Value} (h : ValAt (FreshP w W) W d t v) (h' : ValAt (FreshP w W) W d t v') (hs : wtT d t ≤ 10000) : Calls Tryz.prog 12 #[v, v'] W fun e w' => e = .returned (.bool true) ∧ Below W.heap.size W w' := by
  have hc := samI_at h h' hs
  rw [(ord_T d).self t] at hc
  exact hc
theorem okS_at {d : Nat} {w W : World} {t : Tr d} {v : Value} (h : ValAt (FreshP w W) W d t v) (hs : wtT d t ≤ 10000) : Calls Tryz.prog 19 #[v] W fun e w' => e = .returned (.bool (okT d t)) ∧ Below W.heap.size W w' :=
  specValOk_any d _ t v W h within_P (nodes_small hs)

theorem toList_ne {a b : ByteArray} (h : a ≠ b) : (a.toList == b.toList) = false := by
  cases hb : (a.toList == b.toList)
  · rfl
  · have e := beq_iff_eq.1 hb
    rw [ByteArray.toList_eq, ByteArray.toList_eq] at e
    refine absurd ?_ h
    cases a with
    | mk a =>
      cases b with
      | mk b =>
        have e : a.toList = b.toList := e
        cases a; cases b
        simp at e
        rw [e]
theorem yes_at (S : Nat → Prop) (w : World) (d : Nat) : ValAt S w (d + 1) (yesT d) (.agg #[.int .i64 2, .int .i64 0, .string { data := #[] }, .slice none 0 0, .slice none 0 0]) :=
  bareT_at S w d 2 0 ⟨#[]⟩ ⟨by omega, by omega⟩ ⟨by omega, by omega⟩ (by show (0 : Nat) < _; omega)
theorem zero_at (S : Nat → Prop) (w : World) (d : Nat) : ValAt S w (d + 1) (zeroT d) (.agg #[.int .i64 0, .int .i64 0, .string { data := #[] }, .slice none 0 0, .slice none 0 0]) :=
  bareT_at S w d 0 0 ⟨#[]⟩ ⟨by omega, by omega⟩ ⟨by omega, by omega⟩ (by show (0 : Nat) < _; omega)
/-- A variable that holds a tree. -/
structure VarAt (w W : World) (b : Nat) (c0 c1 : Int) (c2 : ByteArray) (c3 : Option Addr) (c4 c5 : Nat) (c6 : Option Addr) (c7 c8 : Nat) (d : Nat) (t : Tr d) : Prop where
  blk : Blk5 W b 26 (.int .i64 c0) (.int .i64 c1) (.string c2) (.slice c3 c4 c5) (.slice c6 c7 c8)
  val : ValAt (FreshP w W) W d t (.agg #[.int .i64 c0, .int .i64 c1, .string c2, .slice c3 c4 c5, .slice c6 c7 c8])
theorem VarAt.go {w W W' : World} {b : Nat} {c0 c1 : Int} {c2 : ByteArray} {c3 : Option Addr} {c4 c5 : Nat} {c6 : Option Addr} {c7 c8 : Nat} {d : Nat} {t : Tr d} (h : VarAt w W b c0 c1 c2 c3 c4 c5 c6 c7 c8 d t) (hb : Below W.heap.size W W') : VarAt w W' b c0 c1 c2 c3 c4 c5 c6 c7 c8 d t :=
  ⟨h.blk.below hb, freshP_go h.val hb⟩
theorem VarAt.new {w W : World} {c0 c1 : Int} {c2 : ByteArray} {c3 : Option Addr} {c4 c5 : Nat} {c6 : Option Addr} {c7 c8 : Nat} {d : Nat} {t : Tr d} (h : ValAt (FreshP w W) W d t (.agg #[.int .i64 c0, .int .i64 c1, .string c2, .slice c3 c4 c5, .slice c6 c7 c8])) :
    VarAt w (W.alloc (.cells #[.int .i64 c0, .int .i64 c1, .string c2, .slice c3 c4 c5, .slice c6 c7 c8] 26)) W.heap.size c0 c1 c2 c3 c4 c5 c6 c7 c8 d t :=
  ⟨Blk5.new W _ _ _ _ _ _, freshP_go h (below_alloc1 _ _)⟩
theorem VarAt.two {w W : World} {c0 c1 : Int} {c2 : ByteArray} {c3 : Option Addr} {c4 c5 : Nat} {c6 : Option Addr} {c7 c8 : Nat} {d : Nat} {t : Tr d} {q0 q1 : Int} {q2 : ByteArray} {q3 : Option Addr} {q4 q5 : Nat} {q6 : Option Addr} {q7 q8 : Nat} {d' : Nat} {t' : Tr d'}
    (h : ValAt (FreshP w W) W d t (.agg #[.int .i64 c0, .int .i64 c1, .string c2, .slice c3 c4 c5, .slice c6 c7 c8])) (h' : ValAt (FreshP w W) W d' t' (.agg #[.int .i64 q0, .int .i64 q1, .string q2, .slice q3 q4 q5, .slice q6 q7 q8])) :
    VarAt w ((W.alloc (.cells #[.int .i64 c0, .int .i64 c1, .string c2, .slice c3 c4 c5, .slice c6 c7 c8] 26)).alloc (.cells #[.int .i64 q0, .int .i64 q1, .string q2, .slice q3 q4 q5, .slice q6 q7 q8] 26)) W.heap.size c0 c1 c2 c3 c4 c5 c6 c7 c8 d t ∧
    VarAt w ((W.alloc (.cells #[.int .i64 c0, .int .i64 c1, .string c2, .slice c3 c4 c5, .slice c6 c7 c8] 26)).alloc (.cells #[.int .i64 q0, .int .i64 q1, .string q2, .slice q3 q4 q5, .slice q6 q7 q8] 26)) (W.heap.size + 1) q0 q1 q2 q3 q4 q5 q6 q7 q8 d' t' ∧
    Below W.heap.size W ((W.alloc (.cells #[.int .i64 c0, .int .i64 c1, .string c2, .slice c3 c4 c5, .slice c6 c7 c8] 26)).alloc (.cells #[.int .i64 q0, .int .i64 q1, .string q2, .slice q3 q4 q5, .slice q6 q7 q8] 26)) := by
  have h1 := below_alloc1 W (.cells #[.int .i64 c0, .int .i64 c1, .string c2, .slice c3 c4 c5, .slice c6 c7 c8] 26)
  have h2 := VarAt.new (freshP_go h' h1)
  rw [World.size_alloc] at h2
  exact ⟨(VarAt.new h).go (below_alloc1 _ _), h2, below_trans h1 (below_alloc1 _ _)⟩
/-- An answer that is written into a new variable, made ahead of the call or behind it. -/
theorem var_set {w Wc W : World} {b : Nat} {z0 z1 z2 z3 z4 : Value} {c0 c1 : Int} {c2 : ByteArray} {c3 : Option Addr} {c4 c5 : Nat} {c6 : Option Addr} {c7 c8 : Nat} {d : Nat} {t : Tr d} (hz : Blk5 W b 26 z0 z1 z2 z3 z4) (hb : b < Wc.heap.size) (hl : w.heap.size ≤ Wc.heap.size)
    (h : ValAt (FreshP Wc W) W d t (.agg #[.int .i64 c0, .int .i64 c1, .string c2, .slice c3 c4 c5, .slice c6 c7 c8])) :
    VarAt w (set5 W b 0 (.int .i64 c0) (.int .i64 c1) (.string c2) (.slice c3 c4 c5) (.slice c6 c7 c8)) b c0 c1 c2 c3 c4 c5 c6 c7 c8 d t := by
  have hs : ∀ x, x ≠ b → (set5 W b 0 (.int .i64 c0) (.int .i64 c1) (.string c2) (.slice c3 c4 c5) (.slice c6 c7 c8)).heap[x]? = W.heap[x]? := fun x hx => set5_block _ _ _ _ _ _ _ _ _ hx
  refine ⟨blk_set5 hz _ _ _ _ _, ValAt.moved (fun x hx => hs x (by have := hx.1.1; omega)) (fun x hx => ?_) d t _ h⟩
  exact ⟨⟨Nat.le_trans hl hx.1.1, by rw [set5_size]; exact hx.1.2⟩, hx.2.of_block (hs x (by have := hx.1.1; omega))⟩
theorem var_new {w Wc W : World} {c0 c1 : Int} {c2 : ByteArray} {c3 : Option Addr} {c4 c5 : Nat} {c6 : Option Addr} {c7 c8 : Nat} {d : Nat} {t : Tr d} (hl : w.heap.size ≤ Wc.heap.size) (h : ValAt (FreshP Wc W) W d t (.agg #[.int .i64 c0, .int .i64 c1, .string c2, .slice c3 c4 c5, .slice c6 c7 c8])) :
    VarAt w (W.alloc (.cells #[.int .i64 c0, .int .i64 c1, .string c2, .slice c3 c4 c5, .slice c6 c7 c8] 26)) W.heap.size c0 c1 c2 c3 c4 c5 c6 c7 c8 d t := VarAt.new (freshP_wide h hl)
/-- What has come since a world: nothing that was there has turned. -/
structure Since (W0 W : World) : Prop where
  bel : Below W0.heap.size W0 W
theorem Since.go {W0 W W' : World} (h : Since W0 W) (hb : Below W.heap.size W W') : Since W0 W' := ⟨below_trans h.bel hb⟩
theorem Since.start (W : World) : Since W W := ⟨Below.refl _ _⟩
/-- A row of trees that came of a call. -/
structure RowsAt (w W : World) (a : Option Addr) (c d : Nat) (xs : List (Tr d)) : Prop where
  row : RowAt (FreshP w W) W (ValAt (FreshP w W) W d) (.slice a xs.length c) xs
theorem RowsAt.go {w W W' : World} {a : Option Addr} {c d : Nat} {xs : List (Tr d)} (h : RowsAt w W a c d xs) (hb : Below W.heap.size W W') : RowsAt w W' a c d xs := by
  have hs : Same (FreshP w W) W W' := fun b hb' => hb.block b hb'.1.2
  exact ⟨h.row.moved hs (fun b hb' => ⟨⟨hb'.1.1, Nat.lt_of_lt_of_le hb'.1.2 hb.size⟩, hb'.2.of_block (hs b hb')⟩) (fun x u hx => freshP_go hx hb)⟩
/-- The tree at a place of a row, with its cells. -/
theorem row_elem {w W : World} {a : Option Addr} {n c d k : Nat} {xs : List (Tr d)} (h : RowAt (FreshP w W) W (ValAt (FreshP w W) W d) (.slice a n c) xs) (hk : k < xs.length) :
    ∃ (b o : Nat) (x : Tr d) (c0 c1 : Int) (c2 : ByteArray) (c3 : Option Addr) (c4 c5 : Nat) (c6 : Option Addr) (c7 c8 : Nat), a = some ⟨b, o, none⟩ ∧ b < W.heap.size ∧ xs[k]? = some x ∧
      W.cell? ⟨b, o + k * 5, none⟩ = some (.int .i64 c0) ∧ W.cell? ⟨b, o + k * 5 + 1, none⟩ = some (.int .i64 c1) ∧ W.cell? ⟨b, o + k * 5 + 2, none⟩ = some (.string c2) ∧ W.cell? ⟨b, o + k * 5 + 3, none⟩ = some (.slice c3 c4 c5) ∧ W.cell? ⟨b, o + k * 5 + 4, none⟩ = some (.slice c6 c7 c8) ∧
      ValAt (FreshP w W) W d x (.agg #[.int .i64 c0, .int .i64 c1, .string c2, .slice c3 c4 c5, .slice c6 c7 c8]) := by
  obtain ⟨b, o, x, c0, c1, c2, c3, c4, ha, hS, hx, e0, e1, e2, e3, e4, hv⟩ := h.cell hk
  obtain ⟨p0, p1, p2, p3, p4, p5, p6, p7, p8, hp⟩ := hv.shape
  cases hp
  exact ⟨b, o, x, _, _, _, _, _, _, _, _, _, ha, hS.1.2, hx, e0, e1, e2, e3, e4, hv⟩
/-- The key at a place, with its cell. -/
theorem key_elem {w W : World} {a : Option Addr} {n c k : Nat} {ks : List ByteArray} (h : StrsAt (FreshP w W) W (.slice a n c) ks) (hk : k < ks.length) :
    ∃ (b o : Nat) (s : ByteArray), a = some ⟨b, o, none⟩ ∧ b < W.heap.size ∧ ks[k]? = some s ∧ s.size < 281474976710656 ∧ W.cell? ⟨b, o + k, none⟩ = some (.string s) := by
  obtain ⟨b, o, s, ha, hS, hx, hz, hc⟩ := h.cell hk
  exact ⟨b, o, s, ha, hS.1.2, hx, hz, hc⟩
theorem val_parts {w W : World} {d : Nat} {t : Tr (d + 1)} {c0 c1 : Int} {c2 : ByteArray} {c3 : Option Addr} {c4 c5 : Nat} {c6 : Option Addr} {c7 c8 : Nat} (h : ValAt (FreshP w W) W (d + 1) t (.agg #[.int .i64 c0, .int .i64 c1, .string c2, .slice c3 c4 c5, .slice c6 c7 c8])) :
    c0 = Nd.kind t ∧ c1 = Nd.num t ∧ c2 = Nd.str t ∧ c4 = (Nd.keys t).length ∧ c7 = (Nd.list t).length ∧ StrsAt (FreshP w W) W (.slice c3 c4 c5) (Nd.keys t) ∧ RowAt (FreshP w W) W (ValAt (FreshP w W) W d) (.slice c6 c7 c8) (Nd.list t) := by
  obtain ⟨h0, h1, h2, _, _, _, hk, hl⟩ := parts_of h
  obtain ⟨_, _, e1, _⟩ := hk.open'
  obtain ⟨_, _, e2, _⟩ := hl.open'
  cases h0
  cases h1
  cases h2
  cases e1
  cases e2
  exact ⟨rfl, rfl, rfl, rfl, rfl, hk, hl⟩
/-- What stands all along. -/
structure Amid (w W : World) : Prop where
  bel : Below w.heap.size w W
  err : ErrType W
theorem Amid.go {w W W' : World} (h : Amid w W) (hb : Below W.heap.size W W') : Amid w W' := ⟨below_trans h.bel hb, h.err.below hb⟩
theorem Amid.le {w W : World} (h : Amid w W) : w.heap.size ≤ W.heap.size := h.bel.size
end Go.Proofs.YtmibjmipndffmaaGreatDoor

/- The stack of a way, as PathPut of the program goes back along it. -/
namespace Go.Proofs.YtmibjmipndffmaaGreatDoor
open Go.RowKit Go.Deep

theorem passT_len {d : Nat} : ∀ (t : Tr (d + 2)) (ps : List Stp), (passT d t ps).length = ps.length
  | _, [] => rfl
  | t, p :: r => by
    rw [passT, List.length_cons, List.length_cons, passT_len _ r]
/-- Where the steps and the trees of a way lie. -/
theorem WayTo.at {d N : Nat} {w : World} {sv : Value} {t : Tr (d + 2)} {ps : List Stp} {vs : List Value} (h : WayTo (d := d) N w sv (passT d t ps) vs) :
    ∃ aW cW, sv = .slice aW ps.length cW ∧ ps.length ≤ cW ∧ ∀ (j : Nat) (p : Stp), ps[j]? = some p → ∃ (g : Nat) (q0 q1 : Int) (q2 : ByteArray) (q3 : Option Addr) (q4 q5 : Nat) (q6 : Option Addr) (q7 q8 : Nat), aW = some ⟨g, 0, none⟩ ∧ g < w.heap.size ∧
      w.cell? ⟨g, j * 8, none⟩ = some (.int .i64 q0) ∧ w.cell? ⟨g, j * 8 + 1, none⟩ = some (.int .i64 q1) ∧ w.cell? ⟨g, j * 8 + 2, none⟩ = some (.string q2) ∧ w.cell? ⟨g, j * 8 + 3, none⟩ = some (.slice q3 q4 q5) ∧ w.cell? ⟨g, j * 8 + 4, none⟩ = some (.slice q6 q7 q8) ∧
      w.cell? ⟨g, j * 8 + 5, none⟩ = some (.bool p.map) ∧ w.cell? ⟨g, j * 8 + 6, none⟩ = some (.string p.key) ∧ w.cell? ⟨g, j * 8 + 7, none⟩ = some (.int .i64 p.place) ∧
      ValAt (fun b => b < w.heap.size) w (d + 2) (afterT d t ps j) (.agg #[.int .i64 q0, .int .i64 q1, .string q2, .slice q3 q4 q5, .slice q6 q7 q8]) ∧ StpFit p := by
  obtain ⟨hown, hval⟩ := h
  rw [passT_len] at hown
  have hown2 := hown
  rcases hown.2 with ⟨rfl, h0⟩ | ⟨g, cap, cur, rfl, hg, hh, hn, _⟩
  · refine ⟨none, 0, by rw [h0], by omega, fun j p hp => ?_⟩
    have := (List.getElem?_eq_some_iff.1 hp).1
    omega
  · refine ⟨some ⟨g, 0, none⟩, cap, rfl, hn, fun j p hp => ?_⟩
    have hj := (List.getElem?_eq_some_iff.1 hp).1
    obtain ⟨q0, q1, q2, q3, q4, q5, q6, q7, q8, e0, e1, e2, e3, e4, e5, e6, e7, hv, hf⟩ := hval j _ (passT_at t ps j p hp)
    have hc : ∀ k u, k < ps.length * 8 → vs[k]? = some u → w.cell? ⟨g, k, none⟩ = some u := fun k u hk hu => (hown2.cellAt k hk).trans hu
    exact ⟨g, q0, q1, q2, q3, q4, q5, q6, q7, q8, rfl, (Array.getElem?_eq_some_iff.1 hh).1, hc _ _ (by omega) e0, hc _ _ (by omega) e1, hc _ _ (by omega) e2, hc _ _ (by omega) e3, hc _ _ (by omega) e4, hc _ _ (by omega) e5, hc _ _ (by omega) e6, hc _ _ (by omega) e7, hv.mono (fun b hb => hb.2.1), hf⟩
/-- The length of a slice. -/
def sliceLen : Value → Nat
  | .slice _ n _ => n
  | _ => 0
end Go.Proofs.YtmibjmipndffmaaGreatDoor

/- PathPut of the program. -/
namespace Go.Proofs.YtmibjmipndffmaaGreatDoor
open Go.RowKit Go.Deep

/-- What is put, as the loop goes back: a variable, and its tree in new memory beside it. -/
structure PutAt (w : World) (N b : Nat) (W : World) (c0 c1 : Int) (c2 : ByteArray) (c3 : Option Addr) (c4 c5 : Nat) (c6 : Option Addr) (c7 c8 : Nat) {D : Nat} (Y : Tr (D + 1)) : Prop where
  blk : Blk5 W b 26 (.int .i64 c0) (.int .i64 c1) (.string c2) (.slice c3 c4 c5) (.slice c6 c7 c8)
  val : ValOwn W (D + 1) (fun x => N ≤ x ∧ x < W.heap.size ∧ x ≠ b) Y (.agg #[.int .i64 c0, .int .i64 c1, .string c2, .slice c3 c4 c5, .slice c6 c7 c8])
  bel : Below w.heap.size w W
  lob : w.heap.size ≤ b
theorem zero_own {w : World} {d e : Nat} {S : Nat → Prop} {v : Value} (h : ValOwn w (d + 1) S (zeroT d) v) : ValOwn w (e + 1) S (zeroT e) v := by
  obtain ⟨vk, vl, S1, S2, rfl, h1, h2, h3, hk, hl, hr⟩ := h
  obtain ⟨h4, a, c, rfl, _⟩ := hl
  exact ⟨vk, _, S1, S2, rfl, h1, h2, h3, hk, ⟨h4, a, c, rfl, Or.inl rfl⟩, hr⟩
/-- One round back. -/
theorem put_round {d : Nat} {x t : Tr (d + 2)} {ps : List Stp} {r m : Nat} {p : Stp} {Y : Tr (d + m + 2)} (hp : ps[r]? = some p) (hway : okT (d + 2) t = true ∧ pathOk ps = true ∧ (alongT d t ps).2 = true) (hx : okT (d + 2) x = true) (hmr : m + (r + 1) = ps.length) (h : putT d x m (afterT d t ps (r + 1)) (ps.drop (r + 1)) = (Y, true)) :
    ((backT (d + m + 1) (up2 d (m + 1) (afterT d t ps r)) p Y).2 = true → okT (d + 2) x = true ∧ putT d x (m + 1) (afterT d t ps r) (ps.drop r) = ((backT (d + m + 1) (up2 d (m + 1) (afterT d t ps r)) p Y).1, true)) ∧
    ((backT (d + m + 1) (up2 d (m + 1) (afterT d t ps r)) p Y).2 = false → (backT (d + m + 1) (up2 d (m + 1) (afterT d t ps r)) p Y).1 = zeroT (d + (m + 1) + 1) ∧ pathPutT d t ps x = (zeroT (d + ps.length + 1), false)) := by
  have h2 := putT_round hp hway.2.2 (by rw [h])
  rw [h] at h2
  dsimp only at h2
  refine ⟨fun hb => ⟨hx, ?_⟩, fun hb => ⟨back_off hb, ?_⟩⟩
  · rw [h2]
    exact Prod.ext rfl hb
  · rw [put_end hway.1 hway.2.1 hx]
    have hf := put_fail (t := t) (x := x) (ps := ps) r (m + 1) (by omega) (by rw [h2]; exact hb)
    exact Prod.ext (putT_no _ _ _ hf) hf
set_option maxRecDepth 100000 in
set_option maxHeartbeats 8000000 in
theorem implPathPut_any (d : Nat) (S : Nat → Prop) (t : Tr (d + 2)) (v : Value) (S' : Nat → Prop) (ps : List Stp) (v' : Value) (S3 : Nat → Prop) (x : Tr (d + 2)) (xv : Value) (w : World) (hv : ValAt S w (d + 2) t v) (hS : Within S w) (hv' : StepsAt S' w v' ps) (hS' : Within S' w) (hx : ValAt S3 w (d + 2) x xv) (hS3 : Within S3 w) (hg : ErrType w) :
    Calls Tryz.prog 10 #[v, v', xv] w (TellQ (d + ps.length + 1) (pathPutT d t ps x).1 (pathPutT d t ps x).2 w) := by
  obtain ⟨q0, q1, q2, q3, q4, q5, q6, q7, q8, rfl⟩ := hv.shape
  obtain ⟨c0, c1, c2, c3, c4, c5, c6, c7, c8, rfl⟩ := hx.shape
  obtain ⟨a, cap, rfl, hlen⟩ := hv'.open'
  obtain ⟨W0, hW⟩ : ∃ W0, W0 = (((w.alloc (.cells #[.int .i64 q0, .int .i64 q1, .string q2, .slice q3 q4 q5, .slice q6 q7 q8] 26)).alloc (.cells #[.int .i64 c0, .int .i64 c1, .string c2, .slice c3 c4 c5, .slice c6 c7 c8] 26)).alloc (.cells #[.int .i64 0, .int .i64 0, .string { data := #[] }, .slice none 0 0, .slice none 0 0] 26)) := ⟨_, rfl⟩
  have hW0 : Below w.heap.size w W0 := by rw [hW]; exact below_trans (below_trans (below_alloc1 _ _) (below_alloc1 _ _)) (below_alloc1 _ _)
  have k1 : Blk5 W0 (w.heap.size + 1) 26 (.int .i64 c0) (.int .i64 c1) (.string c2) (.slice c3 c4 c5) (.slice c6 c7 c8) := by
    have := Blk5.new (w.alloc (.cells #[.int .i64 q0, .int .i64 q1, .string q2, .slice q3 q4 q5, .slice q6 q7 q8] 26)) 26 (.int .i64 c0) (.int .i64 c1) (.string c2) (.slice c3 c4 c5) (.slice c6 c7 c8)
    rw [World.size_alloc] at this
    rw [hW]
    exact this.alloc _
  have k2 : Blk5 W0 (w.heap.size + 1 + 1) 26 (.int .i64 0) (.int .i64 0) (.string { data := #[] }) (.slice none 0 0) (.slice none 0 0) := by
    have := Blk5.new ((w.alloc (.cells #[.int .i64 q0, .int .i64 q1, .string q2, .slice q3 q4 q5, .slice q6 q7 q8] 26)).alloc (.cells #[.int .i64 c0, .int .i64 c1, .string c2, .slice c3 c4 c5, .slice c6 c7 c8] 26)) 26 (.int .i64 0) (.int .i64 0) (.string { data := #[] }) (.slice none 0 0) (.slice none 0 0)
    rw [World.size_alloc, World.size_alloc] at this
    rw [hW]
    exact this
  have hlt := k2.lt
  have HW := hide hW
  clear hW
  go_enter Tryz.func10, Tryz.ntmps10
  go_wp2_with fail
  rw [← HW.out]
  clear HW
  refine Calls.mono (along_any d S t _ S' ps _ W0 (hv.same (hS.same hW0)) (hS.later hW0.size) (hv'.same (hS'.same hW0)) (hS'.later hW0.size) (hg.below hW0)) ?_
  rintro e w1 ⟨sv, u, xs, vs, rfl, hu, hb1, hway, hxs⟩
  replace k1 := k1.below hb1
  replace k2 := k2.below hb1
  have hB1 := below_trans hW0 hb1
  have hs1 := hb1.size
  obtain ⟨g0, g1, g2, g3, g4, g5, g6, g7, g8, rfl⟩ := (ValOwn.at _ _ _ _ hu).shape
  have hA := below_alloc1 w1 (.cells #[.int .i64 g0, .int .i64 g1, .string g2, .slice g3 g4 g5, .slice g6 g7 g8] 26)
  replace k1 := k1.alloc (.cells #[.int .i64 g0, .int .i64 g1, .string g2, .slice g3 g4 g5, .slice g6 g7 g8] 26)
  replace k2 := k2.alloc (.cells #[.int .i64 g0, .int .i64 g1, .string g2, .slice g3 g4 g5, .slice g6 g7 g8] 26)
  replace hB1 := below_trans hB1 hA
  clear hb1 hu hW0 hv hv'
  cases hgo : (pathGetT d t ps).2 with
  | false =>
    have hz := hide (put_no_way (x := x) hgo)
    have hN : Hid (∀ wF, wF = set5 (w1.alloc (.cells #[.int .i64 g0, .int .i64 g1, .string g2, .slice g3 g4 g5, .slice g6 g7 g8] 26)) (w.heap.size + 1 + 1) 0 (.int .i64 0) (.int .i64 0) (.string { data := #[] }) (.slice none 0 0) (.slice none 0 0) → Below w.heap.size w wF) := by
      intro wF hF
      rw [hF]
      exact below_set5 hB1 (by omega) _ _ _ _ _ _
    obtain ⟨y0, y1, y2, y3, y4⟩ := k2.cell
    have yf := k2.frozen
    clear k1 k2 hway hxs hx hB1 hA
    go_wp2_with fail
    rw [hz.out]
    exact bodyPost_ret (v := .tuple #[zeroVal, .bool false]) (by simp [results, Tryz.results10, go_sem, zeroVal, y0, y1, y2, y3, y4]; rfl) rfl ⟨_, rfl, zeroVal_own (d + ps.length + 1) _ _, hN.out _ rfl⟩
  | true =>
    obtain ⟨W1, HW1⟩ : ∃ W1, Hid (w1.alloc (.cells #[.int .i64 g0, .int .i64 g1, .string g2, .slice g3 g4 g5, .slice g6 g7 g8] 26) = W1) := ⟨_, rfl⟩
    rw [HW1.out] at hB1 k1 k2 hA
    replace hway := hway.later (fun c _ hc => hA.block c hc) hA.size
    have HWAY := hide (And.intro (put_way hgo) (And.intro (hxs hgo) hway))
    have HX := hide (hx.same (hS3.same hB1))
    have HG := hide (hg.below hB1)
    have HB1 := hide hB1
    have K2 := hide k2
    have hS1 : Within S3 W1 := hS3.later hB1.size
    have hs1W := hA.size
    rw [← HW1.out] at k1
    obtain ⟨x0, x1, x2, x3, x4⟩ := k1.cell
    clear hxs hway hx k2 hB1 hA
    go_wp2_with fail
    rw [HW1.out]
    refine (given_any (d + 2) S3 x _ W1 HX.out hS1).mono ?_
    rintro e w2 ⟨hb2, hq⟩
    -- told: one answer for both ways
    have htold : ∃ uv : Value × Value, e = .returned (.tuple #[uv.1, uv.2]) ∧ Hid (Calls Tryz.prog 44 #[uv.1, uv.2] w2 (TellQ (d + 1) (if okT (d + 2) x = true then x else zeroT (d + 1)) (okT (d + 2) x) w2)) := by
      rcases hq with ⟨hokx, u2, rfl, hu2⟩ | ⟨hnox, why, rfl⟩
      · have h := told_tree (d + 1) _ x u2 w2 hu2 (fun b hb => hb.2)
        rw [told_given' hokx] at h
        rw [if_pos hokx]
        exact ⟨(u2, .nilIface), rfl, h⟩
      · rw [if_neg (by rw [hnox]; simp), hnox]
        exact ⟨(.nilIface, faultV why), rfl, told_fault (d + 1) _ why w2 (HG.out.below hb2)⟩
    obtain ⟨⟨u1, u2⟩, rfl, HT⟩ := htold
    have HB2 := hide (HB1.out.trans (hb2.mono (by omega)))
    have K22 := hide (K2.out.below hb2)
    have hs2 := hb2.size
    clear hq HB1 HX K2 x0 x1 x2 x3 x4 k1
    go_wp2_with fail
    refine HT.out.mono ?_
    intro e w3 hq3
    obtain ⟨u3, rfl, hu3, hb3⟩ := hq3
    obtain ⟨v0, v1, v2, v3, v4, v5, v6, v7, v8, rfl⟩ := (ValOwn.at _ _ _ _ hu3).shape
    have hs3 := hb3.size
    have hA3 := below_alloc1 w3 (.cells #[.int .i64 v0, .int .i64 v1, .string v2, .slice v3 v4 v5, .slice v6 v7 v8] 26)
    obtain ⟨W3, HW3⟩ : ∃ W3, Hid (w3.alloc (.cells #[.int .i64 v0, .int .i64 v1, .string v2, .slice v3 v4 v5, .slice v6 v7 v8] 26) = W3) := ⟨_, rfl⟩
    have kv : Blk5 W3 w3.heap.size 26 (.int .i64 v0) (.int .i64 v1) (.string v2) (.slice v3 v4 v5) (.slice v6 v7 v8) := by rw [← HW3.out]; exact Blk5.new _ _ _ _ _ _ _
    rw [HW3.out] at hA3
    have hst : Hid (PutAt w2 w2.heap.size w3.heap.size W3 v0 v1 v2 v3 v4 v5 v6 v7 v8 (if okT (d + 2) x = true then x else zeroT (d + 1) : Tr (d + 0 + 2))) := ⟨kv, hu3.moved (d + 1 + 1) _ _ _ _ ((Fresh.within w2 w3).same hA3) (fun b hb => ⟨hb.1, by have := hb.2; have := hA3.size; omega, by have := hb.2; omega⟩), below_trans hb3 hA3, hs3⟩
    have hno0 : Hid (okT (d + 2) x = false → (if okT (d + 2) x = true then x else zeroT (d + 1) : Tr (d + 0 + 2)) = zeroT (d + 0 + 1) ∧ pathPutT d t ps x = (zeroT (d + ps.length + 1), false)) := fun h => ⟨if_neg (by rw [h]; simp), put_bad h⟩
    have hyes0 : Hid (okT (d + 2) x = true → okT (d + 2) x = true ∧ putT d x 0 (afterT d t ps ps.length) (ps.drop ps.length) = ((if okT (d + 2) x = true then x else zeroT (d + 1) : Tr (d + 0 + 2)), true)) := fun h => ⟨h, by rw [if_pos h]; rfl⟩
    have hway2 := HWAY.out.2.2
    rw [HWAY.out.2.1] at hway2
    obtain ⟨aW, cW, rfl, hcW, hat⟩ := WayTo.at hway2
    have HAT := hide hat
    have HWN := hide HWAY.out.1
    have hs23 : w2.heap.size ≤ w3.heap.size := hs3
    have hl2 : w.heap.size + 1 + 1 < w2.heap.size := K22.out.lt
    clear hat hway2 HWAY hu3 hb3 kv hA3 HT
    go_wp2_with fail
    rw [HW3.out]
    go_loopw [8, 10] (fun sl okv wr => ∃ (m r : Nat) (Y : Tr (d + m + 2)) (okb : Bool) (c0 c1 : Int) (c2 : ByteArray) (c3 : Option Addr) (c4 c5 : Nat) (c6 : Option Addr) (c7 c8 : Nat), sl = .slice aW r cW ∧ okv = .bool okb ∧ Hid (m + r = ps.length) ∧ Hid (okb = true → okT (d + 2) x = true ∧ putT d x m (afterT d t ps r) (ps.drop r) = (Y, true)) ∧ Hid (okb = false → Y = zeroT (d + m + 1) ∧ pathPutT d t ps x = (zeroT (d + ps.length + 1), false)) ∧ Hid (PutAt w2 w2.heap.size w3.heap.size wr c0 c1 c2 c3 c4 c5 c6 c7 c8 Y)) (fun sl _ _ => sliceLen sl)
    case atStart => exact ⟨0, ps.length, _, _, _, _, _, _, _, _, _, _, _, rfl, rfl, hide (Nat.zero_add _), hyes0, hno0, hst⟩
    case round =>
      clear hst hno0 hyes0 HW3
      obtain ⟨m, r, Y, okb, c0, c1, c2, c3, c4, c5, c6, c7, c8, rfl, rfl, hmr, hyes, hno, HO⟩ := hrel
      cases okb with
      | false =>
          have hz := hide (hno.out rfl).2
          have HVF : Hid (ValOwn wr (d + ps.length + 1 + 1) (Fresh w2 wr) (zeroT (d + ps.length + 1)) (.agg #[.int .i64 c0, .int .i64 c1, .string c2, .slice c3 c4 c5, .slice c6 c7 c8])) := by
            have h := HO.out.val
            rw [(hno.out rfl).1] at h
            exact zero_own (h.mono (fun b hb => ⟨hb.1, hb.2.1⟩))
          have HB := hide (HB2.out.trans (HO.out.bel.mono (by omega)))
          have HF := hide (tell_end (rb := w.heap.size + 1 + 1) HVF.out HB.out (by omega) hl2)
          obtain ⟨z0, z1, z2, z3, z4⟩ := HO.out.blk.cell
          obtain ⟨y0, y1, y2, y3, y4⟩ := (K22.out.below HO.out.bel).cell
          have yf := (K22.out.below HO.out.bel).frozen
          have hne : ¬ w3.heap.size = w.heap.size + 1 + 1 := by omega
          clear HO HVF HAT hyes hno hmr hb2
          go_wp2_with fail
          rw [hz.out]
          exact bodyPost_ret (v := .tuple #[.agg #[.int .i64 c0, .int .i64 c1, .string c2, .slice c3 c4 c5, .slice c6 c7 c8], .bool false]) (by simp [results, Tryz.results10, go_sem, y0, y1, y2, y3, y4]) rfl ⟨_, rfl, (HF.out _ rfl).1, (HF.out _ rfl).2⟩
      | true =>
        cases r with
        | zero =>
          obtain rfl : m = ps.length := by have := hmr.out; omega
          have hz : Hid (pathPutT d t ps x = (Y, true)) := by
            show _ = _
            rw [put_end HWN.out.1 HWN.out.2.1 (hyes.out rfl).1]
            have h := (hyes.out rfl).2
            have h0 : afterT d t ps 0 = t := by cases ps <;> rfl
            rw [h0, List.drop_zero] at h
            exact h
          have HVF : Hid (ValOwn wr (d + ps.length + 1 + 1) (Fresh w2 wr) Y (.agg #[.int .i64 c0, .int .i64 c1, .string c2, .slice c3 c4 c5, .slice c6 c7 c8])) := HO.out.val.mono (fun b hb => ⟨hb.1, hb.2.1⟩)
          have HB := hide (HB2.out.trans (HO.out.bel.mono (by omega)))
          have HF := hide (tell_end (rb := w.heap.size + 1 + 1) HVF.out HB.out (by omega) hl2)
          obtain ⟨z0, z1, z2, z3, z4⟩ := HO.out.blk.cell
          obtain ⟨y0, y1, y2, y3, y4⟩ := (K22.out.below HO.out.bel).cell
          have yf := (K22.out.below HO.out.bel).frozen
          have hne : ¬ w3.heap.size = w.heap.size + 1 + 1 := by omega
          clear HO HVF HAT hyes hno hmr hb2
          go_wp2_with fail
          rw [hz.out]
          exact bodyPost_ret (v := .tuple #[.agg #[.int .i64 c0, .int .i64 c1, .string c2, .slice c3 c4 c5, .slice c6 c7 c8], .bool true]) (by simp [results, Tryz.results10, go_sem, y0, y1, y2, y3, y4]) rfl ⟨_, rfl, (HF.out _ rfl).1, (HF.out _ rfl).2⟩
        | succ r =>
          obtain ⟨p, hp⟩ : ∃ p, ps[r]? = some p := ⟨_, List.getElem?_eq_getElem (by have := hmr.out; omega)⟩
          obtain ⟨gb, s0, s1, s2, s3, s4, s5, s6, s7, s8, haW, hgl, e0, e1, e2, e3, e4, e5, e6, e7, hvW, hfit⟩ := HAT.out r p hp
          have hrc : r + 1 ≤ cW := by have := hmr.out; omega
          have HRD := hide (put_round hp HWN.out (hyes.out rfl).1 hmr.out (hyes.out rfl).2)
          have hWr : Below W1.heap.size W1 wr := hb2.trans (HO.out.bel.mono hs2)
          have hbig : r + 1 ≤ 100000000000000 := by have := hmr.out; omega
          subst haW
          replace e0 := (hWr.cell (p := ⟨gb, r * 8, none⟩) hgl).trans e0
          replace e1 := (hWr.cell (p := ⟨gb, r * 8 + 1, none⟩) hgl).trans e1
          replace e2 := (hWr.cell (p := ⟨gb, r * 8 + 2, none⟩) hgl).trans e2
          replace e3 := (hWr.cell (p := ⟨gb, r * 8 + 3, none⟩) hgl).trans e3
          replace e4 := (hWr.cell (p := ⟨gb, r * 8 + 4, none⟩) hgl).trans e4
          replace e5 := (hWr.cell (p := ⟨gb, r * 8 + 5, none⟩) hgl).trans e5
          replace e6 := (hWr.cell (p := ⟨gb, r * 8 + 6, none⟩) hgl).trans e6
          replace e7 := (hWr.cell (p := ⟨gb, r * 8 + 7, none⟩) hgl).trans e7
          obtain ⟨W4, HW4⟩ : ∃ W4, Hid (wr.alloc (.cells #[.int .i64 s0, .int .i64 s1, .string s2, .slice s3 s4 s5, .slice s6 s7 s8, .bool p.map, .string p.key, .int .i64 p.place] 76) = W4) := ⟨_, rfl⟩
          have hA4 : Below wr.heap.size wr W4 := by rw [← HW4.out]; exact below_alloc1 _ _
          have hf4 : W4.heap[wr.heap.size]? = some (.cells #[.int .i64 s0, .int .i64 s1, .string s2, .slice s3 s4 s5, .slice s6 s7 s8, .bool p.map, .string p.key, .int .i64 p.place] 76 (0, 0)) := by rw [← HW4.out]; exact heap_alloc_new _ _
          have HVW := hide ((ValAt.up2 hvW (m + 1)).same (fun b hb => (below_trans hWr (hA4.mono (Nat.le_of_eq rfl))).block b hb) : ValAt (fun b => b < W1.heap.size) W4 (d + (m + 1) + 2) (up2 d (m + 1) (afterT d t ps r)) _)
          have HFIT := hide hfit
          have HP := hide HO.out
          have hs4 := hA4.size
          have hsr : w3.heap.size < wr.heap.size := HO.out.blk.lt
          clear hvW hfit hp HO hyes hno HAT
          go_upto_region 8 with fail
          rw [HW4.out]
          clear HW4 e0 e1 e2 e3 e4 e5 e6 e7
          have kp4 := HP.out.blk.below hA4
          obtain ⟨f0, f1, f2, f3, f4, f5, f6, f7⟩ := cells8 hf4
          obtain ⟨z0, z1, z2, z3, z4⟩ := kp4.cell
          have hB4 : Below w2.heap.size w2 W4 := below_trans HP.out.bel hA4
          have hgW : ErrType W4 := (HG.out.below hb2).below hB4
          have hYv : ValAt (fun b => b < wr.heap.size) W4 (d + m + 1 + 1) Y (.agg #[.int .i64 c0, .int .i64 c1, .string c2, .slice c3 c4 c5, .slice c6 c7 c8]) := (ValOwn.at _ _ _ _ HP.out.val).mono (fun b hb => hb.2.1) |>.same (fun b hb => hA4.block b hb)
          have hcall := hide (put_any (d + m + 1) (fun b => b < W1.heap.size) (up2 d (m + 1) (afterT d t ps r)) p s0 s1 s2 s3 s4 s5 s6 s7 s8 (fun b => b < wr.heap.size) Y _ W4 HVW.out (fun b hb => by have := hb; omega) HFIT.out hYv (fun b hb => by have := hb; omega) hgW)
          have KP4 := hide kp4
          have HB4 := hide hB4
          clear kp4 hB4 hgW hYv hf4 hWr
          go_wp2_with fail
          refine Calls.mono hcall.out ?_
          rintro e w5 ⟨u5, rfl, hu5, hb5⟩
          obtain ⟨n0, n1, n2, n3, n4, n5, n6, n7, n8, rfl⟩ := (ValOwn.at _ _ _ _ hu5).shape
          have kp5 := KP4.out.below hb5
          have hlo := HP.out.lob
          have hs5 := hb5.size
          have HN : Hid (∀ wF, wF = set5 w5 w3.heap.size 0 (.int .i64 n0) (.int .i64 n1) (.string n2) (.slice n3 n4 n5) (.slice n6 n7 n8) → PutAt w2 w2.heap.size w3.heap.size wF n0 n1 n2 n3 n4 n5 n6 n7 n8 (backT (d + m + 1) (up2 d (m + 1) (afterT d t ps r)) p Y).1) := by
            intro wF hF
            have hzF : wF.heap.size = w5.heap.size := by rw [hF, set5_size]
            refine ⟨by rw [hF]; exact blk_set5' kp5 _ _ _ _ _, hu5.moved _ _ _ _ _ (fun b hb => ?_) (fun b hb => ⟨by have := hb.1; omega, by have := hb.2; omega, by have := hb.1; omega⟩), by rw [hF]; exact below_set5 (below_trans HB4.out hb5) hlo _ _ _ _ _ _, hlo⟩
            rw [hF, set5_block _ _ _ _ _ _ _ _ _ (by have := hb.1; omega)]
          obtain ⟨x0, x1, x2, x3, x4⟩ := kp5.cell
          have xf := kp5.frozen
          have HMR : Hid (m + 1 + r = ps.length) := by show _ = _; have := hmr.out; omega
          clear kp5 hu5 hb5 hcall HP KP4 HB4 HVW HFIT hmr f0 f1 f2 f3 f4 f5 f6 f7 z0 z1 z2 z3 z4 hb2
          go_wp2_with fail
          go_roundw
          case rel => exact ⟨m + 1, r, _, _, n0, n1, n2, n3, n4, n5, n6, n7, n8, rfl, rfl, HMR, hide HRD.out.1, hide HRD.out.2, hide (HN.out _ rfl)⟩
          case measure => simp [sliceLen]
end Go.Proofs.YtmibjmipndffmaaGreatDoor

/- A tree that lies in memory, as one that may be as deep as one likes. -/
namespace Go.Proofs.YtmibjmipndffmaaGreatDoor

theorem deepTo {S : Nat → Prop} {w : World} {v : Value} {N : Nat} {t : Tr N} (h : ValAt S w N t v) (M : Nat) (hM : N ≤ M) : ∃ t' : Tr M, ValAt S w M t' v := by
  induction hM with
  | refl => exact ⟨t, h⟩
  | step _ ih =>
    obtain ⟨t', h'⟩ := ih
    exact ⟨up _ t', ValAt.up _ _ _ h'⟩
end Go.Proofs.YtmibjmipndffmaaGreatDoor

/- Steps that came in, read as data, lie in memory as steps. -/
namespace Go.Proofs.YtmibjmipndffmaaGreatDoor
open Go.RowKit Go.Deep

section
variable {H : Type} {enc : TypeId × Value → H} {W : World}

theorem cells3 {a : Addr} {cs : List Value} (h : W.cells? 0 a 3 = some cs) : ∃ c0 c1 c2, cs = [c0, c1, c2] ∧ W.cell? (a.add 0) = some c0 ∧ W.cell? (a.add 1) = some c1 ∧ W.cell? (a.add 2) = some c2 := by
  unfold World.cells? at h
  rw [if_pos (Nat.zero_le _)] at h
  simp only [show List.range 3 = [0, 1, 2] from rfl, List.mapM_cons, List.mapM_nil, Option.pure_def, Option.bind_eq_bind, Option.bind_eq_some_iff, Option.some.injEq] at h
  obtain ⟨c0, h0, r0, ⟨c1, h1, r1, ⟨c2, h2, r2, e3, e2⟩, e1⟩, e0⟩ := h
  subst e3 e2 e1 e0
  exact ⟨c0, c1, c2, rfl, h0, h1, h2⟩

set_option maxRecDepth 100000 in
theorem read_step {fuel : Nat} {cs : List Value} {x : DataW H × List MemPlace} (h : DataW.trod enc Tryz.prog W 0 (fun _ => true) true fuel 105 cs = some x) (hz : Fits 105 x.1) :
    ∃ p : Stp, StpFit p ∧ cs = [.bool p.map, .string p.key, .int .i64 p.place] := by
  obtain ⟨xs, n, hn, rfl, hl, hlen, hf⟩ := DataW.trod_struct Tryz.underlying105 h
  have hcs : Tryz.prog.cellsOf 105 = 3 := by kernel_rfl
  have c4 : Tryz.prog.cellsOf 4 = 1 := by kernel_rfl
  have c9 : Tryz.prog.cellsOf 9 = 1 := by kernel_rfl
  have c3 : Tryz.prog.cellsOf 3 = 1 := by kernel_rfl
  rw [hcs] at hl
  match cs, hl with
  | [v0, v1, v2], _ =>
    match xs, hlen with
    | [y0, y1, y2], _ =>
      have f0 := hf 0 _ rfl
      have f1 := hf 1 _ rfl
      have f2 := hf 2 _ rfl
      simp [c3, c9, c4] at f0 f1 f2
      have z1 := agg_weight Tryz.underlying105 hz (i := 1) rfl rfl
      obtain ⟨b, e0, _⟩ := DataW.trod_bool Tryz.underlying4 f0
      obtain ⟨s, e1, e1', _⟩ := DataW.trod_string Tryz.underlying9 f1
      obtain ⟨k, e2, _, w2⟩ := DataW.trod_int Tryz.underlying3 f2
      cases e0
      cases e1
      cases e2
      refine ⟨⟨b, s, k⟩, ⟨?_, wf_i64 w2⟩, rfl⟩
      subst e1'
      have := z1 s.size (by simp [DataW.weights])
      unfold reachBytes at this
      show s.size < _
      omega

set_option maxRecDepth 100000 in
theorem read_steps {fuel : Nat} {cs : List Value} {x : DataW H × List MemPlace} (h : DataW.trod enc Tryz.prog W 0 (fun _ => true) true fuel 52 cs = some x) (hz : Fits 52 x.1) :
    ∃ v ps, cs = [v] ∧ StepsAt (fun b => b < W.heap.size) W v ps := by
  have hcs : Tryz.prog.cellsOf 105 = 3 := by kernel_rfl
  have hby : Tryz.prog.bytesOf 105 = 32 := by kernel_rfl
  rcases DataW.trod_slice Tryz.underlying52 h with ⟨e4, _⟩ | ⟨a, len, cap, elems, rest, q, hq, e4, e4', _, hlc, _, hel, hels, hsp, _⟩
  · cases e4
    exact ⟨_, [], rfl, by simp, by simp, none, 0, rfl, Or.inl rfl⟩
  · cases e4
    subst e4'
    obtain ⟨hrl, _⟩ := hsp rfl
    have hw : ∀ n ∈ ((elems.map (·.1)).length + (rest.map (·.1)).length) * 32 :: (DataW.weightsAll Tryz.prog 105 (elems.map (·.1)) ++ DataW.weightsAll Tryz.prog 105 (rest.map (·.1))), n ≤ reachBytes := by
      intro n hn
      have z4' : Fits 52 (DataW.slice (elems.map (·.1)) (rest.map (·.1))) := hz
      refine z4' n ?_
      simp only [DataW.weights, Tryz.underlying52, hby]
      exact hn
    have hwl := hw _ (List.mem_cons_self ..)
    simp only [List.length_map] at hwl
    unfold reachBytes at hwl
    rw [hcs] at hels
    have each : ∀ i, i < len → ∃ p : Stp, StpFit p ∧ W.cell? ((a.add (i * 3)).add 0) = some (.bool p.map) ∧ W.cell? ((a.add (i * 3)).add 1) = some (.string p.key) ∧ W.cell? ((a.add (i * 3)).add 2) = some (.int .i64 p.place) := by
      intro i hi
      have h1 := hels i hi
      rw [List.getElem?_eq_getElem (by omega)] at h1
      obtain ⟨cs', h2, h3⟩ := Option.bind_eq_some_iff.1 h1
      obtain ⟨c0, c1, c2, rfl, g0, g1, g2⟩ := cells3 h2
      obtain ⟨p, hp, hc⟩ := read_step h3 (fun n hn => hw n (List.mem_cons_of_mem _ (List.mem_append_left _ (each_weight (List.mem_map.2 ⟨_, List.getElem_mem (by omega), rfl⟩) n hn))))
      cases hc
      exact ⟨p, hp, g0, g1, g2⟩
    obtain ⟨ps, htl, hts⟩ := choose_list len each
    refine ⟨_, ps, rfl, by omega, fun p hp => ?_, some a, cap, by rw [htl], ?_⟩
    · obtain ⟨i, hi⟩ := List.getElem?_of_mem hp
      exact (hts i p hi).1
    · by_cases h0 : len = 0
      · exact Or.inl (List.eq_nil_of_length_eq_zero (by omega))
      · obtain ⟨_, _, g0, _⟩ := each 0 (by omega)
        have hsp := cell_spot g0
        have e : ((a.add (0 * 3)).add 0) = a := by simp [Addr.add]
        rw [e] at hsp
        refine Or.inr ⟨a.block, a.off, hsp.2, ?_, fun i x hi => ?_⟩
        · obtain ⟨b, o, sp⟩ := a
          have := hsp.1
          simp only at this
          subst this
          rfl
        · obtain ⟨_, g0, g1, g2⟩ := hts i x hi
          rw [addr_add hsp.1, addr_add rfl] at g0 g1 g2
          exact ⟨g0, g1, g2⟩

/-- An argument that is steps. -/
theorem read_steps_arg {v : Value} {d : DataW H} {p : List MemPlace} (hs : ∃ a n c, v = .slice a n c) (h : DataW.Trod enc Tryz.prog W 0 (fun _ => true) true 52 v d p) (hz : Fits 52 d) :
    ∃ ps, StepsAt (fun b => b < W.heap.size) W v ps := by
  obtain ⟨a, n, c, rfl⟩ := hs
  obtain ⟨fuel, hf⟩ := h
  obtain ⟨v, ps, hv, hps⟩ := read_steps hf hz
  cases hv
  exact ⟨ps, hps⟩
end
end Go.Proofs.YtmibjmipndffmaaGreatDoor
