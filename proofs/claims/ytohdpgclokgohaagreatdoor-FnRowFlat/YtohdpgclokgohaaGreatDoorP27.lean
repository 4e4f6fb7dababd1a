/- Texts of the proof, put together by program: WGetM, WGetS, WGetSo, WAtM, WAtS, WAtSo, WLen, WLenN, WLenS, WLenSo, WKeyP, WKeyS, WKeySo, WEachS, WEachSo, WGet, WKeyI, WEachI, WTold2, LPartC. -/
import Derived.Test.YtohdpgclokgohaaGreatDoorP21
import Derived.Test.YtohdpgclokgohaaGreatDoorP9
import Derived.Test.YtohdpgclokgohaaGreatDoorP14
import Derived.Test.YtohdpgclokgohaaGreatDoorP13
import Derived.Test.YtohdpgclokgohaaGreatDoorP7
import Derived.Test.YtohdpgclokgohaaGreatDoorP8
import Derived.Test.YtohdpgclokgohaaGreatDoorP12
import Derived.Test.YtohdpgclokgohaaGreatDoorP20
import Derived.Test.YtohdpgclokgohaaGreatDoorP22
import Derived.Test.YtohdpgclokgohaaGreatDoorP24
import Derived.Test.YtohdpgclokgohaaGreatDoorP26
/- PartGet of the model. Of what is right. -/
namespace Go.Proofs.YtohdpgclokgohaaGreatDoor
open Go.RowKit Go.Deep

end Go.Proofs.YtohdpgclokgohaaGreatDoor

/- PartGet of the model. -/
namespace Go.Proofs.YtohdpgclokgohaaGreatDoor
open Go.RowKit Go.Deep

end Go.Proofs.YtohdpgclokgohaaGreatDoor

/- PartGet of the model : the answer owns its memory. -/
namespace Go.Proofs.YtohdpgclokgohaaGreatDoor
open Go.RowKit Go.Deep

end Go.Proofs.YtohdpgclokgohaaGreatDoor

/- PartAt of the model. Of what is right. -/
namespace Go.Proofs.YtohdpgclokgohaaGreatDoor
open Go.RowKit Go.Deep

end Go.Proofs.YtohdpgclokgohaaGreatDoor

/- PartAt of the model. -/
namespace Go.Proofs.YtohdpgclokgohaaGreatDoor
open Go.RowKit Go.Deep

end Go.Proofs.YtohdpgclokgohaaGreatDoor

/- PartAt of the model : the answer owns its memory. -/
namespace Go.Proofs.YtohdpgclokgohaaGreatDoor
open Go.RowKit Go.Deep

end Go.Proofs.YtohdpgclokgohaaGreatDoor

/- PartLen of the model and of the program. -/
namespace Go.Proofs.YtohdpgclokgohaaGreatDoor
open Go.RowKit Go.Deep

/-- How long a tree is. -/
def lenT (d : Nat) (t : Tr (d + 1)) : Option Int :=
  if Nd.kind t = 0 then some 0 else if Nd.kind t = 3 then some (max (Nd.num t) (-(Nd.num t))) else if Nd.kind t = 4 then some (Nd.str t).size
  else if Nd.kind t = 5 ∨ Nd.kind t = 6 then some (Nd.list t).length else none
def partLenT (d : Nat) (t : Tr (d + 1)) : Tr (d + 1) × Bool := if okT (d + 1) t = true then (match lenT d t with | some n => (numT d n, true) | none => (zeroT d, false)) else (zeroT d, false)

/-- How many entries a map has. -/
theorem run_len_map (w : World) (r clock : Nat) (es : Array MapEntry) (ty : TypeId) (hb : w.heap[r]? = some (.map es clock)) :
    (Builtin.len_ #[62] ty #[.map (some r)]).run Tryz.prog w = .ok (.int .i64 es.size) w := by
  simp [Builtin.len_, run_underlying Tryz.underlying62, getObj, Sem.run, hb, goInt]

/-- What lengthOf is asked to give. -/
def LenQ (d : Nat) (t : Tr (d + 1)) (w : World) (e : Ending) (w' : World) : Prop :=
  Below w.heap.size w w' ∧ (if okT (d + 1) t = true then (match lenT d t with
    | some n => e = .returned (.tuple #[.iface 94 (.agg #[.int .i64 n]), .nilIface])
    | none => ∃ why, e = .returned (.tuple #[.nilIface, faultV why])) else ∃ why, e = .returned (.tuple #[.nilIface, faultV why]))

theorem lenT_bd {d : Nat} {t : Tr (d + 1)} (h : okT (d + 1) t = true) {n : Int} (hn : lenT d t = some n) : -1000000 ≤ n ∧ n ≤ 1000000 := by
  obtain ⟨hk, hl, _⟩ := okT_kinds h
  unfold lenT at hn
  split at hn
  · cases hn; omega
  split at hn
  · cases hn; omega
  split at hn
  · cases hn; omega
  split at hn
  · cases hn; omega
  · cases hn

end Go.Proofs.YtohdpgclokgohaaGreatDoor

/- Numbers of the model. -/
namespace Go.Proofs.YtohdpgclokgohaaGreatDoor
open Go.RowKit Go.Deep

end Go.Proofs.YtohdpgclokgohaaGreatDoor

/- PartLen of the model. -/
namespace Go.Proofs.YtohdpgclokgohaaGreatDoor
open Go.RowKit Go.Deep

theorem l1MaxP_any (a b : Int) (w : World) : Calls Tryz.prog 40 #[.int .i64 a, .int .i64 b] w fun e w' => e = .returned (.int .i64 (max a b)) ∧ w' = w := by
  by_cases h : b < a
  · have hm : Hid (max a b = a) := by
      show max a b = a
      omega
    go_enter Tryz.func40, Tryz.ntmps40
    go_wp2_with fail
    go_ret
    rw [hm.out]
    exact ⟨rfl, rfl⟩
  · have hm : Hid (max a b = b) := by
      show max a b = b
      omega
    go_enter Tryz.func40, Tryz.ntmps40
    go_wp2_with fail
    go_ret
    rw [hm.out]
    exact ⟨rfl, rfl⟩

theorem okT_partLen (d : Nat) (t : Tr (d + 1)) : okT (d + 1) (partLenT d t).1 = true := by
  unfold partLenT
  split
  · rename_i h
    cases hl : lenT d t with
    | none => exact okT_zero d
    | some n => exact okT_num d n (lenT_bd h hl)
  · exact okT_zero d
end Go.Proofs.YtohdpgclokgohaaGreatDoor

/- PartLen of the model : the answer owns its memory. -/
namespace Go.Proofs.YtohdpgclokgohaaGreatDoor
open Go.RowKit Go.Deep

end Go.Proofs.YtohdpgclokgohaaGreatDoor

/- The keys, or places, of a tree as a row. -/
namespace Go.Proofs.YtohdpgclokgohaaGreatDoor
open Go.RowKit Go.Deep

def strT (d : Nat) (s : ByteArray) : Tr (d + 1) := (Nd.mk 4 0 s [] [] : Nd (Tr d))
def rowK (d : Nat) (xs : List (Tr (d + 1))) : Tr (d + 2) := (Nd.mk 5 0 ByteArray.empty [] xs : Nd (Tr (d + 1)))
/-- The places of so many, as numbers. -/
def placesT (d n : Nat) : List (Tr (d + 1)) := (List.range n).map (fun (i : Nat) => numT d (i : Int))
def keyTs (d : Nat) (t : Tr (d + 2)) : List (Tr (d + 1)) := if Nd.kind t = 5 then placesT d (Nd.list t).length else (Nd.keys t).map (strT d)
def partKeysT (d : Nat) (t : Tr (d + 2)) : Tr (d + 2) × Bool := if okT (d + 2) t = true ∧ 5 ≤ Nd.kind t then (rowK d (keyTs d t), true) else (zeroT (d + 1), false)

theorem places_at (d n k : Nat) (h : k < n) : (placesT d n)[k]? = some (numT d (k : Int)) := by
  simp [placesT, h]
theorem places_len (d n : Nat) : (placesT d n).length = n := by simp [placesT]

theorem okT_maps {d : Nat} {t : Tr (d + 1)} (h : okT (d + 1) t = true) (h6 : Nd.kind t = 6) : (Nd.keys t).length = (Nd.list t).length ∧ keysB (Nd.keys t) = true := by
  obtain ⟨hf, hm⟩ := okT_form h
  obtain ⟨kind, num, str, keys, list⟩ := t
  have h6 : kind = 6 := h6
  cases hb : headBad kind num str keys.length list.length 6 with
  | true => rw [formT_bad hb] at hf; cases hf
  | false =>
    rw [formT_good hb, if_neg (by omega), if_neg (by omega), if_neg (by omega), if_pos h6] at hf
    simp only [Bool.and_eq_true] at hf
    exact ⟨by simpa using hf.1.1, hf.1.2⟩
theorem okT_len {d : Nat} {t : Tr (d + 1)} (h : okT (d + 1) t = true) : (Nd.list t).length < 60 := by
  obtain ⟨_, hm⟩ := okT_form h
  obtain ⟨kind, num, str, keys, list⟩ := t
  have hmm : manyT (d + 1) (Nd.mk kind num str keys list : Nd (Tr d)) 6 = 1 + (list.map (fun x => manyT d x (6 - 1))).sum := rfl
  rw [hmm] at hm
  have := len_le_many (d := d) (deep := 6 - 1) list
  show list.length < 60
  omega
theorem keyTs_len {d : Nat} {t : Tr (d + 2)} (h : okT (d + 2) t = true) (h5 : 5 ≤ Nd.kind t) : (keyTs d t).length = (Nd.list t).length := by
  unfold keyTs
  split
  · exact places_len _ _
  · rename_i h6
    rw [List.length_map]
    have hk := (okT_kinds h).1
    exact (okT_maps h (by omega)).1

theorem sum_ones {α : Type} {f : α → Nat} : ∀ (xs : List α), (∀ x ∈ xs, f x = 1) → (xs.map f).sum = xs.length
  | [], _ => rfl
  | x :: r, h => by
    simp only [List.map_cons, List.sum_cons, List.length_cons]
    rw [h x (by simp), sum_ones r (fun y hy => h y (by simp [hy]))]
    omega
theorem form_num (d : Nat) (n : Int) (h : -1000000 ≤ n ∧ n ≤ 1000000) : formT (d + 1) (numT d n) (6 - 1) = true := by
  have hb : headBad 3 n ByteArray.empty ([] : List ByteArray).length ([] : List (Tr d)).length (6 - 1) = false := headBad_iff.2 ⟨by omega, fun h => absurd rfl h, fun _ => empty_toList, fun _ => rfl, fun _ => rfl⟩
  show formT (d + 1) (Nd.mk 3 n ByteArray.empty [] [] : Nd (Tr d)) (6 - 1) = true
  rw [formT_good hb]
  simp [h]
theorem form_str (d : Nat) (s : ByteArray) (h : strOk s = true) : formT (d + 1) (strT d s) (6 - 1) = true := by
  have hb : headBad 4 0 s ([] : List ByteArray).length ([] : List (Tr d)).length (6 - 1) = false := headBad_iff.2 ⟨by omega, fun _ => rfl, fun h => absurd rfl h, fun _ => rfl, fun _ => rfl⟩
  show formT (d + 1) (Nd.mk 4 0 s [] [] : Nd (Tr d)) (6 - 1) = true
  rw [formT_good hb]
  simp [h]
theorem okT_rowK {d : Nat} {xs : List (Tr (d + 1))} (hl : xs.length < 60) (hx : ∀ x ∈ xs, formT (d + 1) x (6 - 1) = true ∧ manyT (d + 1) x (6 - 1) = 1) : okT (d + 2) (rowK d xs) = true := by
  have hb : headBad 5 0 ByteArray.empty ([] : List ByteArray).length xs.length 6 = false := headBad_iff.2 ⟨by omega, fun _ => rfl, fun _ => empty_toList, fun _ => rfl, fun h => absurd h (by omega)⟩
  have h1 : formT (d + 2) (rowK d xs) 6 = true := by
    show formT (d + 2) (Nd.mk 5 0 ByteArray.empty [] xs : Nd (Tr (d + 1))) 6 = true
    rw [formT_good hb, if_neg (by omega), if_neg (by omega), if_neg (by omega), if_neg (by omega), if_pos rfl]
    exact List.all_eq_true.2 (fun x h => (hx x h).1)
  have h2 : manyT (d + 2) (rowK d xs) 6 = 1 + (xs.map (fun x => manyT (d + 1) x (6 - 1))).sum := rfl
  rw [sum_ones xs (fun x h => (hx x h).2)] at h2
  have h3 : manyT (d + 2) (rowK d xs) 6 ≤ 60 := by omega
  unfold okT
  rw [h1]
  simpa using h3
theorem okT_partKeys (d : Nat) (t : Tr (d + 2)) : okT (d + 2) (partKeysT d t).1 = true := by
  unfold partKeysT
  split
  · rename_i h
    have hl := okT_len h.1
    refine okT_rowK (by rw [keyTs_len h.1 h.2]; exact hl) (fun x hx => ?_)
    unfold keyTs at hx
    split at hx
    · simp only [placesT, List.mem_map, List.mem_range] at hx
      obtain ⟨i, hi, rfl⟩ := hx
      exact ⟨form_num d i (by omega), rfl⟩
    · rename_i h5
      obtain ⟨s, hs, rfl⟩ := List.mem_map.1 hx
      have hk := (okT_kinds h.1).1
      exact ⟨form_str d s (keysB_strOk _ none (okT_maps h.1 (by have := h.2; omega)).2 s hs), rfl⟩
  · exact okT_zero (d + 1)
end Go.Proofs.YtohdpgclokgohaaGreatDoor

/- PartKeys of the model. -/
namespace Go.Proofs.YtohdpgclokgohaaGreatDoor
open Go.RowKit Go.Deep

theorem row_sliceK {w : World} {base : Nat} {e : TypeId} {size n : Nat} {v : Value} {xs : List Value} (h : w.ownsRow base e size v n xs) : ∃ a m c, v = .slice a m c := by
  rcases h.2 with ⟨rfl, _⟩ | ⟨g, cap, cur, rfl, _⟩
  · exact ⟨_, _, _, rfl⟩
  · exact ⟨_, _, _, rfl⟩

end Go.Proofs.YtohdpgclokgohaaGreatDoor

/- PartKeys of the model : the answer owns its memory. -/
namespace Go.Proofs.YtohdpgclokgohaaGreatDoor
open Go.RowKit Go.Deep

end Go.Proofs.YtohdpgclokgohaaGreatDoor

/- PartEach of the model. -/
namespace Go.Proofs.YtohdpgclokgohaaGreatDoor
open Go.RowKit Go.Deep

/-- The parts of a tree, and whether there can be some. -/
def eachT (d : Nat) (t : Tr (d + 1)) : List (Tr d) × Bool := if okT (d + 1) t = true ∧ 5 ≤ Nd.kind t then (Nd.list t, true) else ([], false)
/-- What is asked of PartEach of the model, .. of the program. -/
def SpecRQ (d : Nat) (xs : List (Tr d)) (ok : Bool) (w : World) (e : Ending) (w' : World) : Prop :=
  ∃ v, e = .returned (.tuple #[v, .bool ok]) ∧ RowAt (Fresh w w') w' (ValAt (Fresh w w') w' d) v xs ∧ Below w.heap.size w w'
def TellRQ (d : Nat) (xs : List (Tr d)) (ok : Bool) (w : World) (e : Ending) (w' : World) : Prop :=
  ∃ v, e = .returned (.tuple #[v, .bool ok]) ∧ RowOwn w' (fun P x u => ValOwn w' d P x u) (Fresh w w') v xs ∧ Below w.heap.size w w'
theorem row_nil {d : Nat} (S : Nat → Prop) (w : World) (a : Option Addr) : RowAt S w (ValAt S w d) (.slice a 0 0) [] := ⟨by show (0 : Nat) < _; omega, a, 0, rfl, Or.inl rfl⟩
theorem rowOwn_at {d : Nat} {S : Nat → Prop} {w : World} {v : Value} {xs : List (Tr d)} (h : RowOwn w (fun P x u => ValOwn w d P x u) S v xs) : RowAt S w (ValAt S w d) v xs := by
  have h1 : ValOwn w (d + 1) S (Nd.mk 5 0 ByteArray.empty [] xs : Nd (Tr d)) (.agg #[.int .i64 5, .int .i64 0, .string ByteArray.empty, .slice none 0 0, v]) :=
    ⟨_, _, fun _ => False, S, rfl, ⟨by show _ ≤ (5 : Int); omega, by show (5 : Int) ≤ _; omega⟩, ⟨by show _ ≤ (0 : Int); omega, by show (0 : Int) ≤ _; omega⟩, by show ByteArray.empty.size < _; decide, ⟨by show (0 : Nat) < _; omega, fun s h => by (cases h), none, 0, rfl, Or.inl rfl⟩, h, fun _ h => h.elim, fun _ h => h, fun _ h => h.elim⟩
  obtain ⟨vk, vl, hv, _, _, _, _, hl⟩ := ValOwn.at _ _ _ _ h1
  cases hv
  exact hl

end Go.Proofs.YtohdpgclokgohaaGreatDoor

/- PartEach of the model : the answer owns its memory. -/
namespace Go.Proofs.YtohdpgclokgohaaGreatDoor
open Go.RowKit Go.Deep

end Go.Proofs.YtohdpgclokgohaaGreatDoor

/- PartGet of the program. -/
namespace Go.Proofs.YtohdpgclokgohaaGreatDoor
open Go.RowKit Go.Deep

set_option maxRecDepth 100000 in
set_option maxHeartbeats 4000000 in
theorem implPartGet_any (d : Nat) (S : Nat → Prop) (t : Tr (d + 2)) (v : Value) (s : ByteArray) (hs : s.size < 281474976710656) (w : World) (hv : ValAt S w (d + 2) t v) (hS : Within S w) (hg : ErrType w) :
    Calls Tryz.prog 21 #[v, .string s] w (TellQ d (partGetT d t s).1 (partGetT d t s).2 w) := by
  obtain ⟨k, n, z, ak, lk, ck, al, ll, cl, rfl⟩ := hv.shape
  obtain ⟨W0, hW⟩ : ∃ W0, W0 = (w.alloc (.cells #[.int .i64 k, .int .i64 n, .string z, .slice ak lk ck, .slice al ll cl] 26)).alloc (.cells #[.int .i64 0, .int .i64 0, .string { data := #[] }, .slice none 0 0, .slice none 0 0] 26) := ⟨_, rfl⟩
  have hW0 : Below w.heap.size w W0 := by rw [hW]; exact below_trans (below_alloc1 _ _) (below_alloc1 _ _)
  have k1 : Blk5 W0 (w.heap.size + 1) 26 (.int .i64 0) (.int .i64 0) (.string { data := #[] }) (.slice none 0 0) (.slice none 0 0) := by
    have := Blk5.new (w.alloc (.cells #[.int .i64 k, .int .i64 n, .string z, .slice ak lk ck, .slice al ll cl] 26)) 26 (.int .i64 0) (.int .i64 0) (.string { data := #[] }) (.slice none 0 0) (.slice none 0 0)
    rw [World.size_alloc] at this
    rw [hW]
    exact this
  have HW := hide hW
  clear hW
  go_enter Tryz.func21, Tryz.ntmps21
  go_wp2_with fail
  rw [← HW.out]
  clear HW
  refine (partsByKeys_any (d + 1) S t _ s hs W0 (hv.same (hS.same hW0)) (hS.later hW0.size)).mono ?_
  rintro e w1 ⟨hb1, hq⟩
  have hB1 := below_trans hW0 hb1
  have k2 := k1.below hb1
  have hg1 := hg.below hB1
  have hlt := k2.lt
  -- what is told, however it is
  have hfin : ∀ (w1' : World), Below w1.heap.size w1 w1' → ∀ (x : Tr (d + 1)) (ok : Bool), Hid (∀ e w2, TellQ d x ok w1' e w2 → ∃ v0 v1 v2 v3 v4 v5 v6 v7 v8, e = .returned (.tuple #[.agg #[.int .i64 v0, .int .i64 v1, .string v2, .slice v3 v4 v5, .slice v6 v7 v8], .bool ok]) ∧
      Blk5 w2 (w.heap.size + 1) 26 (.int .i64 0) (.int .i64 0) (.string { data := #[] }) (.slice none 0 0) (.slice none 0 0) ∧
      ∀ wF, wF = set5 w2 (w.heap.size + 1) 0 (.int .i64 v0) (.int .i64 v1) (.string v2) (.slice v3 v4 v5) (.slice v6 v7 v8) → ValOwn wF (d + 1) (Fresh w wF) x (.agg #[.int .i64 v0, .int .i64 v1, .string v2, .slice v3 v4 v5, .slice v6 v7 v8]) ∧ Below w.heap.size w wF) := fun w1' hb' x ok => by
    intro e w2 ⟨v, he, hv, hb2⟩
    obtain ⟨v0, v1, v2, v3, v4, v5, v6, v7, v8, rfl⟩ := (ValOwn.at _ _ _ _ hv).shape
    exact ⟨v0, v1, v2, v3, v4, v5, v6, v7, v8, he, (k2.below hb').below hb2, tell_end hv (below_trans (below_trans hB1 hb') hb2) (by omega) (Nat.lt_of_lt_of_le hlt hb'.size)⟩
  clear hv hW0 k1 k2
  rcases hq with ⟨keys, xs, r, es, ps, hrow, rfl, hma⟩ | ⟨hrow, why, rfl⟩
  · obtain ⟨hR, hxok⟩ := partGet_some hrow
    by_cases hin : s ∈ keys
    · obtain ⟨k', x, hk1, hk2, hk3⟩ := key_at hin hma.same
      have hmem : (s, x) ∈ ps := hma.perm.mem_iff.2 (List.mem_of_getElem? (by rw [List.getElem?_zip_eq_some]; exact ⟨hk1, hk2⟩ : (keys.zip xs)[k']? = some (s, x)))
      obtain ⟨j, u, hj1, hj2, hu, hj3⟩ := hma.ent.find (perm_nodup hma.perm hma.same hma.good) hmem
      obtain ⟨T, u', rfl⟩ := hu.iface
      have hlook := run_mapGet w1 r ps.length j es s _ j true hma.obj hj2 hj3
      have hxo := hxok x (List.mem_of_getElem? hk2)
      have HR : Hid (partGetT d t s = (toldT d x, okT (d + 1) x)) := by
        show partGetT d t s = _
        rw [hR, getL_at hk1 hk2 hk3, hxo, toldT, if_pos hxo]
        rfl
      have hcall := hide (told_tree d _ x _ w1 hu (Fresh.within _ _))
      clear hR hrow hma hxok hk1 hk2 hk3 hmem hj1 hj2 hj3 hu hin hxo
      rw [if_pos rfl] at hlook
      go_wp2_with fail
      refine Calls.mono hcall.out ?_
      intro e w2 hq
      obtain ⟨v0, v1, v2, v3, v4, v5, v6, v7, v8, rfl, k3, hF⟩ := (hfin w1 (Below.refl _ _) _ _).out e w2 hq
      have HF := hide hF
      obtain ⟨y0, y1, y2, y3, y4⟩ := k3.cell
      have yf := k3.frozen
      clear hF hq hfin hcall k3
      go_wp2_with fail
      refine bodyPost_ret (v := .tuple #[.agg #[.int .i64 v0, .int .i64 v1, .string v2, .slice v3 v4 v5, .slice v6 v7 v8], .bool (okT (d + 1) x)]) (by simp [results, Tryz.results21, go_sem, y0, y1, y2, y3, y4]) rfl ⟨_, by rw [HR.out], by rw [HR.out]; exact (HF.out _ rfl).1, (HF.out _ rfl).2⟩
    · have hlook := run_mapMiss w1 r ps.length es s hma.obj (hma.ent.miss (fun h => hin (by
        have h2 := (hma.perm.map Prod.fst).mem_iff.1 h
        rw [List.map_fst_zip (by have := hma.same; omega)] at h2
        exact h2)))
      have HR : Hid (partGetT d t s = (toldT d (zeroT d), okT (d + 1) (zeroT d))) := by
        show partGetT d t s = _
        rw [hR, getL_miss hin, okT_zero d, toldT, if_pos (okT_zero d)]
        rfl
      have hcall := hide (told_tree d (fun _ => False) (zeroT d) (.iface 67 (.agg #[.int .i64 0])) w1 (bareTree_at d _ _) (fun _ h => h.elim))
      clear hR hrow hma hxok hin
      go_wp2_with fail
      refine Calls.mono hcall.out ?_
      intro e w2 hq
      obtain ⟨v0, v1, v2, v3, v4, v5, v6, v7, v8, rfl, k3, hF⟩ := (hfin w1 (Below.refl _ _) _ _).out e w2 hq
      have HF := hide hF
      obtain ⟨y0, y1, y2, y3, y4⟩ := k3.cell
      have yf := k3.frozen
      clear hF hq hfin hcall k3
      go_wp2_with fail
      refine bodyPost_ret (v := .tuple #[.agg #[.int .i64 v0, .int .i64 v1, .string v2, .slice v3 v4 v5, .slice v6 v7 v8], .bool (okT (d + 1) (zeroT d))]) (by simp [results, Tryz.results21, go_sem, y0, y1, y2, y3, y4]) rfl ⟨_, by rw [HR.out], by rw [HR.out]; exact (HF.out _ rfl).1, (HF.out _ rfl).2⟩
  · have HR := hide (partGet_none hrow)
    have hcall := hide (told_fault d .nilIface why w1 hg1)
    unfold faultV
    clear hrow
    go_wp2_with fail
    refine Calls.mono hcall.out ?_
    intro e w2 hq
    obtain ⟨v0, v1, v2, v3, v4, v5, v6, v7, v8, rfl, k3, hF⟩ := (hfin w1 (Below.refl _ _) _ _).out e w2 hq
    have HF := hide hF
    obtain ⟨y0, y1, y2, y3, y4⟩ := k3.cell
    have yf := k3.frozen
    clear hF hq hfin hcall k3
    go_wp2_with fail
    refine bodyPost_ret (v := .tuple #[.agg #[.int .i64 v0, .int .i64 v1, .string v2, .slice v3 v4 v5, .slice v6 v7 v8], .bool false]) (by simp [results, Tryz.results21, go_sem, y0, y1, y2, y3, y4]) rfl ⟨_, by rw [HR.out], by rw [HR.out]; exact (HF.out _ rfl).1, (HF.out _ rfl).2⟩
end Go.Proofs.YtohdpgclokgohaaGreatDoor

/- PartKeys of the program. -/
namespace Go.Proofs.YtohdpgclokgohaaGreatDoor
open Go.RowKit Go.Deep

/-- A row of trees without parts. -/
theorem row1_of_own {d N : Nat} {S : Nat → Prop} {w' : World} {sv : Value} {xs : List (Tr d)} {vs : List Value} (h1 : w'.ownsRow N 49 1 sv xs.length vs) (hl : xs.length < 17592186044416) (hS : ∀ b, N ≤ b → b < w'.heap.size → S b)
    (h2 : ∀ (i : Nat) (x : Tr d) (u : Value), xs[i]? = some x → vs[i]? = some u → TreeG S w' d x u) : Row1At S w' (TreeG S w' d) sv xs := by
  refine ⟨hl, ?_⟩
  have hlen := h1.1
  rw [Nat.mul_one] at hlen
  rcases h1.2 with ⟨rfl, h0⟩ | ⟨g, cap, cur, rfl, hg, hh, _, _, _, _⟩
  · exact ⟨none, 0, by rw [h0], Or.inl (List.eq_nil_of_length_eq_zero h0)⟩
  · refine ⟨some ⟨g, 0, none⟩, cap, rfl, Or.inr ⟨g, 0, hS g hg (Array.getElem?_eq_some_iff.1 hh).1, rfl, fun i x hx => ?_⟩⟩
    have hi := (List.getElem?_eq_some_iff.1 hx).1
    have hvi : vs[i]? = some vs[i] := List.getElem?_eq_getElem (by omega)
    have hc := h1.cells (g := g) rfl i _ hvi
    have hadd : (⟨g, 0, none⟩ : Addr).add i = ⟨g, 0 + i, none⟩ := by unfold Addr.add; split <;> simp_all
    rw [hadd] at hc
    exact ⟨vs[i], hc, h2 i x _ hx hvi⟩
/-- Places, keys as the program's own trees. -/
def placeVs (k : Nat) : List Value := (List.range k).map (fun (i : Nat) => .iface 94 (.agg #[.int .i64 (i : Int)]))
def keyVs (ks : List ByteArray) : List Value := ks.map (fun s => .iface 84 (.agg #[.string s]))
theorem placeVs_succ (k : Nat) : placeVs (k + 1) = placeVs k ++ [.iface 94 (.agg #[.int .i64 (k : Int)])] := by
  simp [placeVs, List.range_succ]
theorem keyVs_succ (ks : List ByteArray) (k : Nat) (s : ByteArray) (h : ks[k]? = some s) : keyVs (ks.take (k + 1)) = keyVs (ks.take k) ++ [.iface 84 (.agg #[.string s])] := by
  rw [List.take_add_one, h]
  simp [keyVs]

/-- What withParts is asked to give. -/
def WithQ (d : Nat) (t : Tr (d + 1)) (w : World) (e : Ending) (w' : World) : Prop :=
  Below w.heap.size w w' ∧ ((okT (d + 1) t = true ∧ 5 ≤ Nd.kind t ∧ ∃ u, e = .returned (.tuple #[u, .nilIface]) ∧ TreeG (Fresh w w') w' (d + 1) t u) ∨ (¬ (okT (d + 1) t = true ∧ 5 ≤ Nd.kind t) ∧ ∃ why, e = .returned (.tuple #[.nilIface, faultV why])))

/-- What keyRow is asked to give. -/
def KeyQ (d : Nat) (t : Tr (d + 2)) (w : World) (e : Ending) (w' : World) : Prop :=
  Below w.heap.size w w' ∧ ((okT (d + 2) t = true ∧ 5 ≤ Nd.kind t ∧ ∃ u, e = .returned (.tuple #[u, .nilIface]) ∧ TreeG (Fresh w w') w' (d + 2) (rowK d (keyTs d t)) u) ∨ (¬ (okT (d + 2) t = true ∧ 5 ≤ Nd.kind t) ∧ ∃ why, e = .returned (.tuple #[.nilIface, faultV why])))

end Go.Proofs.YtohdpgclokgohaaGreatDoor

/- PartEach of the program. -/
namespace Go.Proofs.YtohdpgclokgohaaGreatDoor
open Go.RowKit Go.Deep

end Go.Proofs.YtohdpgclokgohaaGreatDoor

/- An answer, in a variable of its own. -/
namespace Go.Proofs.YtohdpgclokgohaaGreatDoor
open Go.RowKit Go.Deep

/-- An answer, in a variable of its own at b. -/
structure ToldIn (e lo b : Nat) (t : Tr (e + 1)) (w wc : World) (p0 p1 : Int) (p2 : ByteArray) (p3 : Option Addr) (p4 p5 : Nat) (p6 : Option Addr) (p7 p8 : Nat) : Prop where
  var : Blk5 wc b 26 (.int .i64 p0) (.int .i64 p1) (.string p2) (.slice p3 p4 p5) (.slice p6 p7 p8)
  val : ValAt (fun x => lo ≤ x ∧ x < wc.heap.size ∧ x ≠ b) wc (e + 1) t (.agg #[.int .i64 p0, .int .i64 p1, .string p2, .slice p3 p4 p5, .slice p6 p7 p8])
  below : Below lo w wc
  lob : lo ≤ b

theorem told_set {e lo b : Nat} {t : Tr (e + 1)} {w W : World} {p0 p1 : Int} {p2 : ByteArray} {p3 : Option Addr} {p4 p5 : Nat} {p6 : Option Addr} {p7 p8 : Nat} {c0 c1 c2 c3 c4 : Value} {S : Nat → Prop} (hz : Blk5 W b 26 c0 c1 c2 c3 c4) (hlo : lo ≤ b) (hb : Below lo w W)
    (ha : ValAt S W (e + 1) t (.agg #[.int .i64 p0, .int .i64 p1, .string p2, .slice p3 p4 p5, .slice p6 p7 p8])) (hS : ∀ x, S x → lo ≤ x ∧ x < W.heap.size ∧ x ≠ b) :
    ToldIn e lo b t w (set5 W b 0 (.int .i64 p0) (.int .i64 p1) (.string p2) (.slice p3 p4 p5) (.slice p6 p7 p8)) p0 p1 p2 p3 p4 p5 p6 p7 p8 := by
  refine ⟨?_, ?_, below_set5 hb hlo _ _ _ _ _ _, hlo⟩
  · unfold Blk5 at hz ⊢
    simp [set5, World.setCell, Array.getElem?_modify, hz]
  · exact ValAt.moved (fun x hx => set5_block _ _ _ _ _ _ _ _ _ (hS x hx).2.2) (fun x hx => ⟨(hS x hx).1, by rw [set5_size]; exact (hS x hx).2.1, (hS x hx).2.2⟩) _ _ _ ha
theorem told_new {e lo : Nat} {t : Tr (e + 1)} {w W : World} {p0 p1 : Int} {p2 : ByteArray} {p3 : Option Addr} {p4 p5 : Nat} {p6 : Option Addr} {p7 p8 : Nat} {S : Nat → Prop} (hlo : lo ≤ W.heap.size) (hb : Below lo w W)
    (ha : ValAt S W (e + 1) t (.agg #[.int .i64 p0, .int .i64 p1, .string p2, .slice p3 p4 p5, .slice p6 p7 p8])) (hS : ∀ x, S x → lo ≤ x ∧ x < W.heap.size) :
    ToldIn e lo W.heap.size t w (W.alloc (.cells #[.int .i64 p0, .int .i64 p1, .string p2, .slice p3 p4 p5, .slice p6 p7 p8] 26)) p0 p1 p2 p3 p4 p5 p6 p7 p8 := by
  refine ⟨Blk5.new _ _ _ _ _ _ _, ?_, hb.alloc hlo _, hlo⟩
  exact ValAt.moved (fun x hx => Below.heap_alloc _ _ _ (hS x hx).2) (fun x hx => ⟨(hS x hx).1, by have := (hS x hx).2; simp; omega, by have := (hS x hx).2; omega⟩) _ _ _ ha
theorem Fresh.within' (w : World) {w' w2 : World} (h : w'.heap.size ≤ w2.heap.size) : Within (Fresh w w') w2 := fun _ hb => Nat.lt_of_lt_of_le hb.2 h
theorem newDrew (w : World) (T : TypeId) (c0 c1 c2 c3 c4 : Value) : Blk5 (w.alloc (.cells #[c0, c1, c2, c3, c4] T)).drew w.heap.size T c0 c1 c2 c3 c4 := Blk5.new w T c0 c1 c2 c3 c4
theorem belowChain {n b : Nat} {w W : World} {T : TypeId} {c0 c1 c2 c3 c4 : Value} (hb : Below n w W) (_hz : Blk5 W b T c0 c1 c2 c3 c4) (hle : n ≤ b) (v0 v1 v2 v3 v4 : Value) : Below n w (((((W.setCell ⟨b, 0, none⟩ v0).setCell ⟨b, 1, none⟩ v1).setCell ⟨b, 2, none⟩ v2).setCell ⟨b, 3, none⟩ v3).setCell ⟨b, 4, none⟩ v4) :=
  below_set5 hb hle 0 v0 v1 v2 v3 v4
end Go.Proofs.YtohdpgclokgohaaGreatDoor

/- The laws of chapter 2: what their calls give, and how their variables lie. -/
namespace Go.Proofs.YtohdpgclokgohaaGreatDoor
open Go.RowKit Go.Deep

/-- What is told: a tree in new plain memory, and whether it can be done. -/
def TQ (w : World) (d : Nat) (t : Tr d) (ok : Bool) (W : World) (e : Ending) (w' : World) : Prop :=
  ∃ (c0 c1 : Int) (c2 : ByteArray) (c3 : Option Addr) (c4 c5 : Nat) (c6 : Option Addr) (c7 c8 : Nat), e = .returned (.tuple #[.agg #[.int .i64 c0, .int .i64 c1, .string c2, .slice c3 c4 c5, .slice c6 c7 c8], .bool ok]) ∧
    ValAt (FreshP w w') w' d t (.agg #[.int .i64 c0, .int .i64 c1, .string c2, .slice c3 c4 c5, .slice c6 c7 c8]) ∧ Below W.heap.size W w'
theorem tq_of {w W w' : World} {d : Nat} {t : Tr (d + 1)} {ok : Bool} {e : Ending} (hl : w.heap.size ≤ W.heap.size) (h : TellQ d t ok W e w') : TQ w (d + 1) t ok W e w' := by
  obtain ⟨v, rfl, hv, hb⟩ := h
  have hp := (own_plain (d + 1) _ t v hv).mono (S' := FreshP w w') (fun b hb' => ⟨⟨Nat.le_trans hl hb'.1.1, hb'.1.2⟩, hb'.2⟩)
  obtain ⟨c0, c1, c2, c3, c4, c5, c6, c7, c8, rfl⟩ := hp.shape
  exact ⟨c0, c1, c2, c3, c4, c5, c6, c7, c8, rfl, hp, hb⟩
theorem nodes_small {d : Nat} {t : Tr d} (h : wtT d t ≤ 10000) : (nodes d t : Int) ≤ 4194304 := by
  have := nodes_wt' d t
  omega

theorem getI {d : Nat} {w W : World} {t : Tr (d + 2)} {v : Value} {s : ByteArray} (h : ValAt (FreshP w W) W (d + 2) t v) (hs : s.size < 281474976710656) (hg : ErrType W) (hl : w.heap.size ≤ W.heap.size) :
    Calls Tryz.prog 21 #[v, .string s] W (TQ w (d + 1) (partGetT d t s).1 (partGetT d t s).2 W) := (implPartGet_any d _ t v s hs W h within_P hg).mono (fun _ _ h => tq_of hl h)
/-- A row of trees in plain memory, and whether it can be told. -/
def RQ (w : World) (d : Nat) (xs : List (Tr d)) (ok : Bool) (W : World) (e : Ending) (w' : World) : Prop :=
  ∃ (a : Option Addr) (c : Nat), e = .returned (.tuple #[.slice a xs.length c, .bool ok]) ∧ RowAt (FreshP w w') w' (ValAt (FreshP w w') w' d) (.slice a xs.length c) xs ∧ Below W.heap.size W w'
theorem rq_of {w W w' : World} {d : Nat} {xs : List (Tr d)} {ok : Bool} {e : Ending} (hl : w.heap.size ≤ W.heap.size) (h : TellRQ d xs ok W e w') : RQ w d xs ok W e w' := by
  obtain ⟨v, rfl, hv, hb⟩ := h
  have h1 : ValOwn w' (d + 1) (Fresh W w') (Nd.mk 5 0 ByteArray.empty [] xs : Nd (Tr d)) (.agg #[.int .i64 5, .int .i64 0, .string ByteArray.empty, .slice none 0 0, v]) :=
    ⟨_, _, fun _ => False, Fresh W w', rfl, ⟨by show _ ≤ (5 : Int); omega, by show (5 : Int) ≤ _; omega⟩, ⟨by show _ ≤ (0 : Int); omega, by show (0 : Int) ≤ _; omega⟩, by show ByteArray.empty.size < _; decide, ⟨by show (0 : Nat) < _; omega, fun s h => by (cases h), none, 0, rfl, Or.inl rfl⟩, hv, fun _ h => h.elim, fun _ h => h, fun _ h => h.elim⟩
  have hp := (own_plain (d + 1) _ _ _ h1).mono (S' := FreshP w w') (fun b hb' => ⟨⟨Nat.le_trans hl hb'.1.1, hb'.1.2⟩, hb'.2⟩)
  obtain ⟨vk, vl, hv', _, _, _, _, hrow⟩ := hp
  cases hv'
  obtain ⟨a, c, rfl, _⟩ := hrow.open'
  exact ⟨a, c, rfl, hrow, hb⟩
/-- The same, the answer being known to lie in what is new. -/
theorem getG {d : Nat} {w W : World} {t : Tr (d + 2)} {v : Value} {s : ByteArray} (h : ValAt (FreshP w W) W (d + 2) t v) (hs : s.size < 281474976710656) (hg : ErrType W) (_hl : w.heap.size ≤ W.heap.size) :
    Calls Tryz.prog 21 #[v, .string s] W (TQ W (d + 1) (partGetT d t s).1 (partGetT d t s).2 W) := (implPartGet_any d _ t v s hs W h within_P hg).mono (fun _ _ h => tq_of (Nat.le_refl _) h)
/-- One tree, twice. -/
theorem samE {d : Nat} {w W : World} {t : Tr d} {v v' : Value} (h : ValAt (FreshP w W) W d t v) (h' : ValAt (FreshP w W) W d t v') (hs : wtT d t ≤ 10000) : Calls Tryz.prog 12 #[v, v'] W fun e w' => e = .returned (.bool true) ∧ Below W.heap.size W w' := by
  have hc := samI_at h h' hs
  rw [(ord_T d).self t] at hc
  exact hc
theorem okS_at {d : Nat} {w W : World} {t : Tr d} {v : Value} (h : ValAt (FreshP w W) W d t v) (hs : wtT d t ≤ 10000) : Calls Tryz.prog 39 #[v] W fun e w' => e = .returned (.bool (okT d t)) ∧ Below W.heap.size W w' :=
  specValOk_any d _ t v W h within_P (nodes_small hs)

theorem toList_ne {a b : ByteArray} (h : a ≠ b) : (a.toList == b.toList) = false := by
  cases hb : (a.toList == b.toList)
  · rfl
  · have e := beq_iff_eq.1 hb
    rw [ByteArray.toList_eq, ByteArray.toList_eq] at e
    refine absurd ?_ h
    cases a with
    | mk a =>
      cases b with
      | mk b =>
        have e : a.toList = b.toList := e
        cases a; cases b
        simp at e
        rw [e]
theorem yes_at (S : Nat → Prop) (w : World) (d : Nat) : ValAt S w (d + 1) (yesT d) (.agg #[.int .i64 2, .int .i64 0, .string { data := #[] }, .slice none 0 0, .slice none 0 0]) :=
  bareT_at S w d 2 0 ⟨#[]⟩ ⟨by omega, by omega⟩ ⟨by omega, by omega⟩ (by show (0 : Nat) < _; omega)
theorem zero_at (S : Nat → Prop) (w : World) (d : Nat) : ValAt S w (d + 1) (zeroT d) (.agg #[.int .i64 0, .int .i64 0, .string { data := #[] }, .slice none 0 0, .slice none 0 0]) :=
  bareT_at S w d 0 0 ⟨#[]⟩ ⟨by omega, by omega⟩ ⟨by omega, by omega⟩ (by show (0 : Nat) < _; omega)
/-- A variable that holds a tree. -/
structure VarAt (w W : World) (b : Nat) (c0 c1 : Int) (c2 : ByteArray) (c3 : Option Addr) (c4 c5 : Nat) (c6 : Option Addr) (c7 c8 : Nat) (d : Nat) (t : Tr d) : Prop where
  blk : Blk5 W b 26 (.int .i64 c0) (.int .i64 c1) (.string c2) (.slice c3 c4 c5) (.slice c6 c7 c8)
  val : ValAt (FreshP w W) W d t (.agg #[.int .i64 c0, .int .i64 c1, .string c2, .slice c3 c4 c5, .slice c6 c7 c8])
theorem VarAt.go {w W W' : World} {b : Nat} {c0 c1 : Int} {c2 : ByteArray} {c3 : Option Addr} {c4 c5 : Nat} {c6 : Option Addr} {c7 c8 : Nat} {d : Nat} {t : Tr d} (h : VarAt w W b c0 c1 c2 c3 c4 c5 c6 c7 c8 d t) (hb : Below W.heap.size W W') : VarAt w W' b c0 c1 c2 c3 c4 c5 c6 c7 c8 d t :=
  ⟨h.blk.below hb, freshP_go h.val hb⟩
theorem VarAt.new {w W : World} {c0 c1 : Int} {c2 : ByteArray} {c3 : Option Addr} {c4 c5 : Nat} {c6 : Option Addr} {c7 c8 : Nat} {d : Nat} {t : Tr d} (h : ValAt (FreshP w W) W d t (.agg #[.int .i64 c0, .int .i64 c1, .string c2, .slice c3 c4 c5, .slice c6 c7 c8])) :
    VarAt w (W.alloc (.cells #[.int .i64 c0, .int .i64 c1, .string c2, .slice c3 c4 c5, .slice c6 c7 c8] 26)) W.heap.size c0 c1 c2 c3 c4 c5 c6 c7 c8 d t :=
  ⟨Blk5.new W _ _ _ _ _ _, freshP_go h (below_alloc1 _ _)⟩
theorem VarAt.two {w W : World} {c0 c1 : Int} {c2 : ByteArray} {c3 : Option Addr} {c4 c5 : Nat} {c6 : Option Addr} {c7 c8 : Nat} {d : Nat} {t : Tr d} {q0 q1 : Int} {q2 : ByteArray} {q3 : Option Addr} {q4 q5 : Nat} {q6 : Option Addr} {q7 q8 : Nat} {d' : Nat} {t' : Tr d'}
    (h : ValAt (FreshP w W) W d t (.agg #[.int .i64 c0, .int .i64 c1, .string c2, .slice c3 c4 c5, .slice c6 c7 c8])) (h' : ValAt (FreshP w W) W d' t' (.agg #[.int .i64 q0, .int .i64 q1, .string q2, .slice q3 q4 q5, .slice q6 q7 q8])) :
    VarAt w ((W.alloc (.cells #[.int .i64 c0, .int .i64 c1, .string c2, .slice c3 c4 c5, .slice c6 c7 c8] 26)).alloc (.cells #[.int .i64 q0, .int .i64 q1, .string q2, .slice q3 q4 q5, .slice q6 q7 q8] 26)) W.heap.size c0 c1 c2 c3 c4 c5 c6 c7 c8 d t ∧
    VarAt w ((W.alloc (.cells #[.int .i64 c0, .int .i64 c1, .string c2, .slice c3 c4 c5, .slice c6 c7 c8] 26)).alloc (.cells #[.int .i64 q0, .int .i64 q1, .string q2, .slice q3 q4 q5, .slice q6 q7 q8] 26)) (W.heap.size + 1) q0 q1 q2 q3 q4 q5 q6 q7 q8 d' t' ∧
    Below W.heap.size W ((W.alloc (.cells #[.int .i64 c0, .int .i64 c1, .string c2, .slice c3 c4 c5, .slice c6 c7 c8] 26)).alloc (.cells #[.int .i64 q0, .int .i64 q1, .string q2, .slice q3 q4 q5, .slice q6 q7 q8] 26)) := by
  have h1 := below_alloc1 W (.cells #[.int .i64 c0, .int .i64 c1, .string c2, .slice c3 c4 c5, .slice c6 c7 c8] 26)
  have h2 := VarAt.new (freshP_go h' h1)
  rw [World.size_alloc] at h2
  exact ⟨(VarAt.new h).go (below_alloc1 _ _), h2, below_trans h1 (below_alloc1 _ _)⟩
/-- An answer that is written into a new variable, made ahead of the call or behind it. -/
theorem var_set {w Wc W : World} {b : Nat} {z0 z1 z2 z3 z4 : Value} {c0 c1 : Int} {c2 : ByteArray} {c3 : Option Addr} {c4 c5 : Nat} {c6 : Option Addr} {c7 c8 : Nat} {d : Nat} {t : Tr d} (hz : Blk5 W b 26 z0 z1 z2 z3 z4) (hb : b < Wc.heap.size) (hl : w.heap.size ≤ Wc.heap.size)
    (h : ValAt (FreshP Wc W) W d t (.agg #[.int .i64 c0, .int .i64 c1, .string c2, .slice c3 c4 c5, .slice c6 c7 c8])) :
    VarAt w (set5 W b 0 (.int .i64 c0) (.int .i64 c1) (.string c2) (.slice c3 c4 c5) (.slice c6 c7 c8)) b c0 c1 c2 c3 c4 c5 c6 c7 c8 d t := by
  have hs : ∀ x, x ≠ b → (set5 W b 0 (.int .i64 c0) (.int .i64 c1) (.string c2) (.slice c3 c4 c5) (.slice c6 c7 c8)).heap[x]? = W.heap[x]? := fun x hx => set5_block _ _ _ _ _ _ _ _ _ hx
  refine ⟨blk_set5 hz _ _ _ _ _, ValAt.moved (fun x hx => hs x (by have := hx.1.1; omega)) (fun x hx => ?_) d t _ h⟩
  exact ⟨⟨Nat.le_trans hl hx.1.1, by rw [set5_size]; exact hx.1.2⟩, hx.2.of_block (hs x (by have := hx.1.1; omega))⟩
theorem var_new {w Wc W : World} {c0 c1 : Int} {c2 : ByteArray} {c3 : Option Addr} {c4 c5 : Nat} {c6 : Option Addr} {c7 c8 : Nat} {d : Nat} {t : Tr d} (hl : w.heap.size ≤ Wc.heap.size) (h : ValAt (FreshP Wc W) W d t (.agg #[.int .i64 c0, .int .i64 c1, .string c2, .slice c3 c4 c5, .slice c6 c7 c8])) :
    VarAt w (W.alloc (.cells #[.int .i64 c0, .int .i64 c1, .string c2, .slice c3 c4 c5, .slice c6 c7 c8] 26)) W.heap.size c0 c1 c2 c3 c4 c5 c6 c7 c8 d t := VarAt.new (freshP_wide h hl)
/-- What has come since a world: nothing that was there has turned. -/
structure Since (W0 W : World) : Prop where
  bel : Below W0.heap.size W0 W
theorem Since.go {W0 W W' : World} (h : Since W0 W) (hb : Below W.heap.size W W') : Since W0 W' := ⟨below_trans h.bel hb⟩
theorem Since.start (W : World) : Since W W := ⟨Below.refl _ _⟩
/-- A row of trees that came of a call. -/
structure RowsAt (w W : World) (a : Option Addr) (c d : Nat) (xs : List (Tr d)) : Prop where
  row : RowAt (FreshP w W) W (ValAt (FreshP w W) W d) (.slice a xs.length c) xs
theorem RowsAt.go {w W W' : World} {a : Option Addr} {c d : Nat} {xs : List (Tr d)} (h : RowsAt w W a c d xs) (hb : Below W.heap.size W W') : RowsAt w W' a c d xs := by
  have hs : Same (FreshP w W) W W' := fun b hb' => hb.block b hb'.1.2
  exact ⟨h.row.moved hs (fun b hb' => ⟨⟨hb'.1.1, Nat.lt_of_lt_of_le hb'.1.2 hb.size⟩, hb'.2.of_block (hs b hb')⟩) (fun x u hx => freshP_go hx hb)⟩
/-- The tree at a place of a row, with its cells. -/
theorem row_elem {w W : World} {a : Option Addr} {n c d k : Nat} {xs : List (Tr d)} (h : RowAt (FreshP w W) W (ValAt (FreshP w W) W d) (.slice a n c) xs) (hk : k < xs.length) :
    ∃ (b o : Nat) (x : Tr d) (c0 c1 : Int) (c2 : ByteArray) (c3 : Option Addr) (c4 c5 : Nat) (c6 : Option Addr) (c7 c8 : Nat), a = some ⟨b, o, none⟩ ∧ b < W.heap.size ∧ xs[k]? = some x ∧
      W.cell? ⟨b, o + k * 5, none⟩ = some (.int .i64 c0) ∧ W.cell? ⟨b, o + k * 5 + 1, none⟩ = some (.int .i64 c1) ∧ W.cell? ⟨b, o + k * 5 + 2, none⟩ = some (.string c2) ∧ W.cell? ⟨b, o + k * 5 + 3, none⟩ = some (.slice c3 c4 c5) ∧ W.cell? ⟨b, o + k * 5 + 4, none⟩ = some (.slice c6 c7 c8) ∧
      ValAt (FreshP w W) W d x (.agg #[.int .i64 c0, .int .i64 c1, .string c2, .slice c3 c4 c5, .slice c6 c7 c8]) := by
  obtain ⟨b, o, x, c0, c1, c2, c3, c4, ha, hS, hx, e0, e1, e2, e3, e4, hv⟩ := h.cell hk
  obtain ⟨p0, p1, p2, p3, p4, p5, p6, p7, p8, hp⟩ := hv.shape
  cases hp
  exact ⟨b, o, x, _, _, _, _, _, _, _, _, _, ha, hS.1.2, hx, e0, e1, e2, e3, e4, hv⟩
/-- The key at a place, with its cell. -/
theorem key_elem {w W : World} {a : Option Addr} {n c k : Nat} {ks : List ByteArray} (h : StrsAt (FreshP w W) W (.slice a n c) ks) (hk : k < ks.length) :
    ∃ (b o : Nat) (s : ByteArray), a = some ⟨b, o, none⟩ ∧ b < W.heap.size ∧ ks[k]? = some s ∧ s.size < 281474976710656 ∧ W.cell? ⟨b, o + k, none⟩ = some (.string s) := by
  obtain ⟨b, o, s, ha, hS, hx, hz, hc⟩ := h.cell hk
  exact ⟨b, o, s, ha, hS.1.2, hx, hz, hc⟩
theorem val_parts {w W : World} {d : Nat} {t : Tr (d + 1)} {c0 c1 : Int} {c2 : ByteArray} {c3 : Option Addr} {c4 c5 : Nat} {c6 : Option Addr} {c7 c8 : Nat} (h : ValAt (FreshP w W) W (d + 1) t (.agg #[.int .i64 c0, .int .i64 c1, .string c2, .slice c3 c4 c5, .slice c6 c7 c8])) :
    c0 = Nd.kind t ∧ c1 = Nd.num t ∧ c2 = Nd.str t ∧ c4 = (Nd.keys t).length ∧ c7 = (Nd.list t).length ∧ StrsAt (FreshP w W) W (.slice c3 c4 c5) (Nd.keys t) ∧ RowAt (FreshP w W) W (ValAt (FreshP w W) W d) (.slice c6 c7 c8) (Nd.list t) := by
  obtain ⟨h0, h1, h2, _, _, _, hk, hl⟩ := parts_of h
  obtain ⟨_, _, e1, _⟩ := hk.open'
  obtain ⟨_, _, e2, _⟩ := hl.open'
  cases h0
  cases h1
  cases h2
  cases e1
  cases e2
  exact ⟨rfl, rfl, rfl, rfl, rfl, hk, hl⟩
/-- What stands all along. -/
structure Amid (w W : World) : Prop where
  bel : Below w.heap.size w W
  err : ErrType W
theorem Amid.go {w W W' : World} (h : Amid w W) (hb : Below W.heap.size W W') : Amid w W' := ⟨below_trans h.bel hb, h.err.below hb⟩
theorem Amid.le {w W : World} (h : Amid w W) : w.heap.size ≤ W.heap.size := h.bel.size
end Go.Proofs.YtohdpgclokgohaaGreatDoor
