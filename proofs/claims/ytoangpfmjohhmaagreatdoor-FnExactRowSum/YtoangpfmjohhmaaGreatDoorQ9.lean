/- Texts of the proof, put together by program: WKeyP, PAdd, PAddT, WTrees, WAppS, WMarkT, WMark. -/
import Derived.Test.YtoangpfmjohhmaaGreatDoorQ7
import Derived.Test.YtoangpfmjohhmaaGreatDoorQ5
import Derived.Test.YtoangpfmjohhmaaGreatDoorQ8
import Derived.Test.YtoangpfmjohhmaaGreatDoorQ6
import Derived.Maps.AppendAt
import Derived.Laws.IdiomStrings
/- The keys, or places, of a tree as a row. -/
namespace Go.Proofs.YtoangpfmjohhmaaGreatDoor
open Go.RowKit Go.Deep

def strT (d : Nat) (s : ByteArray) : Tr (d + 1) := (Nd.mk 4 0 s [] [] : Nd (Tr d))
def rowK (d : Nat) (xs : List (Tr (d + 1))) : Tr (d + 2) := (Nd.mk 5 0 ByteArray.empty [] xs : Nd (Tr (d + 1)))
/-- The places of so many, as numbers. -/
def placesT (d n : Nat) : List (Tr (d + 1)) := (List.range n).map (fun (i : Nat) => numT d (i : Int))
def keyTs (d : Nat) (t : Tr (d + 2)) : List (Tr (d + 1)) := if Nd.kind t = 5 then placesT d (Nd.list t).length else (Nd.keys t).map (strT d)
def partKeysT (d : Nat) (t : Tr (d + 2)) : Tr (d + 2) × Bool := if okT (d + 2) t = true ∧ 5 ≤ Nd.kind t then (rowK d (keyTs d t), true) else (zeroT (d + 1), false)

theorem places_at (d n k : Nat) (h : k < n) : (placesT d n)[k]? = some (numT d (k : Int)) := by
  simp [placesT, h]
theorem places_len (d n : Nat) : (placesT d n).length = n := by simp [placesT]

theorem okT_maps {d : Nat} {t : Tr (d + 1)} (h : okT (d + 1) t = true) (h6 : Nd.kind t = 6) : (Nd.keys t).length = (Nd.list t).length ∧ keysB (Nd.keys t) = true := by
  obtain ⟨hf, hm⟩ := okT_form h
  obtain ⟨kind, num, str, keys, list⟩ := t
  have h6 : kind = 6 := h6
  cases hb : headBad kind num str keys.length list.length 6 with
  | true => rw [formT_bad hb] at hf; cases hf
  | false =>
    rw [formT_good hb, if_neg (by omega), if_neg (by omega), if_neg (by omega), if_pos h6] at hf
    simp only [Bool.and_eq_true] at hf
    exact ⟨by simpa using hf.1.1, hf.1.2⟩
theorem okT_len {d : Nat} {t : Tr (d + 1)} (h : okT (d + 1) t = true) : (Nd.list t).length < 60 := by
  obtain ⟨_, hm⟩ := okT_form h
  obtain ⟨kind, num, str, keys, list⟩ := t
  have hmm : manyT (d + 1) (Nd.mk kind num str keys list : Nd (Tr d)) 6 = 1 + (list.map (fun x => manyT d x (6 - 1))).sum := rfl
  rw [hmm] at hm
  have := len_le_many (d := d) (deep := 6 - 1) list
  show list.length < 60
  omega
theorem keyTs_len {d : Nat} {t : Tr (d + 2)} (h : okT (d + 2) t = true) (h5 : 5 ≤ Nd.kind t) : (keyTs d t).length = (Nd.list t).length := by
  unfold keyTs
  split
  · exact places_len _ _
  · rename_i h6
    rw [List.length_map]
    have hk := (okT_kinds h).1
    exact (okT_maps h (by omega)).1

theorem sum_ones {α : Type} {f : α → Nat} : ∀ (xs : List α), (∀ x ∈ xs, f x = 1) → (xs.map f).sum = xs.length
  | [], _ => rfl
  | x :: r, h => by
    simp only [List.map_cons, List.sum_cons, List.length_cons]
    rw [h x (by simp), sum_ones r (fun y hy => h y (by simp [hy]))]
    omega
theorem form_num (d : Nat) (n : Int) (h : -1000000 ≤ n ∧ n ≤ 1000000) : formT (d + 1) (numT d n) (6 - 1) = true := by
  have hb : headBad 3 n ByteArray.empty ([] : List ByteArray).length ([] : List (Tr d)).length (6 - 1) = false := headBad_iff.2 ⟨by omega, fun h => absurd rfl h, fun _ => empty_toList, fun _ => rfl, fun _ => rfl⟩
  show formT (d + 1) (Nd.mk 3 n ByteArray.empty [] [] : Nd (Tr d)) (6 - 1) = true
  rw [formT_good hb]
  simp [h]
theorem form_str (d : Nat) (s : ByteArray) (h : strOk s = true) : formT (d + 1) (strT d s) (6 - 1) = true := by
  have hb : headBad 4 0 s ([] : List ByteArray).length ([] : List (Tr d)).length (6 - 1) = false := headBad_iff.2 ⟨by omega, fun _ => rfl, fun h => absurd rfl h, fun _ => rfl, fun _ => rfl⟩
  show formT (d + 1) (Nd.mk 4 0 s [] [] : Nd (Tr d)) (6 - 1) = true
  rw [formT_good hb]
  simp [h]
theorem okT_rowK {d : Nat} {xs : List (Tr (d + 1))} (hl : xs.length < 60) (hx : ∀ x ∈ xs, formT (d + 1) x (6 - 1) = true ∧ manyT (d + 1) x (6 - 1) = 1) : okT (d + 2) (rowK d xs) = true := by
  have hb : headBad 5 0 ByteArray.empty ([] : List ByteArray).length xs.length 6 = false := headBad_iff.2 ⟨by omega, fun _ => rfl, fun _ => empty_toList, fun _ => rfl, fun h => absurd h (by omega)⟩
  have h1 : formT (d + 2) (rowK d xs) 6 = true := by
    show formT (d + 2) (Nd.mk 5 0 ByteArray.empty [] xs : Nd (Tr (d + 1))) 6 = true
    rw [formT_good hb, if_neg (by omega), if_neg (by omega), if_neg (by omega), if_neg (by omega), if_pos rfl]
    exact List.all_eq_true.2 (fun x h => (hx x h).1)
  have h2 : manyT (d + 2) (rowK d xs) 6 = 1 + (xs.map (fun x => manyT (d + 1) x (6 - 1))).sum := rfl
  rw [sum_ones xs (fun x h => (hx x h).2)] at h2
  have h3 : manyT (d + 2) (rowK d xs) 6 ≤ 60 := by omega
  unfold okT
  rw [h1]
  simpa using h3
theorem okT_partKeys (d : Nat) (t : Tr (d + 2)) : okT (d + 2) (partKeysT d t).1 = true := by
  unfold partKeysT
  split
  · rename_i h
    have hl := okT_len h.1
    refine okT_rowK (by rw [keyTs_len h.1 h.2]; exact hl) (fun x hx => ?_)
    unfold keyTs at hx
    split at hx
    · simp only [placesT, List.mem_map, List.mem_range] at hx
      obtain ⟨i, hi, rfl⟩ := hx
      exact ⟨form_num d i (by omega), rfl⟩
    · rename_i h5
      obtain ⟨s, hs, rfl⟩ := List.mem_map.1 hx
      have hk := (okT_kinds h.1).1
      exact ⟨form_str d s (keysB_strOk _ none (okT_maps h.1 (by have := h.2; omega)).2 s hs), rfl⟩
  · exact okT_zero (d + 1)
end Go.Proofs.YtoangpfmjohhmaaGreatDoor

/- Two trees together: plain facts. -/
namespace Go.Proofs.YtoangpfmjohhmaaGreatDoor
open Go.RowKit Go.Deep

/-- What lies at a key of pairs. -/
def getP {α : Type} (ps : List (ByteArray × α)) (s : ByteArray) : Option α := getL (ps.map Prod.fst) (ps.map Prod.snd) s
/-- One pair more, at its place. -/
def putP {α : Type} (ps : List (ByteArray × α)) (q : ByteArray × α) : List (ByteArray × α) := putL (ps.map Prod.fst) (ps.map Prod.snd) q.1 q.2
/-- All pairs of the second put into the first, one behind the other. -/
def putAll {α : Type} (ps qs : List (ByteArray × α)) : List (ByteArray × α) := qs.foldl putP ps

theorem getP_same {α : Type} (ps : List (ByteArray × α)) (q : ByteArray × α) : getP (putP ps q) q.1 = some q.2 := getL_put_same _ _ _ _ (putL_len2 ps)
theorem getP_other {α : Type} (ps : List (ByteArray × α)) (q : ByteArray × α) {s : ByteArray} (h : s ≠ q.1) : getP (putP ps q) s = getP ps s := getL_put_other _ h _ _ (putL_len2 ps)
theorem putP_order {α : Type} {ps : List (ByteArray × α)} {q : ByteArray × α} (hq : strOk q.1 = true) (h : keysGo none (ps.map Prod.fst) = true) : keysGo none ((putP ps q).map Prod.fst) = true := putL_order hq (putL_len2 ps) h
theorem putAll_order {α : Type} : ∀ (qs ps : List (ByteArray × α)), (∀ q ∈ qs, strOk q.1 = true) → keysGo none (ps.map Prod.fst) = true → keysGo none ((putAll ps qs).map Prod.fst) = true
  | [], _, _, h => h
  | q :: r, ps, hq, h => putAll_order r (putP ps q) (fun x hx => hq x (by simp [hx])) (putP_order (hq q (by simp)) h)
theorem putAll_miss {α : Type} {s : ByteArray} : ∀ (qs ps : List (ByteArray × α)), (∀ q ∈ qs, s ≠ q.1) → getP (putAll ps qs) s = getP ps s
  | [], _, _ => rfl
  | q :: r, ps, h => by
    show getP (putAll (putP ps q) r) s = _
    rw [putAll_miss r (putP ps q) (fun x hx => h x (by simp [hx])), getP_other ps q (h q (by simp))]
theorem putAll_hit {α : Type} {q : ByteArray × α} : ∀ (qs ps : List (ByteArray × α)), qs.Pairwise (fun a b => a.1 ≠ b.1) → q ∈ qs → getP (putAll ps qs) q.1 = some q.2
  | [], _, _, h => by cases h
  | p :: r, ps, hp, h => by
    obtain ⟨h1, h2⟩ := List.pairwise_cons.1 hp
    show getP (putAll (putP ps p) r) q.1 = _
    rcases List.mem_cons.1 h with rfl | h
    · rw [putAll_miss r _ (fun x hx => h1 x hx), getP_same]
    · exact putAll_hit r _ h2 h
/-- The order in which they come does not matter. -/
theorem putAll_perm {α : Type} {ps qs qs' : List (ByteArray × α)} (hp : qs.Perm qs') (hd : qs.Pairwise (fun a b => a.1 ≠ b.1)) (hk : ∀ q ∈ qs, strOk q.1 = true) (ho : keysGo none (ps.map Prod.fst) = true) : putAll ps qs = putAll ps qs' := by
  have hd' : qs'.Pairwise (fun a b => a.1 ≠ b.1) := hp.pairwise hd (fun h => Ne.symm h)
  refine assoc_ext _ _ none none (putAll_order qs ps hk ho) (putAll_order qs' ps (fun q hq => hk q (hp.mem_iff.2 hq)) ho) (fun s => ?_)
  show getP (putAll ps qs) s = getP (putAll ps qs') s
  by_cases hs : ∃ q ∈ qs, s = q.1
  · obtain ⟨q, hq, rfl⟩ := hs
    rw [putAll_hit qs ps hd hq, putAll_hit qs' ps hd' (hp.mem_iff.1 hq)]
  · rw [putAll_miss qs ps (fun q hq e => hs ⟨q, hq, e⟩), putAll_miss qs' ps (fun q hq e => hs ⟨q, hp.mem_iff.2 hq, e⟩)]
/-- Keys in order are each once. -/
theorem keys_pairwise {α : Type} {ps : List (ByteArray × α)} (h : keysGo none (ps.map Prod.fst) = true) : ps.Pairwise (fun a b => a.1 ≠ b.1) := by
  have hp := keysGo_pair _ none h
  rw [List.pairwise_map] at hp
  exact hp.imp (fun h => ltB_ne h)

/-- The pairs of a map. -/
def pairsT {d : Nat} (t : Tr (d + 1)) : List (ByteArray × Tr d) := (Nd.keys t).zip (Nd.list t)
/-- What two trees that are ok, and of one kind, are together, before it is asked whether that is ok. -/
def sumT (d : Nat) (a b : Tr (d + 1)) : Option (Tr (d + 1)) :=
  if Nd.kind a = 0 then some b else if Nd.kind b = 0 then some a else if Nd.kind a ≠ Nd.kind b then none
  else if Nd.kind a = 3 then some (Nd.mk 3 (Nd.num a + Nd.num b) ByteArray.empty [] [] : Nd (Tr d)) else if Nd.kind a = 4 then some (Nd.mk 4 0 (Nd.str a ++ Nd.str b) [] [] : Nd (Tr d))
  else if Nd.kind a = 5 then some (rowT d (Nd.list a ++ Nd.list b)) else if Nd.kind a = 6 then some (mapT d (putAll (pairsT a) (pairsT b))) else none
/-- What PartAdd tells. -/
def partAddT (d : Nat) (a b : Tr (d + 1)) : Tr (d + 1) × Bool :=
  if okT (d + 1) a = true ∧ okT (d + 1) b = true then (match sumT d a b with | some t => (toldT d t, okT (d + 1) t) | none => (zeroT d, false)) else (zeroT d, false)
theorem okT_partAdd (d : Nat) (a b : Tr (d + 1)) : okT (d + 1) (partAddT d a b).1 = true := by
  unfold partAddT
  split
  · split
    · exact okT_told _ _
    · exact okT_zero _
  · exact okT_zero _
end Go.Proofs.YtoangpfmjohhmaaGreatDoor

/- Two trees together: what the law of PartAdd asks. -/
namespace Go.Proofs.YtoangpfmjohhmaaGreatDoor
open Go.RowKit Go.Deep

theorem getP_mem {α : Type} {ps : List (ByteArray × α)} (h : keysGo none (ps.map Prod.fst) = true) {q : ByteArray × α} (hq : q ∈ ps) : getP ps q.1 = some q.2 := by
  obtain ⟨i, hi⟩ := List.getElem?_of_mem hq
  exact getL_key (i := i) (k := q.1) (y := q.2) h (by rw [List.getElem?_map, hi]; rfl) (by rw [List.getElem?_map, hi]; rfl)
theorem getP_none {α : Type} {ps : List (ByteArray × α)} {s : ByteArray} (h : ∀ q ∈ ps, s ≠ q.1) : getP ps s = none :=
  getL_miss (fun hm => by obtain ⟨q, hq, e⟩ := List.mem_map.1 hm; exact h q hq e.symm)
theorem getP_putAll {α : Type} {ps qs : List (ByteArray × α)} (hq : keysGo none (qs.map Prod.fst) = true) (s : ByteArray) : getP (putAll ps qs) s = (match getP qs s with | some x => some x | none => getP ps s) := by
  by_cases hs : ∃ q ∈ qs, s = q.1
  · obtain ⟨q, hm, rfl⟩ := hs
    rw [putAll_hit qs ps (keys_pairwise hq) hm, getP_mem hq hm]
  · have hn : ∀ q ∈ qs, s ≠ q.1 := fun q hm e => hs ⟨q, hm, e⟩
    rw [putAll_miss qs ps hn, getP_none hn]
theorem keys_ok {α : Type} {ps : List (ByteArray × α)} (h : keysGo none (ps.map Prod.fst) = true) : ∀ q ∈ ps, strOk q.1 = true := fun q hq => keysGo_ok _ none h q.1 (List.mem_map.2 ⟨q, hq, rfl⟩)
theorem putAll_nil {α : Type} {qs : List (ByteArray × α)} (h : keysGo none (qs.map Prod.fst) = true) : putAll [] qs = qs := by
  refine assoc_ext _ _ none none (putAll_order qs [] (keys_ok h) rfl) h (fun s => ?_)
  show getP (putAll [] qs) s = getP qs s
  rw [getP_putAll h]
  cases e : getP qs s with
  | some x => rfl
  | none => exact getP_none (fun q hq => by cases hq)
theorem putAll_assoc {α : Type} {ps qs rs : List (ByteArray × α)} (hp : keysGo none (ps.map Prod.fst) = true) (hq : keysGo none (qs.map Prod.fst) = true) (hr : keysGo none (rs.map Prod.fst) = true) : putAll (putAll ps qs) rs = putAll ps (putAll qs rs) := by
  have h1 := putAll_order qs ps (keys_ok hq) hp
  have h2 := putAll_order rs qs (keys_ok hr) hq
  refine assoc_ext _ _ none none (putAll_order rs _ (keys_ok hr) h1) (putAll_order _ ps (keys_ok h2) hp) (fun s => ?_)
  show getP (putAll (putAll ps qs) rs) s = getP (putAll ps (putAll qs rs)) s
  rw [getP_putAll hr, getP_putAll hq, getP_putAll h2, getP_putAll hr]
  cases getP rs s <;> rfl

theorem pairs_keys {d : Nat} {t : Tr (d + 1)} (h : okT (d + 1) t = true) (h6 : Nd.kind t = 6) : keysGo none ((pairsT t).map Prod.fst) = true := by
  obtain ⟨hl, hk⟩ := okT_maps h h6
  unfold pairsT
  rw [zip_fst _ _ hl]
  exact hk
theorem pairs_mapT {d : Nat} (ps : List (ByteArray × Tr d)) : pairsT (mapT d ps) = ps := zip_unzip ps

theorem add_ok {d : Nat} {a b : Tr (d + 1)} (h : (partAddT d a b).2 = true) : okT (d + 1) a = true ∧ okT (d + 1) b = true ∧ ∃ t, sumT d a b = some t ∧ okT (d + 1) t = true ∧ partAddT d a b = (t, true) := by
  unfold partAddT at h ⊢
  split at h
  · rename_i hab
    refine ⟨hab.1, hab.2, ?_⟩
    split at h
    · rename_i t ht
      have h : okT (d + 1) t = true := h
      refine ⟨t, ht, h, ?_⟩
      rw [if_pos hab]
      show (toldT d t, okT (d + 1) t) = _
      unfold toldT
      rw [if_pos h, h]
    · cases h
  · cases h
theorem add_no {d : Nat} {a b : Tr (d + 1)} (h : (partAddT d a b).2 = false) : (partAddT d a b).1 = zeroT d := by
  unfold partAddT at h ⊢
  split at h
  · rename_i hab
    rw [if_pos hab]
    split at h
    · rename_i t ht
      have h : okT (d + 1) t = false := h
      show toldT d t = _
      unfold toldT
      rw [if_neg (by rw [h]; simp)]
    · rfl
  · rename_i hab
    rw [if_neg hab]
theorem add_of {d : Nat} {a b t : Tr (d + 1)} (ha : okT (d + 1) a = true) (hb : okT (d + 1) b = true) (hs : sumT d a b = some t) (ht : okT (d + 1) t = true) : partAddT d a b = (t, true) := by
  unfold partAddT
  rw [if_pos ⟨ha, hb⟩, hs]
  show (toldT d t, okT (d + 1) t) = _
  unfold toldT
  rw [if_pos ht, ht]
theorem sum_left {d : Nat} {a b : Tr (d + 1)} (h : Nd.kind a = 0) : sumT d a b = some b := if_pos h
theorem sum_right {d : Nat} {a b : Tr (d + 1)} (h : Nd.kind a ≠ 0) (hb : Nd.kind b = 0) : sumT d a b = some a := by unfold sumT; rw [if_neg h, if_pos hb]
theorem add_none_left {d : Nat} {a : Tr (d + 1)} (ha : okT (d + 1) a = true) : partAddT d (zeroT d) a = (a, true) := add_of (okT_zero d) ha (sum_left rfl) ha
theorem zero_of {d : Nat} {t : Tr (d + 1)} (h : okT (d + 1) t = true) (h0 : Nd.kind t = 0) : t = zeroT d := by
  obtain ⟨hf, _⟩ := okT_form h
  obtain ⟨kind, num, str, keys, list⟩ := t
  have h0 : kind = 0 := h0
  subst h0
  cases hb : headBad 0 num str keys.length list.length 6 with
  | true => rw [formT_bad hb] at hf; cases hf
  | false =>
    obtain ⟨_, g1, g2, g3, g4⟩ := headBad_iff.1 hb
    obtain rfl := g1 (by omega)
    obtain rfl := bytes_nil (g2 (by omega))
    obtain rfl := List.eq_nil_of_length_eq_zero (g3 (by omega))
    obtain rfl := List.eq_nil_of_length_eq_zero (g4 (by omega))
    rfl
theorem add_none_right {d : Nat} {a : Tr (d + 1)} (ha : okT (d + 1) a = true) : partAddT d a (zeroT d) = (a, true) := by
  by_cases h0 : Nd.kind a = 0
  · rw [zero_of ha h0]
    exact add_of (okT_zero d) (okT_zero d) (sum_left rfl) (okT_zero d)
  · exact add_of ha (okT_zero d) (sum_right h0 rfl) ha
/-- Neither is nothing. -/
theorem sum_two {d : Nat} {a b x : Tr (d + 1)} (ha : Nd.kind a ≠ 0) (hb : Nd.kind b ≠ 0) (h : sumT d a b = some x) : Nd.kind a = Nd.kind b ∧ Nd.kind x = Nd.kind a ∧
    ((Nd.kind a = 3 ∧ x = (Nd.mk 3 (Nd.num a + Nd.num b) ByteArray.empty [] [] : Nd (Tr d))) ∨ (Nd.kind a = 4 ∧ x = (Nd.mk 4 0 (Nd.str a ++ Nd.str b) [] [] : Nd (Tr d))) ∨
     (Nd.kind a = 5 ∧ x = rowT d (Nd.list a ++ Nd.list b)) ∨ (Nd.kind a = 6 ∧ x = mapT d (putAll (pairsT a) (pairsT b)))) := by
  unfold sumT at h
  rw [if_neg ha, if_neg hb] at h
  split at h
  · cases h
  · rename_i hk
    have hk : Nd.kind a = Nd.kind b := Decidable.of_not_not hk
    refine ⟨hk, ?_⟩
    split at h
    · rename_i e; cases h; exact ⟨e.symm, Or.inl ⟨e, rfl⟩⟩
    · split at h
      · rename_i e; cases h; exact ⟨e.symm, Or.inr (Or.inl ⟨e, rfl⟩)⟩
      · split at h
        · rename_i e; cases h; exact ⟨e.symm, Or.inr (Or.inr (Or.inl ⟨e, rfl⟩))⟩
        · split at h
          · rename_i e; cases h; exact ⟨e.symm, Or.inr (Or.inr (Or.inr ⟨e, rfl⟩))⟩
          · cases h
theorem sum_assoc {d : Nat} {a b c x p q r : Tr (d + 1)} (ha : okT (d + 1) a = true) (hb : okT (d + 1) b = true) (hc : okT (d + 1) c = true) (h1 : sumT d a b = some x) (h2 : sumT d x c = some p) (h3 : sumT d b c = some q) (h4 : sumT d a q = some r) : p = r := by
  by_cases ka : Nd.kind a = 0
  · rw [sum_left ka] at h1 h4
    cases h1
    cases h4
    rw [h3] at h2
    cases h2
    rfl
  by_cases kb : Nd.kind b = 0
  · rw [sum_right ka kb] at h1
    rw [sum_left kb] at h3
    cases h1
    cases h3
    rw [h2] at h4
    cases h4
    rfl
  obtain ⟨e1, e2, hx⟩ := sum_two ka kb h1
  by_cases kc : Nd.kind c = 0
  · rw [sum_right (by omega) kc] at h2
    rw [sum_right kb kc] at h3
    cases h2
    cases h3
    rw [h1] at h4
    cases h4
    rfl
  obtain ⟨e3, e4, hp⟩ := sum_two (by omega) kc h2
  obtain ⟨e5, e6, hq⟩ := sum_two kb kc h3
  obtain ⟨e7, e8, hr⟩ := sum_two ka (by omega) h4
  rcases hx with ⟨k, rfl⟩ | ⟨k, rfl⟩ | ⟨k, rfl⟩ | ⟨k, rfl⟩
  · rcases hp with ⟨_, rfl⟩ | ⟨k', _⟩ | ⟨k', _⟩ | ⟨k', _⟩
    · rcases hq with ⟨_, rfl⟩ | ⟨k', _⟩ | ⟨k', _⟩ | ⟨k', _⟩
      · rcases hr with ⟨_, rfl⟩ | ⟨k', _⟩ | ⟨k', _⟩ | ⟨k', _⟩
        · show (Nd.mk 3 (Nd.num a + Nd.num b + Nd.num c) ByteArray.empty [] [] : Nd (Tr d)) = Nd.mk 3 (Nd.num a + (Nd.num b + Nd.num c)) ByteArray.empty [] []
          rw [Int.add_assoc]
        all_goals omega
      all_goals omega
    all_goals (exfalso; rw [e2, k] at k'; omega)
  · rcases hp with ⟨k', _⟩ | ⟨_, rfl⟩ | ⟨k', _⟩ | ⟨k', _⟩
    · exfalso; rw [e2, k] at k'; omega
    · rcases hq with ⟨k', _⟩ | ⟨_, rfl⟩ | ⟨k', _⟩ | ⟨k', _⟩
      · omega
      · rcases hr with ⟨k', _⟩ | ⟨_, rfl⟩ | ⟨k', _⟩ | ⟨k', _⟩
        · omega
        · show (Nd.mk 4 0 ((Nd.str a ++ Nd.str b) ++ Nd.str c) [] [] : Nd (Tr d)) = Nd.mk 4 0 (Nd.str a ++ (Nd.str b ++ Nd.str c)) [] []
          rw [ByteArray.append_assoc]
        all_goals omega
      all_goals omega
    all_goals (exfalso; rw [e2, k] at k'; omega)
  · rcases hp with ⟨k', _⟩ | ⟨k', _⟩ | ⟨_, rfl⟩ | ⟨k', _⟩
    · exfalso; rw [e2, k] at k'; omega
    · exfalso; rw [e2, k] at k'; omega
    · rcases hq with ⟨k', _⟩ | ⟨k', _⟩ | ⟨_, rfl⟩ | ⟨k', _⟩
      · omega
      · omega
      · rcases hr with ⟨k', _⟩ | ⟨k', _⟩ | ⟨_, rfl⟩ | ⟨k', _⟩
        · omega
        · omega
        · show rowT d ((Nd.list a ++ Nd.list b) ++ Nd.list c) = rowT d (Nd.list a ++ (Nd.list b ++ Nd.list c))
          rw [List.append_assoc]
        · omega
      · omega
    · exfalso; rw [e2, k] at k'; omega
  · rcases hp with ⟨k', _⟩ | ⟨k', _⟩ | ⟨k', _⟩ | ⟨_, rfl⟩
    · exfalso; rw [e2, k] at k'; omega
    · exfalso; rw [e2, k] at k'; omega
    · exfalso; rw [e2, k] at k'; omega
    · rcases hq with ⟨k', _⟩ | ⟨k', _⟩ | ⟨k', _⟩ | ⟨_, rfl⟩
      · omega
      · omega
      · omega
      · rcases hr with ⟨k', _⟩ | ⟨k', _⟩ | ⟨k', _⟩ | ⟨_, rfl⟩
        · omega
        · omega
        · omega
        · rw [pairs_mapT, pairs_mapT, putAll_assoc (pairs_keys ha k) (pairs_keys hb (by omega)) (pairs_keys hc (by omega))]
theorem add_assoc {d : Nat} {a b c : Tr (d + 1)} (h1 : (partAddT d a b).2 = true) (h2 : (partAddT d (partAddT d a b).1 c).2 = true) (h3 : (partAddT d b c).2 = true) (h4 : (partAddT d a (partAddT d b c).1).2 = true) :
    (partAddT d (partAddT d a b).1 c).1 = (partAddT d a (partAddT d b c).1).1 := by
  obtain ⟨ha, hb, x, s1, _, e1⟩ := add_ok h1
  obtain ⟨_, hc, q, s3, _, e3⟩ := add_ok h3
  rw [e1] at h2 ⊢
  rw [e3] at h4 ⊢
  obtain ⟨_, _, p, s2, _, e2⟩ := add_ok h2
  obtain ⟨_, _, r, s4, _, e4⟩ := add_ok h4
  rw [e2, e4]
  exact sum_assoc ha hb hc s1 s2 s3 s4
theorem add_num {d : Nat} {a b : Tr (d + 1)} (h : (partAddT d a b).2 = true) (ka : Nd.kind a = 3) (kb : Nd.kind b = 3) : Nd.num (partAddT d a b).1 = Nd.num a + Nd.num b := by
  obtain ⟨_, _, x, s1, _, e1⟩ := add_ok h
  rw [e1]
  obtain ⟨_, _, hx⟩ := sum_two (by omega) (by omega) s1
  rcases hx with ⟨_, rfl⟩ | ⟨k, _⟩ | ⟨k, _⟩ | ⟨k, _⟩
  · rfl
  all_goals omega
/-- The length of two texts, or of two rows, together. -/
theorem add_len {d : Nat} {a b : Tr (d + 1)} (h : (partAddT d a b).2 = true) (hk : Nd.kind a = Nd.kind b) (h45 : Nd.kind a = 4 ∨ Nd.kind a = 5) : Nd.kind (partAddT d a b).1 = Nd.kind a ∧ (Nd.str (partAddT d a b).1).size = (Nd.str a).size + (Nd.str b).size ∧ (Nd.list (partAddT d a b).1).length = (Nd.list a).length + (Nd.list b).length ∧ okT (d + 1) (partAddT d a b).1 = true := by
  obtain ⟨ha, hb, x, s1, hx1, e1⟩ := add_ok h
  rw [e1]
  obtain ⟨_, e2, hx⟩ := sum_two (by omega) (by omega) s1
  have hno : ∀ (t : Tr (d + 1)), okT (d + 1) t = true → Nd.kind t = 4 → Nd.list t = [] := fun t ht k => okT_nolist ht (by omega)
  have hst : ∀ (t : Tr (d + 1)), okT (d + 1) t = true → Nd.kind t = 5 → (Nd.str t).size = 0 := fun t ht k => by rw [row_self ht k]; rfl
  rcases hx with ⟨k, _⟩ | ⟨k, rfl⟩ | ⟨k, rfl⟩ | ⟨k, _⟩
  · omega
  · refine ⟨e2, ByteArray.size_append, ?_, hx1⟩
    show ([] : List (Tr d)).length = _
    rw [hno a ha k, hno b hb (by omega)]
    rfl
  · refine ⟨e2, ?_, List.length_append, hx1⟩
    show ByteArray.empty.size = _
    rw [hst a ha k, hst b hb (by omega)]
    rfl
  · omega
end Go.Proofs.YtoangpfmjohhmaaGreatDoor

/- treesInRow: the trees of a row, in memory of their own. -/
namespace Go.Proofs.YtoangpfmjohhmaaGreatDoor
open Go.RowKit Go.Deep

/-- The trees of a row that is ok. -/
def treesL (d : Nat) (t : Tr (d + 1)) : Option (List (Tr d)) := if okT (d + 1) t = true then (if Nd.kind t = 5 then some (Nd.list t) else none) else none
theorem treesL_ok {d : Nat} {t : Tr (d + 1)} (h : okT (d + 1) t = true) : treesL d t = (if Nd.kind t = 5 then some (Nd.list t) else none) := if_pos h
theorem treesL_some {d : Nat} {t : Tr (d + 1)} {xs : List (Tr d)} (h : treesL d t = some xs) : okT (d + 1) t = true ∧ Nd.kind t = 5 ∧ Nd.list t = xs := by
  unfold treesL at h
  split at h
  · split at h
    · exact ⟨‹_›, ‹_›, by cases h; rfl⟩
    · cases h
  · cases h

/-- What treesInRow is asked to give. -/
def TreesOQ (d : Nat) (t : Tr (d + 1)) (w : World) (e : Ending) (w' : World) : Prop :=
  Below w.heap.size w w' ∧ ((∃ xs a cap vs, treesL d t = some xs ∧ e = .returned (.tuple #[.slice a xs.length cap, .nilIface]) ∧ GTo w.heap.size w' (.slice a xs.length cap) xs vs) ∨ (treesL d t = none ∧ ∃ why, e = .returned (.tuple #[.slice none 0 0, faultV why])))

set_option maxRecDepth 100000 in
set_option maxHeartbeats 4000000 in
theorem treesInRow_own (d : Nat) (S : Nat → Prop) (t : Tr (d + 1)) (v : Value) (w : World) (hv : ValAt S w (d + 1) t v) (hS : Within S w) :
    Calls Tryz.prog 98 #[v] w (TreesOQ d t w) := by
  obtain ⟨k, n, s, ak, lk, ck, al, ll, cl, rfl⟩ := hv.shape
  have hA := below_alloc1 w (.cells #[.int .i64 k, .int .i64 n, .string s, .slice ak lk ck, .slice al ll cl] 26)
  have hAs := hA.size
  go_enter Tryz.func98, Tryz.ntmps98
  go_wp2_with fail
  refine (given_own d S t _ _ (hv.same (hS.same hA)) (hS.later hA.size)).mono ?_
  rintro e w1 ⟨hb1, hq⟩
  have hB := below_trans hA hb1
  clear hb1 hA hv
  rcases hq with ⟨hok, u, rfl, hu, htop⟩ | ⟨hok, why, rfl⟩
  · rcases hu with ⟨k', h1, rfl, rfl⟩ | ⟨n', h1, rfl, rfl⟩ | ⟨s', h1, rfl, rfl⟩ | ⟨xs, sv, h1, rfl, rfl, hr⟩ | ⟨keys, xs, ps, r, es, h1, h2, h3, h4, rfl, rfl, hr, hm, he⟩
    · have a3 := Tryz.asR_B
      have hq : Hid (treesL d (Nd.mk k' 0 ByteArray.empty [] [] : Nd (Tr d)) = none) := by
        refine (treesL_ok hok).trans ?_
        show (if k' = 5 then _ else _) = _
        rw [if_neg (by omega)]
      have HB := hide hB
      clear hB htop
      go_wp2_with fail
      go_ret2
      exact ⟨below_trans HB.out (below_alloc1 _ _), Or.inr ⟨hq.out, _, rfl⟩⟩
    · have a3 := Tryz.asR_N
      have hq : Hid (treesL d (Nd.mk 3 n' ByteArray.empty [] [] : Nd (Tr d)) = none) := by
        exact (treesL_ok hok).trans rfl
      have HB := hide hB
      clear hB htop
      go_wp2_with fail
      go_ret2
      exact ⟨below_trans HB.out (below_alloc1 _ _), Or.inr ⟨hq.out, _, rfl⟩⟩
    · have a3 := Tryz.asR_S
      have hq : Hid (treesL d (Nd.mk 4 0 s' [] [] : Nd (Tr d)) = none) := by
        exact (treesL_ok hok).trans rfl
      have HB := hide hB
      clear hB htop
      go_wp2_with fail
      go_ret2
      exact ⟨below_trans HB.out (below_alloc1 _ _), Or.inr ⟨hq.out, _, rfl⟩⟩
    · have a3 := Tryz.asR_R
      obtain ⟨sa, sc, rfl, _⟩ := hr.open'
      have hq : Hid (treesL d (Nd.mk 5 0 ByteArray.empty [] xs : Nd (Tr d)) = some xs) := by
        exact (treesL_ok hok).trans rfl
      have hA2 := below_alloc1 w1 (.cells #[.slice sa xs.length sc] 120)
      have HB2 := hide (below_trans hB hA2)
      have hsz := hA2.size
      have HR : Hid (∃ vs, GTo w.heap.size (w1.alloc (.cells #[.slice sa xs.length sc] 120)) (.slice sa xs.length sc) xs vs) := by
        obtain ⟨sv', vs, he, hto⟩ := htop.1 rfl
        cases he
        exact ⟨vs, (gto_of (hto.moved hA2 (by omega)) (okT_row hok))⟩
      clear hB hA2 hr htop
      go_wp2_with fail
      go_ret2
      obtain ⟨vs, hvs⟩ := HR.out
      exact ⟨HB2.out, Or.inl ⟨xs, sa, sc, vs, hq.out, rfl, hvs⟩⟩
    · have a3 := Tryz.asR_M
      have hq : Hid (treesL d (Nd.mk 6 0 ByteArray.empty keys xs : Nd (Tr d)) = none) := by
        exact (treesL_ok hok).trans rfl
      have HB := hide hB
      clear hB htop he hm hr h4 h3 h2
      go_wp2_with fail
      go_ret2
      exact ⟨below_trans HB.out (below_alloc1 _ _), Or.inr ⟨hq.out, _, rfl⟩⟩
  · unfold faultV
    go_wp2_with fail
    go_ret2
    refine ⟨hB, Or.inr ⟨?_, why, rfl⟩⟩
    rw [treesL, if_neg (by rw [hok]; simp)]

end Go.Proofs.YtoangpfmjohhmaaGreatDoor

/- append of texts onto a row of nothing; of a run of append in a region that draws. -/
namespace Go.Proofs.YtoangpfmjohhmaaGreatDoor
open Go.RowKit Go.Deep

/-- What an append does, as one step of a region that draws. -/
theorem step_append_run {P : Program} {ops : Array Oper} {o : Oper} {a : Act} {w : World} {K : Act → World → Prop} {Q : Exit → Act → World → Prop} {E : Prop} (Φ : Value → World → Prop)
    (hg : o.guard = none) (s x : Operand) (t : TypeId) (hop : o.op = Op.call { callee := Callee.builtin Builtin.append, args := #[s, x], argTypes := #[t, t] }) (vs vx : Value) (hs : a.eval s = vs) (hx : a.eval x = vx)
    (hrun : ∃ v' w', (Builtin.append_ #[t, t] o.type #[vs, vx]).run P w = .ok v' w' ∧ Φ v' w') (hK : ∀ v' w', Φ v' w' → K (a.put o.dst v') w') :
    if Region.wanted o (yielded ops a.tmps) = true then Oper.wp P o a w K Q else E := by
  have hw : Region.wanted o (yielded ops a.tmps) = true := by simp [Region.wanted, hg]
  rw [if_pos hw]
  obtain ⟨v', w', hr, hφ⟩ := hrun
  unfold Oper.wp
  simp [execOp, hop, resolve, invoke, builtin, hs, hx, hr, Result.andThen]
  exact hK v' w' hφ

theorem Tryz.infoS2 : (Tryz.prog.info? 9).map (fun i => (i.zero, i.size, i.bytes)) = some (some (.string ByteArray.empty), 1, 16) := by kernel_rfl

/-- Texts, copied behind nothing. -/
theorem run_append_strs (S : Nat → Prop) (ss : List ByteArray) (ak : Option Addr) (ck g : Nat) (ty : TypeId) (w : World) (hg : w.heap[g]? = some (.cells #[] 9 (0, 0))) (hv : StrsAt S w (.slice ak ss.length ck) ss) (hsm : ss.length ≤ 4194304) :
    ∃ v' w', (Builtin.append_ #[23, 23] ty #[.slice (some ⟨g, 0, none⟩) 0 0, .slice ak ss.length ck]).run Tryz.prog w = .ok v' w' ∧
      (StrsOwn (fun b => b = g ∨ b = w.heap.size) w' v' ss ∧ w.grownBy w' (some g)) := by
  obtain ⟨i0, hi, hz0, hz1, hz2⟩ := info_parts Tryz.infoS2
  have hgl := (Array.getElem?_eq_some_iff.1 hg).1
  have hu : Tryz.prog.underlying 23 = some (.slice 9) := Tryz.underlying23
  by_cases h0 : ss = []
  · subst h0
    refine ⟨.slice (some ⟨g, 0, none⟩) 0 0, w, ?_, ⟨by simp, by simp, _, _, rfl, Or.inl rfl⟩, ⟨rfl, rfl, rfl, Nat.le_refl _, fun _ _ _ => rfl⟩⟩
    cases ak with
    | none => simp [Builtin.append_, run_underlying hu, sizeOf, typeInfo, hi, Builtin.lenOf, Builtin.firstCells, loadCells, loadCellsFrom, storeCells, Result.andThen]
    | some a => simp [Builtin.append_, run_underlying hu, sizeOf, typeInfo, hi, Builtin.lenOf, Builtin.firstCells, loadCells, loadCellsFrom, storeCells, Result.andThen]
  · have hpos : 0 < ss.length := List.length_pos_iff.2 h0
    obtain ⟨b, o, _, rfl, _⟩ := hv.cell hpos
    have hown : w.ownsRow g 9 1 (.slice (some ⟨g, 0, none⟩) 0 0) 0 [] := ⟨by simp, .inr ⟨g, 0, #[], rfl, Nat.le_refl _, hg, Nat.le_refl _, Nat.zero_le _, by simp, by simp⟩⟩
    have hnews : ∀ j u, (ss.map Value.string)[j]? = some u → w.cell? ((⟨b, o, none⟩ : Addr).add j) = some u := by
      intro j u hj
      rw [List.getElem?_map, Option.map_eq_some_iff] at hj
      obtain ⟨s, hs, rfl⟩ := hj
      have hjl := (List.getElem?_eq_some_iff.1 hs).1
      obtain ⟨b', o', s', e', _, hs', _, hc⟩ := hv.cell hjl
      cases e'
      rw [hs] at hs'
      cases hs'
      have hadd : (⟨b, o, none⟩ : Addr).add j = ⟨b, o + j, none⟩ := by unfold Addr.add; split <;> simp_all
      rw [hadd]
      exact hc
    obtain ⟨v', w', hr, ho, hgr, _, hat⟩ := run_append_own_at (P := Tryz.prog) w g 23 ty 9 i0 (.string ByteArray.empty) 1 16 hu hi hz0 hz1 hz2 rfl (by decide) _ 0 [] hown ⟨b, o, none⟩ ss.length ck (ss.map Value.string) (by simp) hnews
      (fun u hu => by obtain ⟨s, _, rfl⟩ := List.mem_map.1 hu; rfl) (by unfold maxLen; omega) (by omega) (by omega)
    rw [Nat.zero_add, List.nil_append] at ho
    refine ⟨v', w', hr, ?_, hgr⟩
    obtain ⟨_, h2, _⟩ := hv
    obtain ⟨q1, q2, a, cap, hv', hq⟩ := strsOwn_of_row ho rfl (by omega) h2
    refine ⟨q1, q2, a, cap, hv', ?_⟩
    rcases hq with hq | ⟨b', n', f', _, ha', hr'⟩
    · exact absurd hq h0
    · refine Or.inr ⟨b', n', f', ?_, ha', hr'⟩
      have hob : v'.ownBlock = some b' := by rw [hv', ha']; rfl
      rw [hob] at hat
      rcases hat with h | h
      · exact Or.inl (Option.some.inj h)
      · exact Or.inr (Option.some.inj h)
end Go.Proofs.YtoangpfmjohhmaaGreatDoor

/- markText: the text of a mark. -/
namespace Go.Proofs.YtoangpfmjohhmaaGreatDoor
open Go.RowKit Go.Deep

theorem digit_string (m : Nat) (w : World) : (convert 22 9 (.slice (some ⟨w.heap.size, 0, none⟩) 1 1)).run Tryz.prog (w.alloc (.cells #[.int .u8 (48 + (m : Int) % 10)] 5)) =
    .ok (.string ⟨#[dg m]⟩) (w.alloc (.cells #[.int .u8 (48 + (m : Int) % 10)] 5)) := by
  refine run_convert_bytes_back (P := Tryz.prog) (w.alloc (.cells #[.int .u8 (48 + (m : Int) % 10)] 5)) 22 9 5 ⟨w.heap.size, 0, none⟩ 1 [dg m] Tryz.underlying22 Tryz.underlying5 Tryz.underlying9 (fun j hj => ?_)
  obtain rfl : j = 0 := by simpa using hj
  have h0 : (⟨w.heap.size, 0, none⟩ : Addr).add 0 = ⟨w.heap.size, 0, none⟩ := by simp [Addr.add]
  rw [h0]
  simp [dg_nat]

set_option maxRecDepth 100000 in
set_option maxHeartbeats 400000 in
theorem markText_any (k : Nat) (w : World) (h0 : 1 ≤ k) (h1 : k ≤ 1099511627776) :
    Calls Tryz.prog 67 #[.int .i64 (k : Int)] w fun e w' => e = .returned (.string (mt k)) ∧ Below w.heap.size w w' := by
  go_enter Tryz.func67, Tryz.ntmps67
  go_wp2_with fail
  go_loopw [0, 3] (fun kk out wr => ∃ (m : Nat) (o : ByteArray), kk = .int .i64 (m : Int) ∧ out = .string o ∧ m + o.size ≤ k ∧ Hid (mtGo (k + 1) k ByteArray.empty = mtGo (k + 1) m o) ∧ Below w.heap.size w wr) (fun kk _ _ => (intOf kk).toNat)
  case atStart => exact ⟨k, ByteArray.empty, rfl, rfl, by show k + 0 ≤ k; omega, rfl, Below.refl _ _⟩
  case round =>
    obtain ⟨m, o, rfl, rfl, hm, hfin, hbel⟩ := hrel
    by_cases hpos : 0 < m
    · have hst : Hid (_ = _) := mtGo_step (f := k + 1) o (by omega) hpos
      have hcv := digit_string m wr
      go_wp2_with fail
      go_roundw
      case rel =>
        refine ⟨m / 10, { data := #[dg m] } ++ o, by go_num, rfl, ?_, by rw [hfin.out, hst.out]; exact rfl, hbel.alloc hbel.size _⟩
        rw [ByteArray.size_append]
        have h1 : (ByteArray.mk #[dg m]).size = 1 := rfl
        omega
      case measure => simp [intOf]; omega
    · obtain rfl : m = 0 := by omega
      go_wp2_with fail
      go_ret
      refine ⟨?_, hbel⟩
      rw [mt, hfin.out]
      rfl
end Go.Proofs.YtoangpfmjohhmaaGreatDoor

/- markStringS, markValS, markVal: marks are written into a tree that owns its memory. -/
namespace Go.Proofs.YtoangpfmjohhmaaGreatDoor
open Go.RowKit Go.Deep

set_option maxRecDepth 100000 in
set_option maxHeartbeats 400000 in
theorem markStringS_any (S : Nat → Prop) (ss : List ByteArray) (v : Value) (k : Nat) (w : World) (hv : StrsOwn S w v ss) (h0 : 1 ≤ k) (h1 : k + ss.length ≤ 1099511627776) :
    Calls Tryz.prog 56 #[v, .int .i64 (k : Int)] w fun e w' => e = .returned (.int .i64 ((k + ss.length : Nat) : Int)) ∧ StrsOwn S w' v (markStrs ss k) ∧ Turn S w w' := by
  obtain ⟨hlen, hsz, a, cap, rfl, h3⟩ := hv
  rcases h3 with rfl | ⟨b, n, f, hB, rfl, hln, hrow, hc⟩
  · go_enter Tryz.func56, Tryz.ntmps56
    go_wp2_with fail
    go_loopw [1, 5] (fun kk i wr => kk = .int .i64 (k : Int) ∧ i = .int .i64 0 ∧ wr = w) (fun _ _ _ => 0)
    case atStart => exact ⟨rfl, rfl, rfl⟩
    case round =>
      obtain ⟨rfl, rfl, rfl⟩ := hrel
      go_wp2_with fail
      go_ret
      exact ⟨rfl, ⟨hlen, hsz, a, cap, rfl, Or.inl rfl⟩, Turn.refl _ _⟩
  · have HC : Hid (∀ i s, ss[i]? = some s → f i = .string s) := hc
    clear hc
    go_enter Tryz.func56, Tryz.ntmps56
    go_wp2_with fail
    go_loopw [1, 5] (fun kk i wr => ∃ (m : Nat) (g : Nat → Value), m ≤ ss.length ∧ i = .int .i64 (m : Int) ∧ kk = .int .i64 ((k + m : Nat) : Int) ∧ wr.rowIs b 9 n g ∧ Hid (∀ j s, j < m → (markStrs ss k)[j]? = some s → g j = .string s) ∧ Turn S w wr)
      (fun _ i _ => ss.length - (intOf i).toNat)
    case atStart => exact ⟨0, f, Nat.zero_le _, rfl, rfl, hrow, fun j s hj => by omega, Turn.refl _ _⟩
    case round =>
      clear hrow
      obtain ⟨m, g, hm, rfl, rfl, hrow, hg, htu⟩ := hrel
      by_cases hml : m < ss.length
      · go_wp2_with fail
        refine (markText_any (k + m) wr (by omega) (by omega)).mono ?_
        rintro e w1 ⟨rfl, hb1⟩
        have hr1 := hrow.of_block (hb1.block b hrow.lt)
        have hc1 := hr1.cell (i := m) (by omega)
        have hf1 := hr1.frozen m
        have HR : Hid ((w1.setCell ⟨b, m, none⟩ (.string (mt (k + m)))).rowIs b 9 n (fun j => if j = m then .string (mt (k + m)) else g j) ∧ Turn S w (w1.setCell ⟨b, m, none⟩ (.string (mt (k + m))))) :=
          ⟨hr1.set m _, (htu.trans (Turn.of_below hb1)).set hB _⟩
        clear hr1 hrow htu hb1
        go_wp2_with fail
        go_roundw
        case rel =>
          refine ⟨m + 1, _, by omega, by go_num, by go_num, HR.out.1, fun j s hj hs => ?_, HR.out.2⟩
          by_cases e : j = m
          · subst e
            rw [markStrs_get ss k j s hs]
            simp
          · simp only [if_neg e]
            exact hg.out j s (by omega) hs
        case measure => simp [intOf]; omega
      · obtain rfl : m = ss.length := by omega
        go_wp2_with fail
        go_ret
        refine ⟨rfl, ⟨by rw [markStrs_length]; exact hlen, fun s hs => ?_, some ⟨b, 0, none⟩, cap, by rw [markStrs_length], Or.inr ⟨b, n, g, hB, rfl, by rw [markStrs_length]; exact hln, hrow, fun j s hs => ?_⟩⟩, htu⟩
        · obtain ⟨j, hj⟩ := List.getElem?_of_mem hs
          have hjl := (List.getElem?_eq_some_iff.1 hj).1
          rw [markStrs_length] at hjl
          rw [markStrs_get ss k j s hj]
          have := mt_size (k + j)
          omega
        · have hjl := (List.getElem?_eq_some_iff.1 hs).1
          rw [markStrs_length] at hjl
          exact hg.out j s hjl hs

/-- What markValS does with trees of this depth. -/
def MarkVals (d : Nat) : Prop := ∀ (S : Nat → Prop) (xs : List (Tr d)) (v : Value) (k : Nat) (w : World), RowOwn w (fun P x u => ValOwn w d P x u) S v xs → Within S w → 1 ≤ k → k + (xs.map (wtT d)).sum ≤ 1099511627776 →
    Calls Tryz.prog 57 #[v, .int .i64 (k : Int)] w fun e w' => e = .returned (.int .i64 (((markL (markT d) xs k).2 : Nat) : Int)) ∧ RowOwn w' (fun P x u => ValOwn w' d P x u) S v (markL (markT d) xs k).1 ∧ Turn S w w'

set_option maxRecDepth 100000 in
set_option maxHeartbeats 400000 in
theorem markValS_nil (d : Nat) (S : Nat → Prop) (a : Option Addr) (cap k : Nat) (w : World) :
    Calls Tryz.prog 57 #[.slice a 0 cap, .int .i64 (k : Int)] w fun e w' => e = .returned (.int .i64 (((markL (markT d) [] k).2 : Nat) : Int)) ∧ RowOwn w' (fun P x u => ValOwn w' d P x u) S (.slice a 0 cap) (markL (markT d) [] k).1 ∧ Turn S w w' := by
  go_enter Tryz.func57, Tryz.ntmps57
  go_wp2_with fail
  go_loopw [1, 5] (fun kk i wr => kk = .int .i64 (k : Int) ∧ i = .int .i64 0 ∧ wr = w) (fun _ _ _ => 0)
  case atStart => exact ⟨rfl, rfl, rfl⟩
  case round =>
    obtain ⟨rfl, rfl, rfl⟩ := hrel
    go_wp2_with fail
    go_ret
    exact ⟨rfl, ⟨by simp [markL], a, cap, rfl, Or.inl rfl⟩, Turn.refl _ _⟩

/-- The row as it is when the first m things have their marks. -/
structure MarkTo {d : Nat} (b n : Nat) (P : Nat → Nat → Prop) (xs : List (Tr d)) (k : Nat) (w : World) (m : Nat) (g : Nat → Value) : Prop where
  row : w.rowIs b 26 n g
  done : ∀ j x, j < m → xs[j]? = some x → ValOwn w d (P j) (markT d x (markTo (markT d) xs k j)).1 (.agg #[g (j * 5), g (j * 5 + 1), g (j * 5 + 2), g (j * 5 + 3), g (j * 5 + 4)])
  rest : ∀ j x, m ≤ j → xs[j]? = some x → ValOwn w d (P j) x (.agg #[g (j * 5), g (j * 5 + 1), g (j * 5 + 2), g (j * 5 + 3), g (j * 5 + 4)])

set_option maxRecDepth 100000 in
set_option maxHeartbeats 1000000 in
theorem markValS_any : ∀ (d : Nat), MarkVals d
  | 0 => by
    intro S xs v k w hv hS h0 h1
    obtain ⟨hlen, a, cap, rfl, h3⟩ := hv
    rcases h3 with rfl | ⟨b, n, f, P, _, _, _, _, _, _, hc⟩
    · exact markValS_nil 0 S a cap k w
    · cases xs with
      | nil => exact markValS_nil 0 S a cap k w
      | cons x r => exact (hc 0 x rfl).elim
  | d + 1 => by
    intro S xs v k w hv hS h0 h1
    have ih := markValS_any d
    obtain ⟨hlen, a, cap, rfl, h3⟩ := hv
    rcases h3 with rfl | ⟨b, n, f, P, hB, rfl, hln, hrow, hP, hdis, hc⟩
    · exact markValS_nil (d + 1) S a cap k w
    have H0 : Hid (MarkTo b n P xs k w 0 f) := ⟨hrow, fun j x hj => by omega, fun j x _ hx => hc j x hx⟩
    clear hrow hc
    go_enter Tryz.func57, Tryz.ntmps57
    go_wp2_with fail
    go_loopw [1, 5] (fun kk i wr => ∃ (m : Nat) (g : Nat → Value), m ≤ xs.length ∧ i = .int .i64 (m : Int) ∧ kk = .int .i64 ((markTo (markT (d + 1)) xs k m : Nat) : Int) ∧ Hid (MarkTo b n P xs k wr m g) ∧ Turn S w wr)
      (fun _ i _ => xs.length - (intOf i).toNat)
    case atStart => exact ⟨0, f, Nat.zero_le _, rfl, by rw [markTo_zero], H0, Turn.refl _ _⟩
    case round =>
      clear H0
      obtain ⟨m, g, hm, rfl, rfl, hmk, htu⟩ := hrel
      by_cases hml : m < xs.length
      · obtain ⟨x, hx⟩ : ∃ x, xs[m]? = some x := ⟨xs[m], List.getElem?_eq_getElem hml⟩
        obtain ⟨vk, vl, Sk, Sl, hag, i1, i2, i3, hk, hl, s1, s2, s3⟩ := hmk.out.rest m x (Nat.le_refl _) hx
        have hkl := markTo_le xs k m
        have hks := markTo_le xs k (m + 1)
        have hst := markTo_step (markT (d + 1)) xs k m x hx
        rw [markT_to] at hst
        have hw := hst.symm
        rw [wtT] at hw
        have hrow := hmk.out.row
        have c0 := hrow.cell (i := m * 5) (by omega)
        have c1 := hrow.cell (i := m * 5 + 1) (by omega)
        have c2 := hrow.cell (i := m * 5 + 2) (by omega)
        have c3 := hrow.cell (i := m * 5 + 3) (by omega)
        have c4 := hrow.cell (i := m * 5 + 4) (by omega)
        have z0 := hrow.frozen (m * 5)
        have z1 := hrow.frozen (m * 5 + 1)
        have z2 := hrow.frozen (m * 5 + 2)
        generalize hK : markTo (markT (d + 1)) xs k m = K at *
        have HW := hide hw
        have HS := hide hst
        have HK := hide hK
        clear hw hst hK
        have e3 : g (m * 5 + 3) = vk ∧ g (m * 5 + 4) = vl := by
          simp at hag
          exact ⟨hag.2.2.2.1, hag.2.2.2.2⟩
        rw [e3.1] at c3
        rw [e3.2] at c4
        obtain ⟨ak, ck, rfl, hkn⟩ := hk.open'
        obtain ⟨al, cl, rfl, hln2⟩ := hl.open'
        have E3 : Hid _ := e3
        have hwt := HS.out
        rw [wtT] at hwt
        have hb3 : K + 3 + x.keys.length + (x.list.map (wtT d)).sum ≤ 1099511627776 := by omega
        have hPw : ∀ j c, P j c → c < wr.heap.size ∧ c ≠ b := fun j c hc => ⟨Nat.lt_of_lt_of_le (hS c (hP j c hc).1) htu.size, (hP j c hc).2⟩
        clear hwt e3 hag hks hkl
        go_wp2_with fail
        rw [show ((K : Int) + 1 + 1) = ((K + 2 : Nat) : Int) by omega]
        refine (markText_any (K + 2) _ (by omega) (by omega)).mono ?_
        rintro e w1 ⟨rfl, hb1⟩
        have hr2 := (hrow.set (m * 5) (.int .i64 (K : Int))).set (m * 5 + 1) (.int .i64 ((K : Int) + 1))
        have hr1 := hr2.of_block (hb1.block b hr2.lt)
        have hr3 := hr1.set (m * 5 + 2) (.string (mt (K + 2)))
        have d2 := hr1.cell (i := m * 5 + 2) (by omega)
        have d3 := hr1.cell (i := m * 5 + 3) (by omega)
        have d4 := hr1.cell (i := m * 5 + 4) (by omega)
        have y2 := hr1.frozen (m * 5 + 2)
        simp only [show ¬ m * 5 + 3 = m * 5 + 1 by omega, show ¬ m * 5 + 3 = m * 5 by omega, show ¬ m * 5 + 4 = m * 5 + 1 by omega, show ¬ m * 5 + 4 = m * 5 by omega, if_false, E3.out.1, E3.out.2] at d3 d4
        have hT3 : Turn S w (w1.setCell ⟨b, m * 5 + 2, none⟩ (.string (mt (K + 2)))) := ((((htu.set (a := ⟨b, m * 5, none⟩) hB _).set (a := ⟨b, m * 5 + 1, none⟩) hB _).trans (Turn.of_below hb1))).set (a := ⟨b, m * 5 + 2, none⟩) hB _
        have hs3 : ∀ R : Nat → Prop, (∀ c, R c → c < wr.heap.size ∧ c ≠ b) → Same R wr (w1.setCell ⟨b, m * 5 + 2, none⟩ (.string (mt (K + 2)))) := fun R hR c hc => by
          have h := hR c hc
          rw [Below.heap_setCell _ _ _ _ (by exact h.2), hb1.block c (by rw [size_setCell1, size_setCell1]; exact h.1), Below.heap_setCell _ _ _ _ (by exact h.2), Below.heap_setCell _ _ _ _ (by exact h.2)]
        have hsz1 : wr.heap.size ≤ w1.heap.size := by
          have := hb1.size
          rw [size_setCell1, size_setCell1] at this
          exact this
        have HR3 := hide hr3
        have HT3 := hide hT3
        have HS3 := hide hs3
        have hk3 := hk.moved (hs3 Sk (fun c hc => hPw m c (s1 c hc))) (fun _ h => h)
        clear hr2 hr1 hr3 hT3 hs3 hb1 c0 c1 c2 c3 c4 z0 z1 z2 hrow
        go_wp2_with fail
        rw [show ((K : Int) + 2 + 1) = ((K + 3 : Nat) : Int) by omega]
        refine (markStringS_any Sk x.keys _ (K + 3) _ hk3 (by omega) (by omega)).mono ?_
        rintro e w4 ⟨rfl, hk4, ht4⟩
        have hbk : ¬ Sk b := fun h => (hPw m b (s1 b h)).2 rfl
        have hbl : ¬ Sl b := fun h => (hPw m b (s2 b h)).2 rfl
        have hr4 := HR3.out.of_block (ht4.block b HR3.out.lt hbk)
        have HT4 : Hid (Turn S w w4) := HT3.out.trans (ht4.mono (fun c hc => (hP m c (s1 c hc)).1))
        have hsz3 : wr.heap.size ≤ (w1.setCell ⟨b, m * 5 + 2, none⟩ (.string (mt (K + 2)))).heap.size := by
          rw [size_setCell1]
          have := hsz1
          omega
        have hs4 : ∀ R : Nat → Prop, (∀ c, R c → c < wr.heap.size ∧ c ≠ b) → (∀ c, R c → ¬ Sk c) → Same R wr w4 := fun R hR hn c hc => by
          rw [ht4.block c (Nat.lt_of_lt_of_le (hR c hc).1 hsz3) (hn c hc)]
          exact HS3.out R hR c hc
        have HS4 := hide hs4
        have hl4 : RowOwn w4 (fun P x u => ValOwn w4 d P x u) Sl (.slice al x.list.length cl) x.list := hl.same (hs4 Sl (fun c hc => hPw m c (s2 c hc)) (fun c hc hk => s3 c hk hc))
        have hW4 : Within Sl w4 := fun c hc => Nat.lt_of_lt_of_le (hPw m c (s2 c hc)).1 (Nat.le_trans hsz3 ht4.size)
        have hsz4 : wr.heap.size ≤ w4.heap.size := Nat.le_trans hsz3 ht4.size
        have HR4 := hide hr4
        have d4' := hr4.cell (i := m * 5 + 4) (by omega)
        simp only [show ¬ m * 5 + 4 = m * 5 + 2 by omega, show ¬ m * 5 + 4 = m * 5 + 1 by omega, show ¬ m * 5 + 4 = m * 5 by omega, if_false, E3.out.2] at d4'
        have HK4 := hide hk4
        clear hk4 ht4 hs4 HS3 HT3 HR3 hr4 hk3 d2 d3 d4 y2 hk hl hsz1 hsz3
        go_wp2_with fail
        rw [show ((K : Int) + 3 + (x.keys.length : Int)) = ((K + 3 + x.keys.length : Nat) : Int) by omega]
        refine (ih Sl x.list _ (K + 3 + x.keys.length) w4 hl4 hW4 (by omega) (by omega)).mono ?_
        rintro e w5 ⟨rfl, hl5, ht5⟩
        have HF : Hid (MarkTo b n P xs k w5 (m + 1) (put5 g (m * 5) (.int .i64 (K : Int)) (.int .i64 ((K : Int) + 1)) (.string (mt (K + 2))) (.slice ak x.keys.length ck) (.slice al x.list.length cl)) ∧ Turn S w w5) := by
          have hs5 : ∀ j, j ≠ m → Same (P j) wr w5 := fun j hj c hc => by
            have hn : ∀ c, P j c → ¬ P m c := fun c h1 h2 => hj (hdis j m c h1 h2)
            rw [ht5.block c (Nat.lt_of_lt_of_le (hPw j c hc).1 hsz4) (fun h => hn c hc (s2 c h))]
            exact HS4.out (P j) (fun c hc => hPw j c hc) (fun c hc hk => hn c hc (s1 c hk)) c hc
          have hoff : ∀ j i, j ≠ m → i < 5 → put5 g (m * 5) (.int .i64 (K : Int)) (.int .i64 ((K : Int) + 1)) (.string (mt (K + 2))) (.slice ak x.keys.length ck) (.slice al x.list.length cl) (j * 5 + i) = g (j * 5 + i) := fun j i hj hi => put5_off _ _ _ _ _ _ _ _ (by omega)
          refine ⟨⟨?_, fun j y hj hy => ?_, fun j y hj hy => ?_⟩, HT4.out.trans (ht5.mono (fun c hc => (hP m c (s2 c hc)).1))⟩
          · refine (HR4.out.of_block (ht5.block b HR4.out.lt hbl)).congr (fun j _ => ?_)
            unfold put5
            by_cases q0 : j = m * 5
            · simp [q0]
            by_cases q1 : j = m * 5 + 1
            · simp [q1]
            by_cases q2 : j = m * 5 + 2
            · simp [q2]
            by_cases q3 : j = m * 5 + 3
            · simp [q3, E3.out.1]
            by_cases q4 : j = m * 5 + 4
            · simp [q4, E3.out.2]
            simp [q0, q1, q2, q3, q4]
          · by_cases e : j = m
            · subst e
              rw [hx] at hy
              cases hy
              obtain ⟨p0, p1, p2, p3, p4⟩ := put5_at g (j * 5) (.int .i64 (K : Int)) (.int .i64 ((K : Int) + 1)) (.string (mt (K + 2))) (.slice ak x.keys.length ck) (.slice al x.list.length cl)
              rw [p0, p1, p2, p3, p4, HK.out]
              have hms := mt_size (K + 2)
              refine ⟨_, _, Sk, Sl, rfl, ⟨by show _ ≤ (K : Int); omega, by show (K : Int) ≤ _; omega⟩, ⟨by show _ ≤ (K : Int) + 1; omega, by show (K : Int) + 1 ≤ _; omega⟩, by show (mt (K + 2)).size < _; omega, ?_, hl5, s1, s2, s3⟩
              exact HK4.out.moved (fun c hc => ht5.block c (Nat.lt_of_lt_of_le (hPw j c (s1 c hc)).1 hsz4) (s3 c hc)) (fun _ h => h)
            · have := hmk.out.done j y (by omega) hy
              rw [hoff j 1 e (by omega), hoff j 2 e (by omega), hoff j 3 e (by omega), hoff j 4 e (by omega), show put5 g (m * 5) _ _ _ _ _ (j * 5) = g (j * 5) from hoff j 0 e (by omega)]
              exact this.same (hs5 j e)
          · have e : j ≠ m := by omega
            have := hmk.out.rest j y (by omega) hy
            rw [hoff j 1 e (by omega), hoff j 2 e (by omega), hoff j 3 e (by omega), hoff j 4 e (by omega), show put5 g (m * 5) _ _ _ _ _ (j * 5) = g (j * 5) from hoff j 0 e (by omega)]
            exact this.same (hs5 j e)
        have HM : Hid ((markL (markT d) x.list (K + 3 + x.keys.length)).2 = markTo (markT (d + 1)) xs k (m + 1)) := by
          show _ = _
          rw [markL_to (markT_to d), ← HW.out]
          omega
        rw [HM.out]
        clear hl5 ht5 hmk HK4 HS4 HT4 HR4 d4' hl4 hW4
        go_wp2_with fail
        go_roundw
        case rel => exact ⟨m + 1, _, by omega, by go_num, rfl, HF.out.1, HF.out.2⟩
        case measure => simp [intOf]; omega
      · obtain rfl : m = xs.length := by omega
        have HM : Hid (markTo (markT (d + 1)) xs k xs.length = (markL (markT (d + 1)) xs k).2) := markTo_all _ _ _
        rw [HM.out]
        go_wp2_with fail
        go_ret
        refine ⟨rfl, ⟨by rw [markL_length]; exact hlen, some ⟨b, 0, none⟩, cap, by rw [markL_length], Or.inr ⟨b, n, g, P, hB, rfl, by rw [markL_length]; exact hln, hmk.out.row, hP, hdis, fun j y hy => ?_⟩⟩, htu⟩
        have hj := (List.getElem?_eq_some_iff.1 hy).1
        rw [markL_length] at hj
        have hg := markL_get (markT (d + 1)) xs k j xs[j] (List.getElem?_eq_getElem hj)
        rw [hy] at hg
        cases hg
        exact hmk.out.done j _ hj (List.getElem?_eq_getElem hj)

set_option maxRecDepth 100000 in
set_option maxHeartbeats 1000000 in
theorem markVal_any (d : Nat) (S : Nat → Prop) (t : Tr (d + 1)) (v : Value) (k : Nat) (w : World) (hv : ValOwn w (d + 1) S t v) (hS : Within S w) (h0 : 1 ≤ k) (h1 : k + (wtT (d + 1) t) ≤ 1099511627776) :
    Calls Tryz.prog 22 #[v, .int .i64 (k : Int)] w fun e w' => e = .returned (.int .i64 (((markTop d t k).2 : Nat) : Int)) ∧ ValOwn w' (d + 1) S (markTop d t k).1 v ∧ Turn S w w' := by
  obtain ⟨vk, vl, Sk, Sl, rfl, i1, i2, i3, hk, hl, s1, s2, s3⟩ := hv
  obtain ⟨ak, ck, rfl, hkl⟩ := hk.open'
  obtain ⟨al, cl, rfl, hll⟩ := hl.open'
  rw [wtT] at h1
  have hA := below_alloc1 w (.cells #[.int .i64 t.kind, .int .i64 t.num, .string t.str, .slice ak t.keys.length ck, .slice al t.list.length cl] 26)
  have k0 := Blk5.new w 26 (.int .i64 t.kind) (.int .i64 t.num) (.string t.str) (.slice ak t.keys.length ck) (.slice al t.list.length cl)
  go_enter Tryz.func22, Tryz.ntmps22
  go_wp2_with fail
  refine (markStringS_any Sk t.keys _ k _ (hk.moved (fun b hb => hA.block b (hS b (s1 b hb))) (fun _ h => h)) h0 (by omega)).mono ?_
  rintro e w1 ⟨rfl, hk1, ht1⟩
  replace k0 := k0.of_block (ht1.block _ k0.lt (fun h => by have := hS _ (s1 _ h); omega))
  obtain ⟨x0, x1, x2, x3, x4⟩ := k0.cell
  have hT1 : Turn S w w1 := (Turn.of_below hA).trans (ht1.mono s1)
  have hl1 : RowOwn w1 (fun P x u => ValOwn w1 d P x u) Sl (.slice al t.list.length cl) t.list := hl.same (fun b hb => by
    rw [ht1.block b (Nat.lt_of_lt_of_le (hS b (s2 b hb)) hA.size) (fun h => s3 b h hb), hA.block b (hS b (s2 b hb))])
  have hW1 : Within Sl w1 := fun b hb => Nat.lt_of_lt_of_le (hS b (s2 b hb)) hT1.size
  have HK1 := hide hk1
  have HT1 := hide hT1
  have hsz := hT1.size
  clear hk1 ht1 hT1 k0 hA hk hl
  go_wp2_with fail
  rw [show ((k : Int) + (t.keys.length : Int)) = ((k + t.keys.length : Nat) : Int) by omega]
  refine (markValS_any d Sl t.list _ (k + t.keys.length) w1 hl1 hW1 (by omega) (by omega)).mono ?_
  rintro e w2 ⟨rfl, hl2, ht2⟩
  have HF : Hid (ValOwn w2 (d + 1) S (markTop d t k).1 (.agg #[.int .i64 t.kind, .int .i64 t.num, .string t.str, .slice ak t.keys.length ck, .slice al t.list.length cl]) ∧ Turn S w w2) :=
    ⟨⟨_, _, Sk, Sl, rfl, i1, i2, i3, HK1.out.moved (fun b hb => ht2.block b (Nat.lt_of_lt_of_le (hS b (s1 b hb)) hsz) (s3 b hb)) (fun _ h => h), hl2, s1, s2, s3⟩, HT1.out.trans (ht2.mono s2)⟩
  clear hl2 ht2 HK1 HT1 x0 x1 x2 x3 x4 hl1 hW1
  go_wp2_with fail
  go_ret
  exact ⟨rfl, HF.out.1, HF.out.2⟩
end Go.Proofs.YtoangpfmjohhmaaGreatDoor
