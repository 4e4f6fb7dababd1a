/- Texts of the proof, put together by program: LPartO. -/
import Derived.Test.YtoangpfmjohhmaaGreatDoorP40
import Derived.Test.YtoangpfmjohhmaaGreatDoorP43
/- Lengths and keys: the facts that FnPartLen asks for. -/
namespace Go.Proofs.YtoangpfmjohhmaaGreatDoor
open Go.RowKit Go.Deep

theorem ordT_num {d : Nat} {i j : Int} (h : i < j) : ordT (d + 1) (numT d i) (numT d j) = -1 := by
  show orI (orI (cmpI 3 3) (orI (cmpI i j) (orI (cmpS ByteArray.empty ByteArray.empty) (ordL cmpS [] [])))) (ordL (ordT d) [] []) = -1
  have h1 : cmpI 3 3 = 0 := by decide
  have h2 : cmpI i j = -1 := if_pos h
  rw [h1, h2]
  rfl
theorem ordT_str {d : Nat} {s t : ByteArray} (h : ltB s t = true) : ordT (d + 1) (strT d s) (strT d t) = -1 := by
  show orI (orI (cmpI 4 4) (orI (cmpI 0 0) (orI (cmpS s t) (ordL cmpS [] [])))) (ordL (ordT d) [] []) = -1
  have h1 : cmpI 4 4 = 0 := by decide
  have h2 : cmpI 0 0 = 0 := by decide
  have h3 : cmpS s t = -1 := cmpS_lt h
  rw [h1, h2, h3]
  rfl
theorem keyTs_order {d : Nat} {t : Tr (d + 2)} (h : okT (d + 2) t = true ∧ 5 ≤ Nd.kind t) {q : Nat} {x y : Tr (d + 1)} (hx : (keyTs d t)[q]? = some x) (hy : (keyTs d t)[q + 1]? = some y) : ordT (d + 1) x y = -1 := by
  rcases kind_56 h with h5 | h6
  · have hk : keyTs d t = placesT d (Nd.list t).length := if_pos h5
    rw [hk] at hx hy
    have l1 := (List.getElem?_eq_some_iff.1 hx).1
    have l2 := (List.getElem?_eq_some_iff.1 hy).1
    rw [places_len] at l1 l2
    rw [places_at d _ _ l1] at hx
    rw [places_at d _ _ l2] at hy
    cases hx
    cases hy
    exact ordT_num (by omega)
  · have hk : keyTs d t = (Nd.keys t).map (strT d) := if_neg (by omega)
    rw [hk, List.getElem?_map] at hx hy
    obtain ⟨s, hs, rfl⟩ := Option.map_eq_some_iff.1 hx
    obtain ⟨u, hu, rfl⟩ := Option.map_eq_some_iff.1 hy
    refine ordT_str (keysGo_lt _ none (q + 1) u (keys_good h.1 h6) hu s ?_)
    have hq := (List.getElem?_eq_some_iff.1 hs).1
    rw [List.mem_iff_getElem?]
    exact ⟨q, by rw [List.getElem?_take]; simp [hs]⟩
theorem len_ok {d : Nat} {t : Tr (d + 1)} (h : (partLenT d t).2 = true) : Nd.kind (partLenT d t).1 = 3 ∧ 0 ≤ Nd.num (partLenT d t).1 := by
  unfold partLenT at h ⊢
  split at h
  · rename_i hok
    rw [if_pos hok]
    split at h
    · rename_i n hn
      refine ⟨rfl, ?_⟩
      show 0 ≤ n
      unfold lenT at hn
      split at hn
      · cases hn; omega
      · split at hn
        · cases hn; omega
        · split at hn
          · cases hn; omega
          · split at hn
            · cases hn; omega
            · cases hn
    · cases h
  · cases h
theorem len_45 {d : Nat} {t : Tr (d + 1)} (h : okT (d + 1) t = true) (h45 : Nd.kind t = 4 ∨ Nd.kind t = 5) : Nd.num (partLenT d t).1 = ((Nd.str t).size : Int) + ((Nd.list t).length : Int) := by
  rcases h45 with h4 | h5
  · have hl : lenT d t = some ((Nd.str t).size : Int) := by
      unfold lenT
      rw [if_neg (by omega), if_neg (by omega), if_pos h4]
    have h0 : Nd.list t = [] := okT_nolist h (by omega)
    unfold partLenT
    rw [if_pos h, hl, h0]
    show ((Nd.str t).size : Int) = _
    simp
  · rw [len_56 ⟨h, by omega⟩, row_self h h5]
    show ((Nd.list t).length : Int) = ((ByteArray.empty.size : Nat) : Int) + ((Nd.list t).length : Int)
    have : ByteArray.empty.size = 0 := rfl
    omega
theorem len_small {d : Nat} {t : Tr (d + 1)} (h : okT (d + 1) t = true) : ((Nd.str t).size : Int) ≤ 12 ∨ Nd.kind t ≠ 4 := by
  by_cases h4 : Nd.kind t = 4
  · exact Or.inl (by have := str_bounds h h4; omega)
  · exact Or.inr h4
theorem len_sum {d : Nat} {a b : Tr (d + 1)} (h : (partAddT d a b).2 = true) (hk : Nd.kind a = Nd.kind b) (h45 : Nd.kind a = 4 ∨ Nd.kind a = 5) :
    wrap64 (Nd.num (partLenT d a).1 + Nd.num (partLenT d b).1) = Nd.num (partLenT d (partAddT d a b).1).1 := by
  obtain ⟨ha, hb, _⟩ := add_ok h
  obtain ⟨k1, s1, l1, o1⟩ := add_len h hk h45
  rw [len_45 ha h45, len_45 hb (by omega), len_45 o1 (by omega)]
  have q1 := (okT_kinds ha).2.1
  have q2 := (okT_kinds hb).2.1
  have z1 : (Nd.str a).size ≤ 12 := by
    rcases h45 with h4 | h5
    · exact str_bounds ha h4
    · rw [row_self ha h5]; show ByteArray.empty.size ≤ 12; decide
  have z2 : (Nd.str b).size ≤ 12 := by
    rcases h45 with h4 | h5
    · exact str_bounds hb (by omega)
    · rw [row_self hb (by omega)]; show ByteArray.empty.size ≤ 12; decide
  unfold wrap64
  omega
theorem ordI_at' {d : Nat} {w W : World} {t t' : Tr d} {v v' : Value} (h : ValAt (FreshP w W) W d t v) (h' : ValAt (FreshP w W) W d t' v') (hs : wtT d t ≤ 10000) (ho : ordT d t t' = -1) : Calls Tryz.prog 18 #[v, v'] W fun e w' => e = .returned (.int .i64 (-1)) ∧ Below W.heap.size W w' := by
  have hc := ordI_at h h' hs
  rw [ho] at hc
  exact hc
theorem idx_facts (q k7 : Nat) (h : q + 1 < k7) (h60 : k7 ≤ 60) : (q : Int) + 1 < (k7 : Int) ∧ (q : Int) < (k7 : Int) ∧ wrap64 ((q : Int) + 1 - 1) = (q : Int) ∧ ((q : Int) + 1).toNat = q + 1 ∧ ¬ ((q : Int) + 1 < 0) ∧ wrap64 (q : Int) = (q : Int) ∧ q < k7 ∧ (0 : Int) ≤ (q : Int) + 1 ∧ wrap64 ((q : Int) + 1 + 1) = (q : Int) + 1 + 1 ∧ (q + 1) + 1 ≤ k7 := by
  refine ⟨by omega, by omega, by unfold wrap64; omega, by omega, by omega, by unfold wrap64; omega, by omega, by omega, by unfold wrap64; omega, by omega⟩
theorem idx_meas (q k7 : Nat) (h : q + 1 < k7) : k7 + 1 - ((q : Int) + 1 + 1).toNat < k7 + 1 - ((q : Int) + 1).toNat := by omega
theorem idx_out (q k7 : Nat) (h : ¬ q + 1 < k7) : ¬ ((q : Int) + 1 < (k7 : Int)) := by omega
end Go.Proofs.YtoangpfmjohhmaaGreatDoor
