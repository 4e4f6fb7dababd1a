/- The program's own trees, their maps in any order: each is just one tree. -/
import Derived.Test.YtbcafaomfaainaaGreatDoorWImplE
import Derived.Test.YtbcafaomfaainaaGreatDoorPureOk
import Derived.Test.YtbcafaomfaainaaGreatDoorWOwn
namespace Go.Proofs.YtbcafaomfaainaaGreatDoor
open Go.RowKit Go.Deep

/-- The entries of a map are these pairs, in this order. -/
def MapG {α : Type} (At : α → Value → Prop) (es : Array MapEntry) (ps : List (ByteArray × α)) : Prop :=
  es.size = ps.length ∧ ∀ (i : Nat) (k : ByteArray) (x : α), ps[i]? = some (k, x) → ∃ u, es[i]? = some ⟨.string k, u, i⟩ ∧ At x u

/-- One of the program's own trees that lies in blocks of S: the one that val tells. -/
def TreeG (S : Nat → Prop) (w : World) : (d : Nat) → Tr d → Value → Prop
  | 0, _, _ => False
  | d + 1, t, v =>
    (∃ k : Int, (k = 0 ∨ k = 1 ∨ k = 2) ∧ t = (Nd.mk k 0 ByteArray.empty [] [] : Nd (Tr d)) ∧ v = .iface 114 (.agg #[.int .i64 k])) ∨
    (∃ n : Int, I64 n ∧ t = (Nd.mk 3 n ByteArray.empty [] [] : Nd (Tr d)) ∧ v = .iface 116 (.agg #[.int .i64 n])) ∨
    (∃ s : ByteArray, s.size ≤ 1000 ∧ t = (Nd.mk 4 0 s [] [] : Nd (Tr d)) ∧ v = .iface 74 (.agg #[.string s])) ∨
    (∃ (xs : List (Tr d)) (sv : Value), xs.length ≤ 1000 ∧ t = (Nd.mk 5 0 ByteArray.empty [] xs : Nd (Tr d)) ∧ v = .iface 66 (.agg #[sv]) ∧ Row1At S w (TreeG S w d) sv xs) ∨
    (∃ (keys : List ByteArray) (xs : List (Tr d)) (ps : List (ByteArray × Tr d)) (r : Nat) (es : Array MapEntry), xs.length ≤ 1000 ∧ keysB keys = true ∧ keys.length = xs.length ∧ ps.Perm (keys.zip xs) ∧
      t = (Nd.mk 6 0 ByteArray.empty keys xs : Nd (Tr d)) ∧ v = .iface 61 (.agg #[.map (some r)]) ∧ S r ∧ w.heap[r]? = some (.map es ps.length) ∧ MapG (TreeG S w d) es ps)

theorem MapG.moved {α : Type} {At At' : α → Value → Prop} {es : Array MapEntry} {ps : List (ByteArray × α)} (h : MapG At es ps) (hi : ∀ x u, At x u → At' x u) : MapG At' es ps :=
  ⟨h.1, fun i k x hp => by obtain ⟨u, e, hu⟩ := h.2 i k x hp; exact ⟨u, e, hi _ _ hu⟩⟩
theorem TreeG.moved {S S' : Nat → Prop} {w w' : World} (hs : Same S w w') (hS : ∀ b, S b → S' b) : ∀ (d : Nat) (t : Tr d) (v : Value), TreeG S w d t v → TreeG S' w' d t v
  | 0, _, _, h => h
  | d + 1, t, v, h => by
    rcases h with h | h | h | ⟨xs, sv, h1, h2, h3, hr⟩ | ⟨keys, xs, ps, r, es, h1, h2, h3, h4, h5, h6, hr, hm, he⟩
    · exact Or.inl h
    · exact Or.inr (Or.inl h)
    · exact Or.inr (Or.inr (Or.inl h))
    · exact Or.inr (Or.inr (Or.inr (Or.inl ⟨xs, sv, h1, h2, h3, hr.moved hs hS (fun x u hx => TreeG.moved hs hS d x u hx)⟩)))
    · exact Or.inr (Or.inr (Or.inr (Or.inr ⟨keys, xs, ps, r, es, h1, h2, h3, h4, h5, h6, hS _ hr, (hs r hr).trans hm, he.moved (fun x u hx => TreeG.moved hs hS d x u hx)⟩)))
theorem TreeG.same {S : Nat → Prop} {w w' : World} {d : Nat} {t : Tr d} {v : Value} (h : TreeG S w d t v) (hs : Same S w w') : TreeG S w' d t v := TreeG.moved hs (fun _ h => h) d t v h
theorem TreeG.mono {S S' : Nat → Prop} {w : World} {d : Nat} {t : Tr d} {v : Value} (h : TreeG S w d t v) (hS : ∀ b, S b → S' b) : TreeG S' w d t v := TreeG.moved (Same.refl _ _) hS d t v h
/-- It is one cell. -/
theorem TreeG.iface {S : Nat → Prop} {w : World} {d : Nat} {t : Tr d} {v : Value} (h : TreeG S w d t v) : ∃ T u, v = .iface T u := by
  cases d with
  | zero => exact h.elim
  | succ d =>
    rcases h with ⟨k, h1, h2, h3⟩ | ⟨k, h1, h2, h3⟩ | ⟨k, h1, h2, h3⟩ | ⟨xs, sv, h1, h2, h3, hr⟩ | ⟨keys, xs, ps, r, es, h1, h2, h3, h4, h5, h6, hr, hm, he⟩
    · exact ⟨_, _, h3⟩
    · exact ⟨_, _, h3⟩
    · exact ⟨_, _, h3⟩
    · exact ⟨_, _, h3⟩
    · exact ⟨_, _, h6⟩

theorem bytes_nil {s : ByteArray} (h : s.toList = []) : s = ByteArray.empty := by
  obtain ⟨⟨l⟩⟩ := s
  simp [ByteArray.toList_eq] at h
  subst h
  rfl
theorem len_le_many {d : Nat} {deep : Int} : ∀ (xs : List (Tr d)), xs.length ≤ (xs.map (fun x => manyT d x deep)).sum
  | [] => Nat.le_refl _
  | x :: r => by
    have := len_le_many (deep := deep) r
    have h1 : 1 ≤ manyT d x deep := by
      cases d with
      | zero => exact Empty.elim x
      | succ d => rw [manyT]; omega
    simp only [List.length_cons, List.map_cons, List.sum_cons]
    omega
theorem many_mem {d : Nat} {deep : Int} {x : Tr d} : ∀ {xs : List (Tr d)}, x ∈ xs → manyT d x deep ≤ (xs.map (fun x => manyT d x deep)).sum
  | y :: r, h => by
    simp only [List.map_cons, List.sum_cons]
    cases h with
    | head => omega
    | tail _ h => have := many_mem (deep := deep) h; omega
theorem Row1At.mem {α : Type} {S : Nat → Prop} {w : World} {At At' : α → Value → Prop} {v : Value} {xs : List α} (h : Row1At S w At v xs) (hi : ∀ x u, x ∈ xs → At x u → At' x u) : Row1At S w At' v xs := by
  obtain ⟨h1, a, cap, hv, h3⟩ := h
  refine ⟨h1, a, cap, hv, ?_⟩
  rcases h3 with h3 | ⟨b, o, hB, ha, hc⟩
  · exact Or.inl h3
  · refine Or.inr ⟨b, o, hB, ha, fun i x hx => ?_⟩
    obtain ⟨u, e0, e1⟩ := hc i x hx
    exact ⟨u, e0, hi _ _ (List.mem_of_getElem? hx) e1⟩

/-- A tree of right form, as it was made. -/
theorem treeG_of {S : Nat → Prop} {w : World} : ∀ (d : Nat) (t : Tr d) (deep : Int) (u : Value), formT d t deep = true → manyT d t deep ≤ 60 → TreeAt S w d t u → TreeG S w d t u
  | 0, _, _, _, h, _, _ => by simp [formT] at h
  | d + 1, t, deep, u, hf, hm, hu => by
    obtain ⟨kind, num, str, keys, list⟩ := t
    have ih := treeG_of (S := S) (w := w) d
    cases hb : headBad kind num str keys.length list.length deep with
    | true => rw [formT_bad hb] at hf; cases hf
    | false =>
    rw [formT_good hb] at hf
    obtain ⟨g0, g1, g2, g3, g4⟩ := headBad_iff.1 hb
    have hmany : manyT (d + 1) (Nd.mk kind num str keys list) deep = 1 + (if 0 < deep then (list.map (fun x => manyT d x (deep - 1))).sum else 0) := rfl
    rw [hmany, if_pos (by omega)] at hm
    have hll := len_le_many (deep := deep - 1) list
    rcases hu with ⟨hk, rfl⟩ | ⟨hk, rfl⟩ | ⟨hk, rfl⟩ | ⟨hk, sv, rfl, hr⟩ | ⟨hk, r, es, rfl, hr, hobj, he⟩
    · have hk' : kind = 0 ∨ kind = 1 ∨ kind = 2 := hk
      refine Or.inl ⟨kind, hk', ?_, rfl⟩
      obtain rfl := g1 (by omega)
      obtain rfl := bytes_nil (g2 (by omega))
      obtain rfl := List.eq_nil_of_length_eq_zero (g3 (by omega))
      obtain rfl := List.eq_nil_of_length_eq_zero (g4 (by omega))
      rfl
    · have hk' : kind = 3 := hk
      subst hk'
      simp at hf
      refine Or.inr (Or.inl ⟨num, ⟨by omega, by omega⟩, ?_, rfl⟩)
      obtain rfl := bytes_nil (g2 (by omega))
      obtain rfl := List.eq_nil_of_length_eq_zero (g3 (by omega))
      obtain rfl := List.eq_nil_of_length_eq_zero (g4 (by omega))
      rfl
    · have hk' : kind = 4 := hk
      subst hk'
      have hs : str.size ≤ 12 := by simp [strOk] at hf; omega
      refine Or.inr (Or.inr (Or.inl ⟨str, by omega, ?_, rfl⟩))
      obtain rfl := g1 (by omega)
      obtain rfl := List.eq_nil_of_length_eq_zero (g3 (by omega))
      obtain rfl := List.eq_nil_of_length_eq_zero (g4 (by omega))
      rfl
    · have hk' : kind = 5 := hk
      subst hk'
      have hall : list.all (fun x => formT d x (deep - 1)) = true := by simpa using hf
      refine Or.inr (Or.inr (Or.inr (Or.inl ⟨list, sv, by omega, ?_, rfl, hr.mem (fun x u hx h => ih x (deep - 1) u (List.all_eq_true.1 hall x hx) (by have := many_mem (deep := deep - 1) (show x ∈ list from hx); omega) h)⟩)))
      obtain rfl := g1 (by omega)
      obtain rfl := bytes_nil (g2 (by omega))
      obtain rfl := List.eq_nil_of_length_eq_zero (g3 (by omega))
      rfl
    · have hk' : kind = 6 := hk
      subst hk'
      simp only [show ¬ ((6 : Int) = 0 ∨ (6 : Int) = 1 ∨ (6 : Int) = 2) by omega, show ¬ ((6 : Int) = 3) by omega, show ¬ ((6 : Int) = 4) by omega, if_false, if_true, Bool.and_eq_true] at hf
      obtain ⟨⟨hq, hkb⟩, hall⟩ := hf
      have hq' : keys.length = list.length := beq_iff_eq.1 hq
      refine Or.inr (Or.inr (Or.inr (Or.inr ⟨keys, list, keys.zip list, r, es, by omega, hkb, hq', List.Perm.refl _, ?_, rfl, hr, ?_, ?_, ?_⟩)))
      · obtain rfl := g1 (by omega)
        obtain rfl := bytes_nil (g2 (by omega))
        rfl
      · rw [List.length_zip, ← hq', Nat.min_self]
        exact hobj
      · rw [List.length_zip, ← hq', Nat.min_self]
        exact he.1
      · intro i k x hp
        have hp' := List.getElem?_zip_eq_some.1 hp
        obtain ⟨u, e1, e2⟩ := he.2.2 i k x hp'.1 hp'.2
        exact ⟨u, e1, ih x (deep - 1) u (List.all_eq_true.1 hall x (List.mem_of_getElem? hp'.2)) (by have := many_mem (x := x) (deep := deep - 1) (List.mem_of_getElem? hp'.2); omega) e2⟩
end Go.Proofs.YtbcafaomfaainaaGreatDoor
