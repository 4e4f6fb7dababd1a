/- Texts of the proof, put together by program: LKeysAdd. -/
import Derived.Test.YtohdpgclokgohaaGreatDoorP32
import Derived.Test.YtohdpgclokgohaaGreatDoorP33
import Derived.Test.YtohdpgclokgohaaGreatDoorP28
import Derived.Test.YtohdpgclokgohaaGreatDoorP36
import Derived.Test.YtohdpgclokgohaaGreatDoorP35
/- Pairs and trees by keys: contracts, and the facts that FnRowKeysAdd asks for. -/
namespace Go.Proofs.YtohdpgclokgohaaGreatDoor
open Go.RowKit Go.Deep

theorem pairsI {d : Nat} {w W : World} {t : Tr (d + 2)} {v : Value} (h : ValAt (FreshP w W) W (d + 2) t v) (hg : ErrType W) (hl : w.heap.size ≤ W.heap.size) :
    Calls Tryz.prog 16 #[v] W (TQ w (d + 3) (pairsR d t).1 (pairsR d t).2 W) := (implRowPairs_any d _ t v W h within_P hg).mono (fun _ _ h => tq_of hl h)
theorem pairsS {d : Nat} {w W : World} {t : Tr (d + 2)} {v : Value} (h : ValAt (FreshP w W) W (d + 2) t v) (hz : wtT (d + 2) t ≤ 10000) (hl : w.heap.size ≤ W.heap.size) :
    Calls Tryz.prog 17 #[v] W (TQ w (d + 3) (pairsR d t).1 (pairsR d t).2 W) := (specRowPairs_own d _ t v W h within_P (nodes_small hz)).mono (fun _ _ h => tq_of hl h)
theorem rkeysI {d : Nat} {w W : World} {t : Tr (d + 3)} {v : Value} (h : ValAt (FreshP w W) W (d + 3) t v) (hg : ErrType W) (hl : w.heap.size ≤ W.heap.size) :
    Calls Tryz.prog 18 #[v] W (TQ w (d + 2) (rowTell (keysF d) t).1 (rowTell (keysF d) t).2 W) := (implRowKeys_any d _ t v W h within_P hg).mono (fun _ _ h => tq_of hl h)

theorem pairOk_pair {d : Nat} (p : ByteArray × Tr (d + 1)) : pairOk (pairT d p) = some p := pairOk_some (a := textT d p.1) (b := p.2) rfl rfl rfl
theorem accF_pairs {d : Nat} : ∀ (ps acc : List (ByteArray × Tr (d + 1))), accF (ps.map (pairT d)) acc = some (putAll acc ps)
  | [], _ => rfl
  | p :: r, acc => by
    rw [List.map_cons, accF, pairOk_pair]
    exact accF_pairs r (putP acc p)
theorem keysF_pairs {d : Nat} (ps : List (ByteArray × Tr (d + 1))) : keysF d (ps.map (pairT d)) = some (mapT (d + 1) (putAll [] ps)) := by
  unfold keysF
  rw [accF_pairs]
  rfl
theorem putAll_app {α : Type} (ps qs rs : List (ByteArray × α)) : putAll ps (qs ++ rs) = putAll (putAll ps qs) rs := List.foldl_append ..
theorem pairs_ok {d : Nat} {t : Tr (d + 2)} (h : (pairsR d t).2 = true) : okT (d + 2) t = true ∧ Nd.kind t = 6 ∧ okT (d + 3) (rowT (d + 2) (pairsL d t)) = true ∧ pairsR d t = (rowT (d + 2) (pairsL d t), true) := by
  unfold pairsR at h ⊢
  split at h
  · rename_i hh
    have h : okT (d + 3) (rowT (d + 2) (pairsL d t)) = true := h
    rw [if_pos hh]
    refine ⟨hh.1, hh.2, h, ?_⟩
    rw [h]
    unfold toldT
    rw [if_pos h]
  · cases h
theorem rowTell_ok {d e : Nat} {f : List (Tr d) → Option (Tr (e + 1))} {t : Tr (d + 1)} {x : Tr (e + 1)} (h : okT (d + 1) t = true) (h5 : Nd.kind t = 5) (hf : f (Nd.list t) = some x) : rowTell f t = (toldT e x, okT (e + 1) x) := by
  refine rowTell_some (xs := Nd.list t) ?_ hf
  unfold treesL
  rw [if_pos h, if_pos h5]
/-- Pairs of two trees by keys, one behind the other, are the pairs of both together. -/
theorem keys_add {d : Nat} {a b : Tr (d + 2)} (h1 : (pairsR d a).2 = true) (h2 : (pairsR d b).2 = true) (h3 : (partAddT (d + 2) (pairsR d a).1 (pairsR d b).1).2 = true) (h4 : (rowTell (keysF d) (partAddT (d + 2) (pairsR d a).1 (pairsR d b).1).1).2 = true) (h5 : (partAddT (d + 1) a b).2 = true) :
    (rowTell (keysF d) (partAddT (d + 2) (pairsR d a).1 (pairsR d b).1).1).1 = (partAddT (d + 1) a b).1 := by
  obtain ⟨oa, ka, ra, ea⟩ := pairs_ok h1
  obtain ⟨ob, kb, rb, eb⟩ := pairs_ok h2
  rw [ea, eb] at h3 h4 ⊢
  obtain ⟨_, _, s, hs, hso, hse⟩ := add_ok h3
  rw [hse] at h4 ⊢
  obtain ⟨_, _, x, hx, hxo, hxe⟩ := add_ok h5
  rw [hxe]
  have e1 : s = rowT (d + 2) (pairsL d a ++ pairsL d b) := by
    have : sumT (d + 2) (rowT (d + 2) (pairsL d a)) (rowT (d + 2) (pairsL d b)) = some (rowT (d + 2) (pairsL d a ++ pairsL d b)) := rfl
    rw [this] at hs
    exact (Option.some.inj hs).symm
  have e2 : x = mapT (d + 1) (putAll (pairsT a) (pairsT b)) := by
    obtain ⟨_, _, hh⟩ := sum_two (by omega) (by omega) hx
    rcases hh with ⟨k, _⟩ | ⟨k, _⟩ | ⟨k, _⟩ | ⟨_, e⟩
    · omega
    · omega
    · omega
    · exact e
  subst e1
  have hk : keysF d (pairsL d a ++ pairsL d b) = some (mapT (d + 1) (putAll (pairsT a) (pairsT b))) := by
    have : pairsL d a ++ pairsL d b = (pairsT a ++ pairsT b).map (pairT d) := by rw [List.map_append]; rfl
    rw [this, keysF_pairs, putAll_app, putAll_nil (pairs_keys oa ka)]
  rw [rowTell_ok hso rfl hk, ← e2]
  show toldT (d + 1) x = x
  unfold toldT
  rw [if_pos hxo]
end Go.Proofs.YtohdpgclokgohaaGreatDoor
