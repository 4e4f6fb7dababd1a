/- Texts of the proof, put together by program: WOfflatRow, WFlatI. -/
import Derived.Test.YtilgbnnjecpneaaGreatDoorR17
import Derived.Test.YtilgbnnjecpneaaGreatDoorR20
/- ofRow of the program, at flatRow. -/
namespace Go.Proofs.YtilgbnnjecpneaaGreatDoor
open Go.RowKit Go.Deep

end Go.Proofs.YtilgbnnjecpneaaGreatDoor

/- flatRow, RowFlat of the program. -/
namespace Go.Proofs.YtilgbnnjecpneaaGreatDoor
open Go.RowKit Go.Deep

theorem ownsRow_on {w w' : World} {N : Nat} {T : TypeId} {s : Nat} {v : Value} {n : Nat} {xs : List Value} (h : w.ownsRow N T s v n xs) (hb : Below w.heap.size w w') : w'.ownsRow N T s v n xs := by
  obtain ⟨h1, h2⟩ := h
  refine ⟨h1, ?_⟩
  rcases h2 with h2 | ⟨g, c, cur, e, h3, h4, h5⟩
  · exact Or.inl h2
  · exact Or.inr ⟨g, c, cur, e, h3, (hb.block g (Array.getElem?_eq_some_iff.1 h4).1).trans h4, h5⟩
theorem GF.later {d N : Nat} {S : Nat → Prop} {w w' : World} {sv : Value} {xs : List (Tr d)} {vs : List Value} (h : GF S N w sv xs vs) (hb : Below w.heap.size w w') (hS : Within S w) : GF S N w' sv xs vs :=
  ⟨ownsRow_on h.1 hb, fun j x u hx hu => (h.2 j x u hx hu).same (hS.same hb)⟩
theorem Row1At.one {α : Type} {S : Nat → Prop} {w : World} {At : α → Value → Prop} {a : Option Addr} {n cap k : Nat} {xs : List α} (h : Row1At S w At (.slice a n cap) xs) (hk : k < xs.length) : ∃ b o x u, a = some ⟨b, o, none⟩ ∧ S b ∧ xs[k]? = some x ∧ w.cell? ⟨b, o + k, none⟩ = some u ∧ At x u := by
  obtain ⟨_, a', cap', hv, h3⟩ := h
  cases hv
  rcases h3 with rfl | ⟨b, o, hB, ha, hc⟩
  · simp at hk
  · obtain ⟨u, e0, e1⟩ := hc k _ (List.getElem?_eq_getElem hk)
    exact ⟨b, o, xs[k], u, ha, hB, List.getElem?_eq_getElem hk, e0, e1⟩

end Go.Proofs.YtilgbnnjecpneaaGreatDoor
