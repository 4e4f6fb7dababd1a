/- Texts of the proof, put together by program: WWalkD. -/
import Derived.Test.YthbpfiandjggcaaV25
/- (*orderWalk).step: one place on in the lists that were entered last. -/
namespace Go.Proofs.Ythbpfiandjggcaa
open Go.RowKit Go.Deep

/-- Two lists that are open, and the place up to which they are the same. -/
structure Fr where
  d : Nat
  la : List (Tr d)
  lb : List (Tr d)
  pos : Nat
  va : Value
  vb : Value
/-- The stack's cells; its top is the first. -/
def flat : List Fr → List Value
  | [] => []
  | f :: r => flat r ++ [f.va, f.vb, .int .i64 f.pos]
theorem flat_length : ∀ (fs : List Fr), (flat fs).length = fs.length * 3
  | [] => rfl
  | f :: r => by simp [flat, flat_length r]; omega
theorem flat_top0 (f : Fr) (r : List Fr) : (flat (f :: r))[r.length * 3]? = some f.va := by
  rw [← flat_length r]
  simp [flat]
theorem flat_top1 (f : Fr) (r : List Fr) : (flat (f :: r))[r.length * 3 + 1]? = some f.vb := by
  rw [← flat_length r]
  simp [flat]
theorem flat_top2 (f : Fr) (r : List Fr) : (flat (f :: r))[r.length * 3 + 2]? = some (.int .i64 f.pos) := by
  rw [← flat_length r]
  simp [flat]
theorem take_len {α : Type} : ∀ (A B : List α), (A ++ B).take A.length = A
  | [], B => by simp
  | a :: A, B => by simp [take_len A B]
theorem row_pop {w : World} {base : Nat} {e : TypeId} {g cap : Nat} {f : Fr} {r : List Fr} (h : w.ownsRow base e 3 (.slice (some ⟨g, 0, none⟩) (r.length + 1) cap) (r.length + 1) (flat (f :: r))) :
    w.ownsRow base e 3 (.slice (some ⟨g, 0, none⟩) r.length cap) r.length (flat r) := by
  obtain ⟨h1, h2⟩ := h
  rcases h2 with ⟨h0, _⟩ | ⟨g', cap', cur, hv, hg, hh, hn, hcap, hsz, htake⟩
  · cases h0
  · cases hv
    refine ⟨by rw [flat_length], .inr ⟨g, cap, cur, rfl, hg, hh, by omega, hcap, hsz, ?_⟩⟩
    have h3 : (cur.toList.take ((r.length + 1) * 3)).take (r.length * 3) = (flat (f :: r)).take (r.length * 3) := by rw [htake]
    rw [List.take_take, Nat.min_eq_left (by omega)] at h3
    rw [h3, ← flat_length r]
    exact take_len _ _
theorem row_next {w : World} {base : Nat} {e : TypeId} {g cap : Nat} {f : Fr} {r : List Fr} (h : w.ownsRow base e 3 (.slice (some ⟨g, 0, none⟩) (r.length + 1) cap) (r.length + 1) (flat (f :: r))) (p : Nat) :
    (w.setCell ⟨g, r.length * 3 + 2, none⟩ (.int .i64 p)).ownsRow base e 3 (.slice (some ⟨g, 0, none⟩) (r.length + 1) cap) (r.length + 1) (flat ({ f with pos := p } :: r)) := by
  obtain ⟨h1, h2⟩ := h
  rcases h2 with ⟨h0, _⟩ | ⟨g', cap', cur, hv, hg, hh, hn, hcap, hsz, htake⟩
  · cases h0
  · cases hv
    refine ⟨by rw [flat_length]; rfl, .inr ⟨g, cap, cur.setIfInBounds (r.length * 3 + 2) (.int .i64 p), rfl, hg, ?_, hn, hcap, by simpa using hsz, ?_⟩⟩
    · simp [World.setCell, Array.getElem?_modify, hh]
    · rw [Array.toList_setIfInBounds, List.take_set, htake, flat, flat, ← flat_length r]
      simp
theorem row_frozen {w : World} {base : Nat} {e : TypeId} {size n g cap : Nat} {xs : List Value} (h : w.ownsRow base e size (.slice (some ⟨g, 0, none⟩) n cap) n xs) (o : Nat) : w.frozen? ⟨g, o, none⟩ = false := by
  rcases h.2 with ⟨h0, _⟩ | ⟨g', cap', cur, hv, hg, hh, _⟩
  · cases h0
  · cases hv
    simp [World.frozen?, hh]
end Go.Proofs.Ythbpfiandjggcaa
