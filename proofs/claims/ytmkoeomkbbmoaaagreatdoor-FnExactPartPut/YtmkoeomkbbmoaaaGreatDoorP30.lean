/- Texts of the proof, put together by program: WDeep. -/
import Derived.Test.YtmkoeomkbbmoaaaGreatDoorP29
/- A tree that lies in memory, as one that may be as deep as one likes. -/
namespace Go.Proofs.YtmkoeomkbbmoaaaGreatDoor

theorem deepTo {S : Nat → Prop} {w : World} {v : Value} {N : Nat} {t : Tr N} (h : ValAt S w N t v) (M : Nat) (hM : N ≤ M) : ∃ t' : Tr M, ValAt S w M t' v := by
  induction hM with
  | refl => exact ⟨t, h⟩
  | step _ ih =>
    obtain ⟨t', h'⟩ := ih
    exact ⟨up _ t', ValAt.up _ _ _ h'⟩
end Go.Proofs.YtmkoeomkbbmoaaaGreatDoor
