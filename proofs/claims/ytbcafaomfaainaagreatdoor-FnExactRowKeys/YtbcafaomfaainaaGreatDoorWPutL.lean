/- Keys and trees, one more put at its place. -/
import Derived.Test.YtbcafaomfaainaaGreatDoorWGTo
import Derived.Test.YtbcafaomfaainaaGreatDoorWGetP
import Derived.Test.YtbcafaomfaainaaGreatDoorWLook
namespace Go.Proofs.YtbcafaomfaainaaGreatDoor
open Go.RowKit Go.Deep

/-- Keys and what lies at them, in order, when x is put at key s. -/
def putL {α : Type} : List ByteArray → List α → ByteArray → α → List (ByteArray × α)
  | k :: ks, y :: ys, s, x => if ltB k s = true then (k, y) :: putL ks ys s x else if (k == s) = true then (s, x) :: ks.zip ys else (s, x) :: (k, y) :: ks.zip ys
  | [], _, s, x => [(s, x)]
  | _ :: _, [], s, x => [(s, x)]

theorem ltB_total {a b : ByteArray} (h : ltB a b = false) (hn : (a == b) = false) : ltB b a = true := by
  have ht := bytesLess_total a.toList b.toList
  unfold ltB at h ⊢
  have hne : (a.toList == b.toList) = false := by
    cases hb : (a.toList == b.toList)
    · rfl
    · have e := beq_iff_eq.1 hb
      rw [ByteArray.toList_eq, ByteArray.toList_eq] at e
      have : a = b := by
        cases a with
        | mk a =>
          cases b with
          | mk b =>
            have e : a.toList = b.toList := e
            cases a; cases b
            simp at e
            rw [e]
      rw [(MapKept.bytes_beq a b).2 this] at hn
      cases hn
  rw [h, hne] at ht
  simpa using ht.symm
theorem ltB_ne {a b : ByteArray} (h : ltB a b = true) : a ≠ b := fun e => by
  subst e
  have := bytesLess_irrefl a.toList
  unfold ltB at h
  rw [h] at this
  cases this

theorem zip_cons {α : Type} (k : ByteArray) (ks : List ByteArray) (y : α) (ys : List α) : (k :: ks).zip (y :: ys) = (k, y) :: ks.zip ys := rfl
theorem putL_length {α : Type} : ∀ (ks : List ByteArray) (xs : List α) (s : ByteArray) (x : α), (putL ks xs s x).length ≤ ks.length + 1
  | [], _, _, _ => by rw [putL]; simp
  | _ :: _, [], _, _ => by rw [putL]; simp
  | k :: ks, y :: ys, s, x => by
    have := putL_length ks ys s x
    rw [putL]
    split
    · simp; omega
    · split
      · simp; omega
      · simp; omega

/-- A key that is new comes in at its place. -/
theorem putL_new {α : Type} : ∀ {ks : List ByteArray} {xs : List α} {s : ByteArray} {x : α}, ks.length = xs.length → s ∉ ks → ((ks.zip xs) ++ [(s, x)]).Perm (putL ks xs s x)
  | [], [], _, _, _, _ => by rw [putL]; exact List.Perm.refl _
  | [], _ :: _, _, _, h, _ => by simp at h
  | _ :: _, [], _, _, h, _ => by simp at h
  | k :: ks, y :: ys, s, x, h, hn => by
    have hks : (k == s) = false := by
      cases hb : (k == s)
      · rfl
      · exact absurd (by rw [(MapKept.bytes_beq k s).1 hb]; simp) hn
    rw [putL, zip_cons, List.cons_append]
    split
    · exact List.Perm.cons _ (putL_new (by simpa using h) (fun hm => hn (by simp [hm])))
    · rw [if_neg (by rw [hks]; simp)]
      have hp := List.perm_middle (l₁ := (k, y) :: ks.zip ys) (l₂ := []) (a := (s, x))
      rw [List.append_nil] at hp
      exact hp

/-- A key that is there keeps its place. -/
theorem putL_there {α : Type} {s : ByteArray} {x : α} : ∀ {ks : List ByteArray} {xs : List α} {p : Option ByteArray} {j : Nat}, ks.length = xs.length → keysGo p ks = true → ks[j]? = some s → putL ks xs s x = (ks.zip xs).set j (s, x)
  | [], _, _, _, _, _, h => by simp at h
  | _ :: _, [], _, _, h, _, _ => by simp at h
  | k :: ks, y :: ys, p, 0, _, _, hj => by
    simp at hj
    subst hj
    rw [putL, if_neg (by have := bytesLess_irrefl k.toList; unfold ltB; rw [this]; simp), if_pos ((MapKept.bytes_beq k k).2 rfl)]
    rfl
  | k :: ks, y :: ys, p, j + 1, h, hk, hj => by
    have hj' : ks[j]? = some s := by simpa using hj
    have hgo : keysGo (some k) ks = true := by
      cases p with
      | none => simp only [keysGo, Bool.and_eq_true] at hk; exact hk.2
      | some q => simp only [keysGo, Bool.and_eq_true] at hk; exact hk.2.2
    rw [putL, if_pos (keysGo_all ks k hgo s (List.mem_of_getElem? hj')), zip_cons, List.set_cons_succ, putL_there (by simpa using h) hgo hj']

/-- The keys stay in order. -/
theorem putL_keys {α : Type} {s : ByteArray} {x : α} (hs : strOk s = true) : ∀ {ks : List ByteArray} {xs : List α} {p : Option ByteArray}, ks.length = xs.length → keysGo p ks = true → (∀ q, p = some q → ltB q s = true) → keysGo p ((putL ks xs s x).map Prod.fst) = true
  | [], _, none, _, _, _ => by rw [putL]; simp [keysGo, hs]
  | [], _, some q, _, _, hq => by rw [putL]; simp [keysGo, hs, hq q rfl]
  | _ :: _, [], _, h, _, _ => by simp at h
  | k :: ks, y :: ys, p, h, hk, hq => by
    have hlen : ks.length = ys.length := by simpa using h
    have hgo : strOk k = true ∧ keysGo (some k) ks = true ∧ (∀ q, p = some q → ltB q k = true) := by
      cases p with
      | none =>
        simp only [keysGo, Bool.and_eq_true] at hk
        exact ⟨hk.1, hk.2, fun q e => by cases e⟩
      | some q =>
        simp only [keysGo, Bool.and_eq_true] at hk
        exact ⟨hk.1, hk.2.2, fun q' e => by cases e; exact hk.2.1⟩
    have hfirst : ∀ (a : ByteArray) (r : List ByteArray), strOk a = true → (∀ q, p = some q → ltB q a = true) → keysGo (some a) r = true → keysGo p (a :: r) = true := fun a r h1 h2 h3 => by
      cases p with
      | none => simp [keysGo, h1, h3]
      | some q => simp [keysGo, h1, h2 q rfl, h3]
    rw [putL]
    split
    · rename_i hlt
      rw [List.map_cons]
      exact hfirst _ _ hgo.1 hgo.2.2 (putL_keys hs hlen hgo.2.1 (fun q e => by cases e; exact hlt))
    · rename_i hlt
      split
      · rename_i he
        have := (MapKept.bytes_beq k s).1 he
        subst this
        rw [List.map_cons, zip_fst _ _ hlen]
        exact hfirst _ _ hgo.1 hgo.2.2 hgo.2.1
      · rename_i he
        rw [List.map_cons, List.map_cons, zip_fst _ _ hlen]
        refine hfirst _ _ hs hq ?_
        have hsk : ltB s k = true := ltB_total (by simpa using hlt) (by simpa using he)
        simp [keysGo, hgo.1, hsk, hgo.2.1]

/-- A map as a tree. -/
def mapT (d : Nat) (ps : List (ByteArray × Tr d)) : Tr (d + 1) := (Nd.mk 6 0 ByteArray.empty (ps.map Prod.fst) (ps.map Prod.snd) : Nd (Tr d))
theorem zip_unzip {α : Type} : ∀ ps : List (ByteArray × α), (ps.map Prod.fst).zip (ps.map Prod.snd) = ps
  | [] => rfl
  | (k, x) :: r => by rw [List.map_cons, List.map_cons, zip_cons, zip_unzip r]
end Go.Proofs.YtbcafaomfaainaaGreatDoor
