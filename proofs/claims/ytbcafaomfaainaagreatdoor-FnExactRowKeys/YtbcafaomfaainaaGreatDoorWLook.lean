/- A map of the program's own trees, asked for a key. -/
import Derived.Test.YtbcafaomfaainaaGreatDoorWKeysP
namespace Go.Proofs.YtbcafaomfaainaaGreatDoor
open Go.RowKit Go.Deep

theorem findNow_at (s : ByteArray) : ∀ (l : List MapEntry) (j i : Nat) (e : MapEntry), l[j]? = some e → e.key = .string s → (∀ i' e', i' < j → l[i']? = some e' → ∃ k, e'.key = .string k ∧ k ≠ s) →
    Instr.findNow .string (.string s) l i = some (some (i + j, e.val))
  | [], j, _, _, h, _, _ => by simp at h
  | a :: r, 0, i, e, h, hk, _ => by
    simp at h
    subst h
    have hb : (s == s) = true := (MapKept.bytes_beq s s).2 rfl
    simp [Instr.findNow, hk, Instr.sameNow, hb]
  | a :: r, j + 1, i, e, h, hk, hn => by
    obtain ⟨k, ha, hne⟩ := hn 0 a (by omega) rfl
    have hb : (s == k) = false := by
      cases hb : (s == k)
      · rfl
      · exact absurd ((MapKept.bytes_beq s k).1 hb).symm hne
    have ih := findNow_at s r j (i + 1) e (by simpa using h) hk (fun i' e' hi he => hn (i' + 1) e' (by omega) (by simpa using he))
    simp only [Instr.findNow, ha, Instr.sameNow, hb]
    rw [ih]
    congr 3
    omega

theorem run_mapGet (w : World) (r clock j : Nat) (es : Array MapEntry) (s : ByteArray) (u : Value) (b : Nat) (ok : Bool) (hb : w.heap[r]? = some (.map es clock)) (hj : es[j]? = some ⟨.string s, u, b⟩)
    (hn : ∀ i' e', i' < j → es[i']? = some e' → ∃ k, e'.key = .string k ∧ k ≠ s) :
    (Instr.lookup 57 (.map (some r)) (.string s) ok).run Tryz.prog w = .ok (if ok then .tuple #[u, .bool true] else u) w := by
  have hf := findNow_at s es.toList j 0 ⟨.string s, u, b⟩ (by rw [Array.getElem?_toList]; exact hj) rfl (fun i' e' hi he => hn i' e' hi (by rw [Array.getElem?_toList] at he; exact he))
  have hk : ∀ fl, (Instr.checkKey fl 10000 9 (.string s)).run Tryz.prog w = .ok () w := fun fl =>
    MapKept.run_checkKey (P := Tryz.prog) (w := w) (k := .string s) Tryz.underlying9 trivial fl 9999
  have hfk := MapKept.run_findKey (P := Tryz.prog) (w := w) Tryz.underlying9 hf
  simp [Instr.lookup, run_underlying Tryz.underlying57, getObj, Sem.run, hb, hk, hfk]

theorem run_mapMiss (w : World) (r clock : Nat) (es : Array MapEntry) (s : ByteArray) (hb : w.heap[r]? = some (.map es clock)) (hn : ∀ e ∈ es.toList, ∃ k, e.key = .string k ∧ k ≠ s) :
    (Instr.lookup 57 (.map (some r)) (.string s) true).run Tryz.prog w = .ok (.tuple #[.nilIface, .bool false]) w := by
  have hf := findNow_none s es.toList 0 hn
  have hk : ∀ fl, (Instr.checkKey fl 10000 9 (.string s)).run Tryz.prog w = .ok () w := fun fl =>
    MapKept.run_checkKey (P := Tryz.prog) (w := w) (k := .string s) Tryz.underlying9 trivial fl 9999
  have hfk := MapKept.run_findKey (P := Tryz.prog) (w := w) Tryz.underlying9 hf
  simp [Instr.lookup, run_underlying Tryz.underlying57, getObj, Sem.run, hb, hk, hfk]

theorem keysB_nodup {ss : List ByteArray} (h : keysB ss = true) : ss.Nodup := by
  refine (keysGo_pair ss none h).imp_of_mem ?_
  intro a b _ _ hab e
  subst e
  have := (ltB_iff a a).1 hab
  exact absurd this (List.lt_irrefl _)

/-- Where a key of the map lies among its entries. -/
theorem MapG.find {α : Type} {At : α → Value → Prop} {es : Array MapEntry} {ps : List (ByteArray × α)} (h : MapG At es ps) (hnd : (ps.map Prod.fst).Nodup) {s : ByteArray} {x : α} (hx : (s, x) ∈ ps) :
    ∃ (j : Nat) (u : Value), ps[j]? = some (s, x) ∧ es[j]? = some (⟨.string s, u, j⟩ : MapEntry) ∧ At x u ∧ ∀ (i' : Nat) (e' : MapEntry), i' < j → es[i']? = some e' → ∃ k, e'.key = .string k ∧ k ≠ s := by
  obtain ⟨j, hj⟩ := List.getElem?_of_mem hx
  obtain ⟨u, hu, ha⟩ := h.2 j s x hj
  refine ⟨j, u, hj, hu, ha, fun i' e' hi he => ?_⟩
  have hjl := (List.getElem?_eq_some_iff.1 hj).1
  obtain ⟨u', hu', _⟩ := h.2 i' ps[i'].1 ps[i'].2 (List.getElem?_eq_getElem (by omega))
  rw [he] at hu'
  cases hu'
  refine ⟨_, rfl, fun e => ?_⟩
  have h1 : (ps.map Prod.fst)[i']? = some s := by rw [List.getElem?_map, List.getElem?_eq_getElem (by omega), ← e]; rfl
  have h2 : (ps.map Prod.fst)[j]? = some s := by rw [List.getElem?_map, hj]; rfl
  have := (List.getElem?_inj (by rw [List.length_map]; omega) hnd).1 (h1.trans h2.symm)
  omega
/-- A key that the map has not. -/
theorem MapG.miss {α : Type} {At : α → Value → Prop} {es : Array MapEntry} {ps : List (ByteArray × α)} (h : MapG At es ps) {s : ByteArray} (hs : s ∉ ps.map Prod.fst) : ∀ e ∈ es.toList, ∃ k, e.key = .string k ∧ k ≠ s := by
  intro e he
  obtain ⟨i, hi⟩ := List.getElem?_of_mem he
  rw [Array.getElem?_toList] at hi
  have hil := (Array.getElem?_eq_some_iff.1 hi).1
  have hil2 : i < ps.length := by rw [← h.1]; exact hil
  obtain ⟨u, hu, _⟩ := h.2 i ps[i].1 ps[i].2 (List.getElem?_eq_getElem hil2)
  rw [hi] at hu
  cases hu
  exact ⟨_, rfl, fun e => hs (by rw [← e]; exact List.mem_map.2 ⟨ps[i], List.getElem_mem hil2, rfl⟩)⟩
theorem perm_nodup {α : Type} {ps : List (ByteArray × α)} {keys : List ByteArray} {xs : List α} (hp : ps.Perm (keys.zip xs)) (hkx : keys.length = xs.length) (hkb : keysB keys = true) : (ps.map Prod.fst).Nodup := by
  have h := hp.map Prod.fst
  rw [List.map_fst_zip (by omega)] at h
  exact h.nodup_iff.2 (keysB_nodup hkb)
end Go.Proofs.YtbcafaomfaainaaGreatDoor
