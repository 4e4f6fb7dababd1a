/- mapTree.keys: the keys, in order, in new memory. -/
import Derived.Test.YtbcafaomfaainaaGreatDoorWKeysP
import Derived.Test.YtbcafaomfaainaaGreatDoorMapIt
import Derived.Test.YtbcafaomfaainaaGreatDoorWSort
import Derived.Deep.LoopGhost
namespace Go.Proofs.YtbcafaomfaainaaGreatDoor
open Go.RowKit Go.Deep Go.Sort

/-- The key at a place. -/
def kAt {α : Type} (ps : List (ByteArray × α)) (i : Nat) : ByteArray := (ps.map Prod.fst).getD i ByteArray.empty
theorem OneOff.grown {r : Nat} {w w' : World} (h : OneOff r w w') : w.grownBy w' (some r) := ⟨h.os, h.tape, h.output, by rw [h.size]; exact Nat.le_refl _, fun k _ hk => h.block k (fun e => hk (by rw [e]))⟩
theorem kAt_range {α : Type} (ps : List (ByteArray × α)) : (List.range ps.length).map (kAt ps) = ps.map Prod.fst := by
  apply List.ext_getElem
  · simp
  · intro i h1 h2
    simp only [List.length_map, List.length_range] at h1
    simp [kAt, h1]
theorem seen_all_perm {n : Nat} {seen : List Nat} (hd : seen.Nodup) (hl : ∀ i ∈ seen, i < n) (ha : ∀ i, i < n → i ∈ seen) : seen.Perm (List.range n) := by
  rw [List.perm_ext_iff_of_nodup hd List.nodup_range]
  intro a
  simp only [List.mem_range]
  exact ⟨hl a, ha a⟩
theorem seen_len_le {n : Nat} {seen : List Nat} (hd : seen.Nodup) (hl : ∀ i ∈ seen, i < n) : seen.length ≤ n := by
  have := List.Nodup.length_le_of_subset hd (l₂ := List.range n) (fun i hi => List.mem_range.2 (hl i hi))
  simpa using this
theorem zip_fst {α : Type} (ks : List ByteArray) (xs : List α) (h : ks.length = xs.length) : (ks.zip xs).map Prod.fst = ks := by
  rw [List.map_fst_zip (by omega)]

/-- What a loop over a map's keys has gathered. -/
structure Gathered (w wr : World) (r m n N : Nat) (v : Value) (seen : List Nat) (ks : Nat → ByteArray) : Prop where
  nodup : seen.Nodup
  lt : ∀ i ∈ seen, i < n
  iter : Iter wr r m n seen
  row : wr.ownsRow N 9 1 v seen.length (seen.map (fun i => Value.string (ks i)))
  below : Below w.heap.size w wr

theorem Tryz.infoS : (Tryz.prog.info? 9).map (fun i => (i.zero, i.size, i.bytes)) = some (some (.string ByteArray.empty), 1, 16) := by kernel_rfl

set_option maxRecDepth 100000 in
set_option maxHeartbeats 2000000 in
theorem keys_any {α : Type} (S : Nat → Prop) (At : α → Value → Prop) (ps : List (ByteArray × α)) (keys : List ByteArray) (xs : List α) (m : Nat) (es : Array MapEntry) (w : World) (hSm : S m) (hobj : w.heap[m]? = some (.map es ps.length)) (hmap : MapG At es ps) (hS : Within S w)
    (hp : ps.Perm (keys.zip xs)) (hkx : keys.length = xs.length) (hkb : keysB keys = true) (hsm : xs.length ≤ 1000) :
    Calls Tryz.prog 75 #[.agg #[.map (some m)]] w fun e w' => ∃ u, e = .returned u ∧ StrsOwn (Fresh w w') w' u keys ∧ Below w.heap.size w w' := by
  obtain ⟨hes, hent⟩ := hmap
  have hmw := hS m hSm
  have hpl : ps.length = keys.length := by rw [hp.length_eq, List.length_zip, hkx, Nat.min_self]
  have hn : ps.length ≤ 1000 := by omega
  have hpk : Hid ((ps.map Prod.fst).Perm keys) := by
    have := hp.map Prod.fst
    rw [zip_fst keys xs hkx] at this
    exact this
  have hborn : ∀ (j : Nat) (x : MapEntry), es[j]? = some x → x.born = j := fun j x hx => by
    have hj := (Array.getElem?_eq_some_iff.1 hx).1
    obtain ⟨u, hu, _⟩ := hent j ps[j].1 ps[j].2 (List.getElem?_eq_getElem (by omega))
    rw [hx] at hu
    cases hu
    rfl
  have hkey : Hid (∀ (j : Nat) (x : MapEntry), es[j]? = some x → ∃ u, x = ⟨.string (kAt ps j), u, j⟩) := fun j x hx => by
    have hj := (Array.getElem?_eq_some_iff.1 hx).1
    obtain ⟨u, hu, _⟩ := hent j ps[j].1 ps[j].2 (List.getElem?_eq_getElem (by omega))
    rw [hx] at hu
    cases hu
    have hj2 : j < ps.length := by omega
    exact ⟨u, by simp [kAt, hj2]⟩
  have hrun := run_range_map (P := Tryz.prog) (T := 57) Tryz.underlying57 (w.alloc (.cells #[.map (some m)] 61)) m ps.length es ((Below.heap_alloc _ _ _ hmw).trans hobj)
  obtain ⟨W1, hW1⟩ : ∃ W1, W1 = (w.alloc (.cells #[.map (some m)] 61)).alloc (.mapIter (some m) ps.length #[] ps.length) := ⟨_, rfl⟩
  have hz1 : W1.heap.size = w.heap.size + 2 := by rw [hW1]; simp
  have H1 : Hid (Gathered w W1 (w.heap.size + 1) m ps.length (w.heap.size + 2) (.slice none 0 0) [] (kAt ps)) := by
    refine ⟨List.nodup_nil, (fun i h => by cases h), ?_, World.ownsRow_nil _ _ _ _, ?_⟩
    · rw [hW1]
      have := heap_alloc_new (w.alloc (.cells #[.map (some m)] 61)) (.mapIter (some m) ps.length #[] ps.length)
      simpa [Iter] using this
    · rw [hW1]; exact below_trans (below_alloc1 _ _) (below_alloc1 _ _)
  have HW := hide hW1
  have HZ1 := hide hz1
  have HPL := hide hpl
  have HKX := hide hkx
  clear hW1 hent hp hpl hkx hz1
  go_enter Tryz.func75, Tryz.ntmps75
  go_wp2_with fail
  rw [← HW.out]
  clear HW hrun
  go_loopg [3] ps.length (fun gk v wr => ∃ (seen : List Nat), seen.length + gk = ps.length ∧ Hid (Gathered w wr (w.heap.size + 1) m ps.length (w.heap.size + 2) v seen (kAt ps)))
  case atStart => exact ⟨[], by simp, H1⟩
  case round =>
    clear H1
    obtain ⟨seen, hlen, hga⟩ := hrel
    have HL := hide hlen
    clear hlen
    have hbel := hga.out.below
    have hobj2 : wr.heap[m]? = some (.map es ps.length) := (hbel.block m hmw).trans hobj
    rcases run_next_map (P := Tryz.prog) wr (w.heap.size + 1) m ps.length seen es hga.out.iter hobj2 hes hborn with ⟨hall, hnext⟩ | ⟨i, e, w1, hi, hns, hei, hI, hoff, hnext⟩
    · have hperm := seen_all_perm hga.out.nodup hga.out.lt hall
      have hsl : seen.length = ps.length := by rw [hperm.length_eq, List.length_range]
      have hcs : (seen.map (fun i => (kAt ps i).data.toList)).Perm (keys.map (fun s => s.data.toList)) := by
        have h1 := (hperm.map (kAt ps)).map (fun s : ByteArray => s.data.toList)
        rw [kAt_range, List.map_map] at h1
        exact h1.trans (hpk.out.map _)
      have hsort := sort_keys hkb hcs
      have hrow := hga.out.row
      have HLK := hide hsl
      have hfin : ∀ (v : Value) (w2 : World), w2.ownsRow (w.heap.size + 2) 9 1 v ps.length (keys.map Value.string) → Below w.heap.size w w2 → ∃ u, Ending.returned v = .returned u ∧ StrsOwn (Fresh w w2) w2 u keys ∧ Below w.heap.size w w2 := fun v w2 ho hb => by
        refine ⟨v, rfl, ?_, hb⟩
        have := HPL.out
        exact (strsOwn_of_row ho HPL.out (by omega) (fun s hs => by have := strOk_size (keysB_strOk keys none hkb s hs); omega)).moved (Same.refl _ _) (fun b hb => ⟨by have := hb.1; omega, hb.2⟩)
      have HF := hide hfin
      rcases hrow.2 with ⟨rfl, h0⟩ | ⟨g, cap, cur, rfl, hg, hh, hnc, hcm, hcu, htake⟩
      · have hk0 : Hid (keys = []) := List.eq_nil_of_length_eq_zero (by have := HPL.out; omega)
        have hrow0 : Hid (wr.ownsRow (w.heap.size + 2) 9 1 (.slice none 0 0) ps.length (keys.map Value.string)) := by
          rw [hk0.out, ← HLK.out, h0]
          exact World.ownsRow_nil _ _ _ _
        clear hperm hsl hcs hsort hall hobj2 hrow hga hfin h0
        go_wp2_with fail
        refine (sort_nil none 0 wr).mono ?_
        rintro e w' ⟨rfl, rfl⟩
        go_wp2_with fail
        go_ret
        exact HF.out _ _ hrow0.out hbel
      · have hH : Holds encStr wr g 0 (seen.map (fun i => (kAt ps i).data.toList)).toArray := holds_of_block hh (by
          rw [List.length_map, List.map_map]
          rw [Nat.mul_one] at htake
          exact htake)
        have hcall := sortStrs g cap (seen.map (fun i => (kAt ps i).data.toList)) wr hH (Array.getElem?_eq_some_iff.1 hh).1 (by rw [List.length_map]; omega)
        rw [List.length_map, hsort] at hcall
        have hafter : Hid (∀ n os, (grow (putRow encStr (Sort.ahead wr n) g 0 (keys.map (fun s => s.data.toList)).toArray) os).ownsRow (w.heap.size + 2) 9 1 (.slice (some ⟨g, 0, none⟩) seen.length cap) ps.length (keys.map Value.string) ∧
            Below w.heap.size w (grow (putRow encStr (Sort.ahead wr n) g 0 (keys.map (fun s => s.data.toList)).toArray) os)) := by
          intro n os
          have h1 := ownsRow_sorted (w := wr) (base := w.heap.size + 2) (g := g) (cap := cap) (n := n) (e := 9) (os := os) (cur := cur) (ss := seen.map (fun i => (kAt ps i).data.toList)) (ts := keys.map (fun s => s.data.toList))
            (by rw [List.length_map, List.length_map, hsl, HPL.out]) hg hh (by rw [List.length_map]; exact hnc) hcm hcu
          rw [List.length_map, enc_keys] at h1
          have hgr := grownBy_sorted (w := wr) (g := g) (n := n) (os := os) (keys.map (fun s => s.data.toList)).toArray
          refine ⟨by rw [← HLK.out]; exact h1, hgr.os.trans hbel.os, hgr.tape.trans hbel.tape, hgr.output.trans hbel.output, Nat.le_trans hbel.size hgr.size, fun j hj => ?_⟩
          exact (hgr.block j (by have := hbel.size; omega) (fun e => by cases e; omega)).trans (hbel.block j hj)
        have HC := hide hcall
        clear hperm hcs hsort hall hobj2 hrow hga hfin hcall hH hh hnc hcm hcu htake hsl
        go_wp2_with fail
        refine HC.out.mono ?_
        rintro e w' ⟨rfl, n, os, rfl⟩
        have HA := hide (hafter.out n os)
        clear hafter HC
        generalize grow (putRow encStr (Sort.ahead wr n) g 0 (keys.map (fun s => s.data.toList)).toArray) os = w2 at *
        go_wp2_with fail
        go_ret
        exact HF.out _ _ HA.out.1 HA.out.2
    · obtain ⟨u, rfl⟩ := hkey.out i e hei
      have hb1 : Below w.heap.size w w1 := hbel.trans ⟨hoff.os, hoff.tape, hoff.output, by rw [hoff.size]; exact Nat.le_refl _, fun k hk => hoff.block k (by omega)⟩
      have hobj3 : w1.heap[m]? = some (.map es ps.length) := (hb1.block m hmw).trans hobj
      have hentry := run_entry_map (P := Tryz.prog) w1 (w.heap.size + 1) m ps.length i seen es _ hI hobj3 hborn hei
      have hrl : w.heap.size + 1 < w1.heap.size := (Array.getElem?_eq_some_iff.1 hI).1
      have hrne : ∀ g, u3.ownBlock = some g → w.heap.size + 2 ≤ g := fun g hg => (hga.out.row.lt g hg).1
      have hown1 := hide ((hga.out.row.kept hoff.grown (by
        cases hq : u3.ownBlock with
        | none => exact Or.inl rfl
        | some g => exact Or.inr (fun e => by cases e; have := hrne _ hq; omega))).alloc (.cells #[.string (kAt ps i)] 9))
      have hnd : Hid ((seen ++ [i]).Nodup ∧ ∀ j ∈ seen ++ [i], j < ps.length) := by
        refine ⟨?_, fun j hj => ?_⟩
        · rw [List.nodup_append]
          exact ⟨hga.out.nodup, by simp, fun a ha b hb e => by simp at hb; subst hb; subst e; exact hns ha⟩
        · rcases List.mem_append.1 hj with h | h
          · exact hga.out.lt j h
          · simp at h; subst h; exact hi
      have hgk : 1 ≤ gk := by
        have h1 := seen_len_le hnd.out.1 hnd.out.2
        have h2 := HL.out
        simp at h1
        omega
      have hsl : seen.length ≤ 1000 := by
        have := HL.out
        omega
      have hstep : Hid (∀ sv' w2, w2.ownsRow (w.heap.size + 2) 9 1 sv' (seen.length + 1) (seen.map (fun i => Value.string (kAt ps i)) ++ [.string (kAt ps i)]) → (w1.alloc (.cells #[.string (kAt ps i)] 9)).grownBy w2 u3.ownBlock →
          Gathered w w2 (w.heap.size + 1) m ps.length (w.heap.size + 2) sv' (seen ++ [i]) (kAt ps)) := by
        intro sv' w2 o1 o2
        refine ⟨hnd.out.1, hnd.out.2, ?_, ?_, ?_⟩
        · exact ((o2.block _ (by simp; omega) (fun e => by have := hrne _ e.symm; omega)).trans (Below.heap_alloc _ _ _ hrl)).trans hI
        · simpa using o1
        · refine ⟨o2.os.trans hb1.os, o2.tape.trans hb1.tape, o2.output.trans hb1.output, Nat.le_trans hb1.size (Nat.le_trans (by simp) o2.size), fun j hj => ?_⟩
          exact ((o2.block j (by simp; omega) (fun e => by have := hrne _ e.symm; omega)).trans (Below.heap_alloc _ _ _ (by omega))).trans (hb1.block j hj)
      obtain ⟨i0, hi0, hz0, hz1, hz2⟩ := info_parts Tryz.infoS
      clear hobj2 hobj3 hei hI hoff hns hga hnd hbel hb1
      go_wp2_with (at_builtin; refine wpList_append_own_at _ rfl _ _ 22 rfl (w.heap.size + 2) 9 i0 (.string ByteArray.empty) 1 16 Tryz.underlying22 hi0 hz0 hz1 hz2 rfl (by decide) _ _ _ rfl hown1.out ⟨w1.heap.size, 0, none⟩ 1 1 [.string (kAt ps i)] rfl rfl (cell_one_new _ _ _) ?c2 ?c3 ?c4 ?c5 ?_)
      case c2 => first | rfl | (intro y hy; simp at hy; subst hy; rfl)
      case c3 => unfold maxLen; omega
      case c4 => omega
      case c5 => first | omega | (simp; omega)
      · intro sv' w2 o1 o2 _ _
        have HH := hide (hstep.out sv' w2 o1 o2)
        clear o1 o2 hstep hown1 hnext hentry
        go_wp2_with fail
        go_roundg (gk - 1)
        case rel => exact ⟨seen ++ [i], by have := HL.out; simp; omega, HH⟩
        case measure => omega
end Go.Proofs.YtbcafaomfaainaaGreatDoor
