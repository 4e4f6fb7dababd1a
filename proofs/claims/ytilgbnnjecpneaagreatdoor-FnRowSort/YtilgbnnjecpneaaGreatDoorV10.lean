/- Texts of the proof, put together by program: WValB, WLook, MapIt, Shelf, WSort, WKeys. -/
import Derived.Test.YtilgbnnjecpneaaGreatDoorV7
import Derived.Test.YtilgbnnjecpneaaGreatDoorV6
import Derived.Test.YtilgbnnjecpneaaGreatDoorV3
import Derived.Shelf.Sort.Plain
import Derived.Test.YtilgbnnjecpneaaGreatDoorProg
import Derived.Deep.LoopGhost
/- val of rows. -/
namespace Go.Proofs.YtilgbnnjecpneaaGreatDoor
open Go.RowKit Go.Deep

set_option maxRecDepth 100000 in
set_option maxHeartbeats 2000000 in
theorem rowVal_any (d : Nat) (ih : ValC d) (S : Nat → Prop) (xs : List (Tr d)) (sv : Value) (w : World) (hv : Row1At S w (TreeG S w d) sv xs) (hS : Within S w) (hsm : xs.length ≤ 1000) :
    Calls Tryz.prog 139 #[.agg #[sv]] w (ValQ (d + 1) (Nd.mk 5 0 ByteArray.empty [] xs : Nd (Tr d)) w) := by
  obtain ⟨a, cap, rfl, hlen⟩ := hv.open'
  obtain ⟨W0, hW⟩ : ∃ W0, W0 = (w.alloc (.cells #[.slice a xs.length cap] 80)).alloc (.cells #[.int .i64 0, .int .i64 0, .string { data := #[] }, .slice none 0 0, .slice none 0 0] 29) := ⟨_, rfl⟩
  have hW0 : Below w.heap.size w W0 := by rw [hW]; exact below_trans (below_alloc1 _ _) (below_alloc1 _ _)
  have k1 : Blk5 W0 (w.heap.size + 1) 29 (.int .i64 0) (.int .i64 0) (.string { data := #[] }) (.slice none 0 0) (.slice none 0 0) := by
    have := Blk5.new (w.alloc (.cells #[.slice a xs.length cap] 80)) 29 (.int .i64 0) (.int .i64 0) (.string { data := #[] }) (.slice none 0 0) (.slice none 0 0)
    rw [World.size_alloc] at this
    rw [hW]
    exact this
  have HW := hide hW
  clear hW
  go_enter Tryz.func139, Tryz.ntmps139
  go_wp2_with fail
  rw [← HW.out]
  clear HW
  go_loopw [3, 9] (fun lv i wr => ∃ (k : Nat) (vs : List Value) (P : Nat → Nat → Prop), k ≤ xs.length ∧ i = .int .i64 k ∧ Hid (ValsTo W0.heap.size wr lv xs k vs P) ∧ Below W0.heap.size W0 wr) (fun _ i _ => xs.length - (intOf i).toNat)
  case atStart => exact ⟨0, [], _, Nat.zero_le _, rfl, ValsTo.start _ _ _, Below.refl _ _⟩
  case round =>
    obtain ⟨k, vs, P, hkk, rfl, hto, hbel⟩ := hrel
    have hbw := below_trans hW0 hbel
    by_cases hkl : k < xs.length
    · have hsame := hS.same hbw
      obtain ⟨b, o, x, u, rfl, _, hx, hc, hu⟩ := (hv.moved hsame (fun _ h => h) (fun x u hx => TreeG.moved hsame (fun _ h => h) d x u hx)).cell hkl
      obtain ⟨v, hm⟩ := ih S x u wr hu (hS.later hbw.size)
      have HX := hide hx
      have hNs : W0.heap.size ≤ wr.heap.size := hbel.size
      clear hx hv hu hsame hbw
      rcases hm with ⟨rfl, hcall⟩ | ⟨rfl, hcall⟩ | ⟨rfl, hcall⟩ | ⟨rfl, hcall⟩ | ⟨rfl, hcall⟩
      all_goals
        have HC := hide hcall
        clear hcall
        go_wp2_with fail
        refine Calls.mono (R := ValQ d x wr) HC.out ?_
        rintro e w1 ⟨u, rfl, hu, hb1⟩
        obtain ⟨v0, v1, v2, v3, v4, v5, v6, v7, v8, rfl⟩ := (ValOwn.at d _ _ _ hu).shape
        have hb2 := hide (below_trans hbel hb1)
        have hown1 := hide ((hto.out.own.kept (row := none) ⟨hb1.os, hb1.tape, hb1.output, hb1.size, fun i hi _ => hb1.block i hi⟩ (by cases u3.ownBlock <;> simp)).alloc (.cells #[.int .i64 v0, .int .i64 v1, .string v2, .slice v3 v4 v5, .slice v6 v7 v8] 29))
        have hN1 : W0.heap.size ≤ w1.heap.size := hb2.out.size
        have hstep : Hid (∀ sv' w2, w2.ownsRow W0.heap.size 29 5 sv' (k + 1) (vs ++ [.int .i64 v0, .int .i64 v1, .string v2, .slice v3 v4 v5, .slice v6 v7 v8]) → (w1.alloc (.cells #[.int .i64 v0, .int .i64 v1, .string v2, .slice v3 v4 v5, .slice v6 v7 v8] 29)).grownBy w2 (u3.ownBlock) →
            (sv'.ownBlock = u3.ownBlock ∨ sv'.ownBlock = some (w1.alloc (.cells #[.int .i64 v0, .int .i64 v1, .string v2, .slice v3 v4 v5, .slice v6 v7 v8] 29)).heap.size) →
            (∃ P', ValsTo W0.heap.size w2 sv' xs (k + 1) (vs ++ [.int .i64 v0, .int .i64 v1, .string v2, .slice v3 v4 v5, .slice v6 v7 v8]) P') ∧ Below W0.heap.size W0 w2) := by
          intro sv' w2 o1 o2 o3
          have hrow : ∀ g, u3.ownBlock = some g → W0.heap.size ≤ g := fun g hg => (hto.out.own.lt g hg).1
          refine ⟨⟨_, hto.out.step hb1 HX.out hu o1 o2 o3 hNs⟩, ?_⟩
          have hb3 := hb2.out
          refine ⟨o2.os.trans hb3.os, o2.tape.trans hb3.tape, o2.output.trans hb3.output, Nat.le_trans hb3.size (Nat.le_trans (by simp) o2.size), fun i hi => ?_⟩
          exact ((o2.block i (by simp; omega) (fun e => by have := hrow i e.symm; omega)).trans (Below.heap_alloc _ _ _ (by omega))).trans (hb3.block i hi)
        obtain ⟨i0, hi, hz0, hz1, hz2⟩ := info_parts Tryz.infoVal
        clear hto hu hb1 hbel HC hc hb2
        go_wp2_with (at_builtin; refine wpList_append_own_at _ rfl _ _ 27 rfl W0.heap.size 29 i0 zeroVal 5 80 Tryz.underlying27 hi hz0 hz1 hz2 rfl (by decide) _ _ _ rfl hown1.out ⟨w1.heap.size, 0, none⟩ 1 1 [.int .i64 v0, .int .i64 v1, .string v2, .slice v3 v4 v5, .slice v6 v7 v8] rfl rfl (cell_five_new _ _ _ _ _ _ _) ?c2 ?c3 ?c4 ?c5 ?_)
        case c2 => intro y hy; simp at hy; rcases hy with rfl | rfl | rfl | rfl | rfl <;> rfl
        case c3 => unfold maxLen; omega
        case c4 => omega
        case c5 => simp; omega
        · intro sv' w2 o1 o2 _ o3
          have HH := hide (hstep.out sv' w2 o1 o2 (by rw [World.size_alloc]; exact o3))
          clear o1 o2 o3 hstep hown1
          go_wp2_with fail
          go_roundw
          case rel =>
            obtain ⟨⟨P', hP'⟩, hB'⟩ := HH.out
            exact ⟨k + 1, _, P', by omega, by go_num, hP', hB'⟩
          case measure => simp [intOf]; omega
    · obtain rfl : k = xs.length := by omega
      have hdone := hto.out.done (by omega)
      obtain ⟨sa, sc, rfl, _⟩ := hdone.open'
      have k2 := k1.below hbel
      obtain ⟨y0, y1, y2, y3, y4⟩ := k2.cell
      have yf := k2.frozen
      have hend : Hid (∀ wF, wF = set5 wr (w.heap.size + 1) 0 (.int .i64 5) (.int .i64 0) (.string { data := #[] }) (.slice none 0 0) (.slice sa xs.length sc) →
          ValOwn wF (d + 1) (Fresh w wF) (Nd.mk 5 0 ByteArray.empty [] xs : Nd (Tr d)) (.agg #[.int .i64 5, .int .i64 0, .string ByteArray.empty, .slice none 0 0, .slice sa xs.length sc]) ∧ Below w.heap.size w wF) := by
        intro wF hF
        have hlt := k1.lt
        have hsm : ∀ R : Nat → Prop, (∀ b, R b → W0.heap.size ≤ b) → Same R wr wF := fun R hR b hb => by
          rw [hF, set5_block _ _ _ _ _ _ _ _ _ (by have := hR b hb; omega)]
        have hzF : wF.heap.size = wr.heap.size := by rw [hF, set5_size]
        refine ⟨⟨_, _, fun _ => False, fun b => W0.heap.size ≤ b ∧ b < wr.heap.size, rfl, ⟨by show _ ≤ (5 : Int); omega, by show (5 : Int) ≤ _; omega⟩, ⟨by show _ ≤ (0 : Int); omega, by show (0 : Int) ≤ _; omega⟩, by show ByteArray.empty.size < _; decide,
          ⟨by simp, by simp, none, 0, rfl, Or.inl rfl⟩, hdone.moved (hsm _ (fun b hb => hb.1)) (fun _ h => h) (fun P x u hP hx => ValOwn.moved d P P x u hx (hsm P (fun b hb => (hP b hb).1)) (fun _ h => h)), fun _ h => h.elim, fun b hb => ⟨by have := hb.1; have := hW0.size; omega, by rw [hzF]; exact hb.2⟩, fun _ h => h.elim⟩, ?_⟩
        rw [hF]
        exact below_set5 hbw (by omega) _ _ _ _ _ _
      clear hdone hto k2 hv
      go_wp2_with fail
      refine bodyPost_ret (v := .agg #[.int .i64 5, .int .i64 0, .string ByteArray.empty, .slice none 0 0, .slice sa xs.length sc]) (by simp [results, Tryz.results139, go_sem, y0, y1, y2, y3, y4]; rfl) rfl ⟨_, rfl, hend.out _ rfl⟩
end Go.Proofs.YtilgbnnjecpneaaGreatDoor

/- A map of the program's own trees, asked for a key. -/
namespace Go.Proofs.YtilgbnnjecpneaaGreatDoor
open Go.RowKit Go.Deep

theorem findNow_at (s : ByteArray) : ∀ (l : List MapEntry) (j i : Nat) (e : MapEntry), l[j]? = some e → e.key = .string s → (∀ i' e', i' < j → l[i']? = some e' → ∃ k, e'.key = .string k ∧ k ≠ s) →
    Instr.findNow .string (.string s) l i = some (some (i + j, e.val))
  | [], j, _, _, h, _, _ => by simp at h
  | a :: r, 0, i, e, h, hk, _ => by
    simp at h
    subst h
    have hb : (s == s) = true := (MapKept.bytes_beq s s).2 rfl
    simp [Instr.findNow, hk, Instr.sameNow, hb]
  | a :: r, j + 1, i, e, h, hk, hn => by
    obtain ⟨k, ha, hne⟩ := hn 0 a (by omega) rfl
    have hb : (s == k) = false := by
      cases hb : (s == k)
      · rfl
      · exact absurd ((MapKept.bytes_beq s k).1 hb).symm hne
    have ih := findNow_at s r j (i + 1) e (by simpa using h) hk (fun i' e' hi he => hn (i' + 1) e' (by omega) (by simpa using he))
    simp only [Instr.findNow, ha, Instr.sameNow, hb]
    rw [ih]
    congr 3
    omega

theorem run_mapGet (w : World) (r clock j : Nat) (es : Array MapEntry) (s : ByteArray) (u : Value) (b : Nat) (ok : Bool) (hb : w.heap[r]? = some (.map es clock)) (hj : es[j]? = some ⟨.string s, u, b⟩)
    (hn : ∀ i' e', i' < j → es[i']? = some e' → ∃ k, e'.key = .string k ∧ k ≠ s) :
    (Instr.lookup 118 (.map (some r)) (.string s) ok).run Tryz.prog w = .ok (if ok then .tuple #[u, .bool true] else u) w := by
  have hf := findNow_at s es.toList j 0 ⟨.string s, u, b⟩ (by rw [Array.getElem?_toList]; exact hj) rfl (fun i' e' hi he => hn i' e' hi (by rw [Array.getElem?_toList] at he; exact he))
  have hk : ∀ fl, (Instr.checkKey fl 10000 9 (.string s)).run Tryz.prog w = .ok () w := fun fl =>
    MapKept.run_checkKey (P := Tryz.prog) (w := w) (k := .string s) Tryz.underlying9 trivial fl 9999
  have hfk := MapKept.run_findKey (P := Tryz.prog) (w := w) Tryz.underlying9 hf
  simp [Instr.lookup, run_underlying Tryz.underlying118, getObj, Sem.run, hb, hk, hfk]

theorem keysB_nodup {ss : List ByteArray} (h : keysB ss = true) : ss.Nodup := by
  refine (keysGo_pair ss none h).imp_of_mem ?_
  intro a b _ _ hab e
  subst e
  have := (ltB_iff a a).1 hab
  exact absurd this (List.lt_irrefl _)

/-- Where a key of the map lies among its entries. -/
theorem MapG.find {α : Type} {At : α → Value → Prop} {es : Array MapEntry} {ps : List (ByteArray × α)} (h : MapG At es ps) (hnd : (ps.map Prod.fst).Nodup) {s : ByteArray} {x : α} (hx : (s, x) ∈ ps) :
    ∃ (j : Nat) (u : Value), ps[j]? = some (s, x) ∧ es[j]? = some (⟨.string s, u, j⟩ : MapEntry) ∧ At x u ∧ ∀ (i' : Nat) (e' : MapEntry), i' < j → es[i']? = some e' → ∃ k, e'.key = .string k ∧ k ≠ s := by
  obtain ⟨j, hj⟩ := List.getElem?_of_mem hx
  obtain ⟨u, hu, ha⟩ := h.2 j s x hj
  refine ⟨j, u, hj, hu, ha, fun i' e' hi he => ?_⟩
  have hjl := (List.getElem?_eq_some_iff.1 hj).1
  obtain ⟨u', hu', _⟩ := h.2 i' ps[i'].1 ps[i'].2 (List.getElem?_eq_getElem (by omega))
  rw [he] at hu'
  cases hu'
  refine ⟨_, rfl, fun e => ?_⟩
  have h1 : (ps.map Prod.fst)[i']? = some s := by rw [List.getElem?_map, List.getElem?_eq_getElem (by omega), ← e]; rfl
  have h2 : (ps.map Prod.fst)[j]? = some s := by rw [List.getElem?_map, hj]; rfl
  have := (List.getElem?_inj (by rw [List.length_map]; omega) hnd).1 (h1.trans h2.symm)
  omega
/-- A key that the map has not. -/
theorem MapG.miss {α : Type} {At : α → Value → Prop} {es : Array MapEntry} {ps : List (ByteArray × α)} (h : MapG At es ps) {s : ByteArray} (hs : s ∉ ps.map Prod.fst) : ∀ e ∈ es.toList, ∃ k, e.key = .string k ∧ k ≠ s := by
  intro e he
  obtain ⟨i, hi⟩ := List.getElem?_of_mem he
  rw [Array.getElem?_toList] at hi
  have hil := (Array.getElem?_eq_some_iff.1 hi).1
  have hil2 : i < ps.length := by rw [← h.1]; exact hil
  obtain ⟨u, hu, _⟩ := h.2 i ps[i].1 ps[i].2 (List.getElem?_eq_getElem hil2)
  rw [hi] at hu
  cases hu
  exact ⟨_, rfl, fun e => hs (by rw [← e]; exact List.mem_map.2 ⟨ps[i], List.getElem_mem hil2, rfl⟩)⟩
theorem perm_nodup {α : Type} {ps : List (ByteArray × α)} {keys : List ByteArray} {xs : List α} (hp : ps.Perm (keys.zip xs)) (hkx : keys.length = xs.length) (hkb : keysB keys = true) : (ps.map Prod.fst).Nodup := by
  have h := hp.map Prod.fst
  rw [List.map_fst_zip (by omega)] at h
  exact h.nodup_iff.2 (keysB_nodup hkb)
end Go.Proofs.YtilgbnnjecpneaaGreatDoor

/- Going through a map that was filled in order: whichever entry comes next. -/
namespace Go.Proofs.YtilgbnnjecpneaaGreatDoor
open Go.RowKit Go.Deep

theorem find_born : ∀ (l : List MapEntry) (o i : Nat) (e : MapEntry), (∀ j x, l[j]? = some x → x.born = o + j) → l[i]? = some e → l.find? (fun x => x.born == o + i) = some e
  | [], _, i, _, _, h => by simp at h
  | a :: r, o, 0, e, hb, h => by
    simp at h
    subst h
    have := hb 0 a rfl
    simp [this]
  | a :: r, o, i + 1, e, hb, h => by
    have h0 := hb 0 a rfl
    have ih := find_born r (o + 1) i e (fun j x hx => by have := hb (j + 1) x (by simpa using hx); omega) (by simpa using h)
    have hne : (a.born == o + (i + 1)) = false := by rw [beq_eq_false_iff_ne]; omega
    rw [List.find?_cons, hne]
    simpa [Nat.add_assoc, Nat.add_comm 1 i] using ih

/-- The iterator in block r has passed the entries of these numbers. -/
def Iter (w : World) (r m n : Nat) (seen : List Nat) : Prop := w.heap[r]? = some (.mapIter (some m) n seen.toArray n)

/-- What is the same in two worlds but for one block. -/
structure OneOff (r : Nat) (w w' : World) : Prop where
  os : w'.os = w.os
  tape : w'.tape = w.tape
  output : w'.output = w.output
  size : w'.heap.size = w.heap.size
  block : ∀ k, k ≠ r → w'.heap[k]? = w.heap[k]?

theorem run_range_map {P : Program} {T K E : TypeId} (hT : P.underlying T = some (.map K E)) (w : World) (m n : Nat) (es : Array MapEntry) (hm : w.heap[m]? = some (.map es n)) :
    (Instr.range T (.map (some m))).run P w = .ok (.pointer (some ⟨w.heap.size, 0, none⟩)) (w.alloc (.mapIter (some m) n #[] n)) := by
  simp [Instr.range, run_underlying hT, getObj, Sem.run, hm]

theorem run_entry_map {P : Program} (w : World) (r m n i : Nat) (seen : List Nat) (es : Array MapEntry) (e : MapEntry) (hr : Iter w r m n (seen ++ [i])) (hm : w.heap[m]? = some (.map es n))
    (hb : ∀ (j : Nat) (x : MapEntry), es[j]? = some x → x.born = j) (he : es[i]? = some e) :
    (Instr.entry (.pointer (some ⟨r, 0, none⟩))).run P w = .ok (.tuple #[e.key, e.val]) w := by
  have hf : es.find? (fun x => x.born == i) = some e := by
    have := find_born es.toList 0 i e (fun j x hx => by rw [Array.getElem?_toList] at hx; rw [hb j x hx]; omega) (by rw [Array.getElem?_toList]; exact he)
    rw [Nat.zero_add] at this
    rw [← Array.find?_toList]
    exact this
  unfold Iter at hr
  simp [Instr.entry, getObj, Sem.run, hr, hm, hf]

/-- The entries that are still to come. -/
theorem next_left (es : Array MapEntry) (seen : List Nat) (n : Nat) (hb : ∀ (j : Nat) (x : MapEntry), es[j]? = some x → x.born = j) (hs : es.size = n) :
    ((es.filter fun e => !seen.toArray.contains e.born).filter (fun e => decide (e.born < n))) = (es.filter fun e => !seen.toArray.contains e.born) ∧
    ((es.filter fun e => !seen.toArray.contains e.born).filter (fun e => decide (e.born ≥ n))) = #[] := by
  have hlt : ∀ e ∈ es, e.born < n := fun e he => by
    obtain ⟨j, hj, rfl⟩ := Array.getElem_of_mem he
    rw [hb j _ (Array.getElem?_eq_getElem hj)]
    omega
  constructor
  · rw [Array.filter_eq_self]
    intro e he
    exact decide_eq_true (hlt e (Array.mem_filter.1 he).1)
  · rw [Array.filter_eq_empty_iff]
    intro e he
    have := hlt e (Array.mem_filter.1 he).1
    simp
    omega

theorem run_choose_map {P : Program} (w : World) (s : Nat) (h : 0 < s) : ∃ k w1, (choose (.mapNext s)).run P w = .ok k w1 ∧ k < s ∧ w1.heap = w.heap ∧ w1.os = w.os ∧ w1.tape = w.tape ∧ w1.output = w.output := by
  by_cases h1 : s ≤ 1
  · exact ⟨0, w, by simp [choose, Sem.run, Question.forced, h1], h, rfl, rfl, rfl, rfl⟩
  · refine ⟨w.tape w.drawn (.mapNext s) % s, { w with drawn := w.drawn + 1 }, by simp [choose, Sem.run, Question.forced, h1, Question.cut], Nat.mod_lt _ h, rfl, rfl, rfl, rfl⟩

theorem run_next_map {P : Program} (w : World) (r m n : Nat) (seen : List Nat) (es : Array MapEntry) (hr : Iter w r m n seen) (hm : w.heap[m]? = some (.map es n)) (hs : es.size = n) (hb : ∀ (j : Nat) (x : MapEntry), es[j]? = some x → x.born = j) :
    ((∀ i, i < n → i ∈ seen) ∧ ∀ ty, (Instr.next (.pointer (some ⟨r, 0, none⟩)) false ty).run P w = .ok (.tuple #[.bool false]) w) ∨
    ∃ i e w', i < n ∧ i ∉ seen ∧ es[i]? = some e ∧ Iter w' r m n (seen ++ [i]) ∧ OneOff r w w' ∧ ∀ ty, (Instr.next (.pointer (some ⟨r, 0, none⟩)) false ty).run P w = .ok (.tuple #[.bool true, e.key, e.val]) w' := by
  obtain ⟨hl1, hl2⟩ := next_left es seen n hb hs
  have hrl : r < w.heap.size := (Array.getElem?_eq_some_iff.1 hr).1
  unfold Iter at hr
  have hstop : (!seen.toArray.isEmpty && !es.isEmpty && es.all (fun x => decide (x.born ≥ n))) = false := by
    by_cases he : es.isEmpty = true
    · simp [he]
    · have h0 : 0 < es.size := by
        rcases Nat.eq_zero_or_pos es.size with h | h
        · exact absurd (by simpa using h) he
        · exact h
      have : es.all (fun x => decide (x.born ≥ n)) = false := by
        cases hc : es.all (fun x => decide (x.born ≥ n)) with
        | false => rfl
        | true =>
          have := Array.all_eq_true.1 hc 0 h0
          rw [hb 0 _ (Array.getElem?_eq_getElem h0)] at this
          simp at this
          omega
      simp [this]
  generalize hleft : (es.filter fun e => !seen.toArray.contains e.born) = left at hl1 hl2
  by_cases hemp : left.isEmpty = true
  · left
    obtain rfl : left = #[] := by simpa using hemp
    refine ⟨fun i hi => ?_, fun ty => ?_⟩
    · have hn : es[i]'(by omega) ∉ (es.filter fun e => !seen.toArray.contains e.born) := by rw [hleft]; simp
      have hb2 := hb i _ (Array.getElem?_eq_getElem (by omega))
      simp [Array.mem_filter, hb2] at hn
      exact hn
    · simp only [Instr.next, getObj, Sem.run_bind, Sem.run, hr, hm, Result.andThen, hstop, Bool.false_eq_true, if_false, hleft]
      simp [choose, Sem.run, Question.forced, pure]
  · right
    have hpos : 0 < left.size := by
      rcases Nat.eq_zero_or_pos left.size with h | h
      · exact absurd (by simpa using h) hemp
      · exact h
    obtain ⟨k, w1, hch, hk, e1, e2, e3, e4⟩ := run_choose_map (P := P) w left.size hpos
    have hmem : left[k] ∈ (es.filter fun e => !seen.toArray.contains e.born) := by rw [hleft]; exact Array.getElem_mem hk
    obtain ⟨hme, hns⟩ := Array.mem_filter.1 hmem
    obtain ⟨i, hi, hie⟩ := Array.getElem_of_mem hme
    have hbi := hb i _ (Array.getElem?_eq_getElem hi)
    rw [hie] at hbi
    refine ⟨i, left[k], withObj w1 r (.mapIter (some m) n (seen ++ [i]).toArray n), by omega, ?_, by rw [Array.getElem?_eq_getElem hi, hie], ?_, ⟨e2, e3, e4, by rw [withObj_size, e1], fun j hj => by rw [withObj_block _ _ _ _ hj, e1]⟩, fun ty => ?_⟩
    · simp [hbi] at hns
      exact hns
    · exact withObj_at _ _ _ (by rw [e1]; exact hrl)
    · have hcand : ((if (Array.filter (fun x => decide (x.born < n)) left).isEmpty = true then #[none] else #[]) ++ Array.map some (Array.filter (fun x => decide (x.born < n)) left ++ Array.filter (fun x => decide (x.born ≥ n)) left)) = Array.map some left := by
        rw [hl1, hl2, if_neg hemp]
        simp
      have hr1 : w1.heap[r]? = some (.mapIter (some m) n seen.toArray n) := by rw [e1]; exact hr
      simp only [Instr.next, getObj, Sem.run_bind, Sem.run, hr, hm, Result.andThen, hstop, Bool.false_eq_true, if_false, hleft, hcand, Array.size_map, hch]
      simp [hk, setObj, Sem.run, hr1, hbi, withObj]
end Go.Proofs.YtilgbnnjecpneaaGreatDoor

/- The library's sort at this program's numbers: laid by program. -/
namespace Go.Proofs
open Go.Shelf
def Tryz.lays190_ren : Go.Shelf.Ren := ⟨fun | 190 => 154 | 125 => 156 | 258 => 155 | 128 => 166 | 129 => 167 | 302 => 157 | 303 => 158 | 304 => 159 | 305 => 160 | 306 => 161 | 307 => 162 | 308 => 163 | 309 => 164 | 310 => 165 | 333 => 168 | 329 => 169 | 330 => 170 | 334 => 171 | 335 => 172 | 336 => 93 | 344 => 173 | n => n, fun | 31 => 22 | 9 => 9 | 3 => 3 | 46 => 194 | 0 => 0 | 51 => 181 | 53 => 206 | 4 => 4 | 183 => 197 | 182 => 196 | 131 => 202 | 5 => 5 | 218 => 207 | 222 => 210 | 228 => 212 | 229 => 107 | n => n, fun | n => n⟩
theorem Tryz.lays190 : Go.Proofs.Lays.n190 Tryz.prog Tryz.lays190_ren := {
  mixed := by kernel_rfl
  f125 := Tryz.func156.trans (congrArg some (by kernel_rfl))
  f128 := Tryz.func166.trans (congrArg some (by kernel_rfl))
  f129 := Tryz.func167.trans (congrArg some (by kernel_rfl))
  f190 := Tryz.func154.trans (congrArg some (by kernel_rfl))
  f258 := Tryz.func155.trans (congrArg some (by kernel_rfl))
  f302 := Tryz.func157.trans (congrArg some (by kernel_rfl))
  f303 := Tryz.func158.trans (congrArg some (by kernel_rfl))
  f304 := Tryz.func159.trans (congrArg some (by kernel_rfl))
  f305 := Tryz.func160.trans (congrArg some (by kernel_rfl))
  f306 := Tryz.func161.trans (congrArg some (by kernel_rfl))
  f307 := Tryz.func162.trans (congrArg some (by kernel_rfl))
  f308 := Tryz.func163.trans (congrArg some (by kernel_rfl))
  f309 := Tryz.func164.trans (congrArg some (by kernel_rfl))
  f310 := Tryz.func165.trans (congrArg some (by kernel_rfl))
  f329 := Tryz.func169.trans (congrArg some (by kernel_rfl))
  f330 := Tryz.func170.trans (congrArg some (by kernel_rfl))
  f333 := Tryz.func168.trans (congrArg some (by kernel_rfl))
  f334 := Tryz.func171.trans (congrArg some (by kernel_rfl))
  f335 := Tryz.func172.trans (congrArg some (by kernel_rfl))
  f336 := Tryz.func93.trans (congrArg some (by kernel_rfl))
  f344 := Tryz.func173.trans (congrArg some (by kernel_rfl))
  t0 := Tryz.underlying0
  a0 := Tryz.isAgg0
  z0 := Tryz.sizeOf0
  v0 := Tryz.zeroValue0
  t3 := Tryz.underlying3
  a3 := Tryz.isAgg3
  z3 := Tryz.sizeOf3
  v3 := Tryz.zeroValue3
  t4 := Tryz.underlying4
  a4 := Tryz.isAgg4
  z4 := Tryz.sizeOf4
  v4 := Tryz.zeroValue4
  t5 := Tryz.underlying5
  a5 := Tryz.isAgg5
  z5 := Tryz.sizeOf5
  v5 := Tryz.zeroValue5
  t9 := Tryz.underlying9
  a9 := Tryz.isAgg9
  z9 := Tryz.sizeOf9
  v9 := Tryz.zeroValue9
  t31 := Tryz.underlying22
  a31 := Tryz.isAgg22
  z31 := Tryz.sizeOf22
  v31 := Tryz.zeroValue22
  t46 := Tryz.underlying194
  a46 := Tryz.isAgg194
  z46 := Tryz.sizeOf194
  v46 := Tryz.zeroValue194
  t51 := Tryz.underlying181
  a51 := Tryz.isAgg181
  z51 := Tryz.sizeOf181
  v51 := Tryz.zeroValue181
  t53 := Tryz.underlying206
  a53 := Tryz.isAgg206
  z53 := Tryz.sizeOf206
  v53 := Tryz.zeroValue206
  t131 := Tryz.underlying202
  a131 := Tryz.isAgg202
  z131 := Tryz.sizeOf202
  v131 := Tryz.zeroValue202
  t182 := Tryz.underlying196
  a182 := Tryz.isAgg196
  z182 := Tryz.sizeOf196
  v182 := Tryz.zeroValue196
  t183 := Tryz.underlying197
  a183 := Tryz.isAgg197
  z183 := Tryz.sizeOf197
  v183 := Tryz.zeroValue197
  t218 := Tryz.underlying207
  a218 := Tryz.isAgg207
  z218 := Tryz.sizeOf207
  v218 := Tryz.zeroValue207
  t222 := Tryz.underlying210
  a222 := Tryz.isAgg210
  z222 := Tryz.sizeOf210
  v222 := Tryz.zeroValue210
  t228 := Tryz.underlying212
  a228 := Tryz.isAgg212
  z228 := Tryz.sizeOf212
  v228 := Tryz.zeroValue212
  t229 := Tryz.underlying107
  a229 := Tryz.isAgg107
  z229 := Tryz.sizeOf107
  v229 := Tryz.zeroValue107 }
end Go.Proofs

/- slices.Sort of texts, as the library's own contract has it. -/
namespace Go.Proofs.YtilgbnnjecpneaaGreatDoor
open Go.RowKit Go.Deep Go.Sort

theorem sortStrs : SortStrs := fun blk cap ss w hH hb hl => Any.slices_Sort_string Tryz.lays190 blk 0 cap ss w hH hb hl
end Go.Proofs.YtilgbnnjecpneaaGreatDoor

/- mapTree.keys: the keys, in order, in new memory. -/
namespace Go.Proofs.YtilgbnnjecpneaaGreatDoor
open Go.RowKit Go.Deep Go.Sort

/-- The key at a place. -/
def kAt {α : Type} (ps : List (ByteArray × α)) (i : Nat) : ByteArray := (ps.map Prod.fst).getD i ByteArray.empty
theorem OneOff.grown {r : Nat} {w w' : World} (h : OneOff r w w') : w.grownBy w' (some r) := ⟨h.os, h.tape, h.output, by rw [h.size]; exact Nat.le_refl _, fun k _ hk => h.block k (fun e => hk (by rw [e]))⟩
theorem kAt_range {α : Type} (ps : List (ByteArray × α)) : (List.range ps.length).map (kAt ps) = ps.map Prod.fst := by
  apply List.ext_getElem
  · simp
  · intro i h1 h2
    simp only [List.length_map, List.length_range] at h1
    simp [kAt, h1]
theorem seen_all_perm {n : Nat} {seen : List Nat} (hd : seen.Nodup) (hl : ∀ i ∈ seen, i < n) (ha : ∀ i, i < n → i ∈ seen) : seen.Perm (List.range n) := by
  rw [List.perm_ext_iff_of_nodup hd List.nodup_range]
  intro a
  simp only [List.mem_range]
  exact ⟨hl a, ha a⟩
theorem seen_len_le {n : Nat} {seen : List Nat} (hd : seen.Nodup) (hl : ∀ i ∈ seen, i < n) : seen.length ≤ n := by
  have := List.Nodup.length_le_of_subset hd (l₂ := List.range n) (fun i hi => List.mem_range.2 (hl i hi))
  simpa using this
theorem zip_fst {α : Type} (ks : List ByteArray) (xs : List α) (h : ks.length = xs.length) : (ks.zip xs).map Prod.fst = ks := by
  rw [List.map_fst_zip (by omega)]

/-- What a loop over a map's keys has gathered. -/
structure Gathered (w wr : World) (r m n N : Nat) (v : Value) (seen : List Nat) (ks : Nat → ByteArray) : Prop where
  nodup : seen.Nodup
  lt : ∀ i ∈ seen, i < n
  iter : Iter wr r m n seen
  row : wr.ownsRow N 9 1 v seen.length (seen.map (fun i => Value.string (ks i)))
  below : Below w.heap.size w wr

theorem Tryz.infoS : (Tryz.prog.info? 9).map (fun i => (i.zero, i.size, i.bytes)) = some (some (.string ByteArray.empty), 1, 16) := by kernel_rfl

set_option maxRecDepth 100000 in
set_option maxHeartbeats 2000000 in
theorem keys_any {α : Type} (S : Nat → Prop) (At : α → Value → Prop) (ps : List (ByteArray × α)) (keys : List ByteArray) (xs : List α) (m : Nat) (es : Array MapEntry) (w : World) (hSm : S m) (hobj : w.heap[m]? = some (.map es ps.length)) (hmap : MapG At es ps) (hS : Within S w)
    (hp : ps.Perm (keys.zip xs)) (hkx : keys.length = xs.length) (hkb : keysB keys = true) (hsm : xs.length ≤ 1000) :
    Calls Tryz.prog 153 #[.agg #[.map (some m)]] w fun e w' => ∃ u, e = .returned u ∧ StrsOwn (Fresh w w') w' u keys ∧ Below w.heap.size w w' := by
  obtain ⟨hes, hent⟩ := hmap
  have hmw := hS m hSm
  have hpl : ps.length = keys.length := by rw [hp.length_eq, List.length_zip, hkx, Nat.min_self]
  have hn : ps.length ≤ 1000 := by omega
  have hpk : Hid ((ps.map Prod.fst).Perm keys) := by
    have := hp.map Prod.fst
    rw [zip_fst keys xs hkx] at this
    exact this
  have hborn : ∀ (j : Nat) (x : MapEntry), es[j]? = some x → x.born = j := fun j x hx => by
    have hj := (Array.getElem?_eq_some_iff.1 hx).1
    obtain ⟨u, hu, _⟩ := hent j ps[j].1 ps[j].2 (List.getElem?_eq_getElem (by omega))
    rw [hx] at hu
    cases hu
    rfl
  have hkey : Hid (∀ (j : Nat) (x : MapEntry), es[j]? = some x → ∃ u, x = ⟨.string (kAt ps j), u, j⟩) := fun j x hx => by
    have hj := (Array.getElem?_eq_some_iff.1 hx).1
    obtain ⟨u, hu, _⟩ := hent j ps[j].1 ps[j].2 (List.getElem?_eq_getElem (by omega))
    rw [hx] at hu
    cases hu
    have hj2 : j < ps.length := by omega
    exact ⟨u, by simp [kAt, hj2]⟩
  have hrun := run_range_map (P := Tryz.prog) (T := 118) Tryz.underlying118 (w.alloc (.cells #[.map (some m)] 120)) m ps.length es ((Below.heap_alloc _ _ _ hmw).trans hobj)
  obtain ⟨W1, hW1⟩ : ∃ W1, W1 = (w.alloc (.cells #[.map (some m)] 120)).alloc (.mapIter (some m) ps.length #[] ps.length) := ⟨_, rfl⟩
  have hz1 : W1.heap.size = w.heap.size + 2 := by rw [hW1]; simp
  have H1 : Hid (Gathered w W1 (w.heap.size + 1) m ps.length (w.heap.size + 2) (.slice none 0 0) [] (kAt ps)) := by
    refine ⟨List.nodup_nil, (fun i h => by cases h), ?_, World.ownsRow_nil _ _ _ _, ?_⟩
    · rw [hW1]
      have := heap_alloc_new (w.alloc (.cells #[.map (some m)] 120)) (.mapIter (some m) ps.length #[] ps.length)
      simpa [Iter] using this
    · rw [hW1]; exact below_trans (below_alloc1 _ _) (below_alloc1 _ _)
  have HW := hide hW1
  have HZ1 := hide hz1
  have HPL := hide hpl
  have HKX := hide hkx
  clear hW1 hent hp hpl hkx hz1
  go_enter Tryz.func153, Tryz.ntmps153
  go_wp2_with fail
  rw [← HW.out]
  clear HW hrun
  go_loopg [3] ps.length (fun gk v wr => ∃ (seen : List Nat), seen.length + gk = ps.length ∧ Hid (Gathered w wr (w.heap.size + 1) m ps.length (w.heap.size + 2) v seen (kAt ps)))
  case atStart => exact ⟨[], by simp, H1⟩
  case round =>
    clear H1
    obtain ⟨seen, hlen, hga⟩ := hrel
    have HL := hide hlen
    clear hlen
    have hbel := hga.out.below
    have hobj2 : wr.heap[m]? = some (.map es ps.length) := (hbel.block m hmw).trans hobj
    rcases run_next_map (P := Tryz.prog) wr (w.heap.size + 1) m ps.length seen es hga.out.iter hobj2 hes hborn with ⟨hall, hnext⟩ | ⟨i, e, w1, hi, hns, hei, hI, hoff, hnext⟩
    · have hperm := seen_all_perm hga.out.nodup hga.out.lt hall
      have hsl : seen.length = ps.length := by rw [hperm.length_eq, List.length_range]
      have hcs : (seen.map (fun i => (kAt ps i).data.toList)).Perm (keys.map (fun s => s.data.toList)) := by
        have h1 := (hperm.map (kAt ps)).map (fun s : ByteArray => s.data.toList)
        rw [kAt_range, List.map_map] at h1
        exact h1.trans (hpk.out.map _)
      have hsort := sort_keys hkb hcs
      have hrow := hga.out.row
      have HLK := hide hsl
      have hfin : ∀ (v : Value) (w2 : World), w2.ownsRow (w.heap.size + 2) 9 1 v ps.length (keys.map Value.string) → Below w.heap.size w w2 → ∃ u, Ending.returned v = .returned u ∧ StrsOwn (Fresh w w2) w2 u keys ∧ Below w.heap.size w w2 := fun v w2 ho hb => by
        refine ⟨v, rfl, ?_, hb⟩
        have := HPL.out
        exact (strsOwn_of_row ho HPL.out (by omega) (fun s hs => by have := strOk_size (keysB_strOk keys none hkb s hs); omega)).moved (Same.refl _ _) (fun b hb => ⟨by have := hb.1; omega, hb.2⟩)
      have HF := hide hfin
      rcases hrow.2 with ⟨rfl, h0⟩ | ⟨g, cap, cur, rfl, hg, hh, hnc, hcm, hcu, htake⟩
      · have hk0 : Hid (keys = []) := List.eq_nil_of_length_eq_zero (by have := HPL.out; omega)
        have hrow0 : Hid (wr.ownsRow (w.heap.size + 2) 9 1 (.slice none 0 0) ps.length (keys.map Value.string)) := by
          rw [hk0.out, ← HLK.out, h0]
          exact World.ownsRow_nil _ _ _ _
        clear hperm hsl hcs hsort hall hobj2 hrow hga hfin h0
        go_wp2_with fail
        refine (sort_nil none 0 wr).mono ?_
        rintro e w' ⟨rfl, rfl⟩
        go_wp2_with fail
        go_ret
        exact HF.out _ _ hrow0.out hbel
      · have hH : Holds encStr wr g 0 (seen.map (fun i => (kAt ps i).data.toList)).toArray := holds_of_block hh (by
          rw [List.length_map, List.map_map]
          rw [Nat.mul_one] at htake
          exact htake)
        have hcall := sortStrs g cap (seen.map (fun i => (kAt ps i).data.toList)) wr hH (Array.getElem?_eq_some_iff.1 hh).1 (by rw [List.length_map]; omega)
        rw [List.length_map, hsort] at hcall
        have hafter : Hid (∀ n os, (grow (putRow encStr (Sort.ahead wr n) g 0 (keys.map (fun s => s.data.toList)).toArray) os).ownsRow (w.heap.size + 2) 9 1 (.slice (some ⟨g, 0, none⟩) seen.length cap) ps.length (keys.map Value.string) ∧
            Below w.heap.size w (grow (putRow encStr (Sort.ahead wr n) g 0 (keys.map (fun s => s.data.toList)).toArray) os)) := by
          intro n os
          have h1 := ownsRow_sorted (w := wr) (base := w.heap.size + 2) (g := g) (cap := cap) (n := n) (e := 9) (os := os) (cur := cur) (ss := seen.map (fun i => (kAt ps i).data.toList)) (ts := keys.map (fun s => s.data.toList))
            (by rw [List.length_map, List.length_map, hsl, HPL.out]) hg hh (by rw [List.length_map]; exact hnc) hcm hcu
          rw [List.length_map, enc_keys] at h1
          have hgr := grownBy_sorted (w := wr) (g := g) (n := n) (os := os) (keys.map (fun s => s.data.toList)).toArray
          refine ⟨by rw [← HLK.out]; exact h1, hgr.os.trans hbel.os, hgr.tape.trans hbel.tape, hgr.output.trans hbel.output, Nat.le_trans hbel.size hgr.size, fun j hj => ?_⟩
          exact (hgr.block j (by have := hbel.size; omega) (fun e => by cases e; omega)).trans (hbel.block j hj)
        have HC := hide hcall
        clear hperm hcs hsort hall hobj2 hrow hga hfin hcall hH hh hnc hcm hcu htake hsl
        go_wp2_with fail
        refine HC.out.mono ?_
        rintro e w' ⟨rfl, n, os, rfl⟩
        have HA := hide (hafter.out n os)
        clear hafter HC
        generalize grow (putRow encStr (Sort.ahead wr n) g 0 (keys.map (fun s => s.data.toList)).toArray) os = w2 at *
        go_wp2_with fail
        go_ret
        exact HF.out _ _ HA.out.1 HA.out.2
    · obtain ⟨u, rfl⟩ := hkey.out i e hei
      have hb1 : Below w.heap.size w w1 := hbel.trans ⟨hoff.os, hoff.tape, hoff.output, by rw [hoff.size]; exact Nat.le_refl _, fun k hk => hoff.block k (by omega)⟩
      have hobj3 : w1.heap[m]? = some (.map es ps.length) := (hb1.block m hmw).trans hobj
      have hentry := run_entry_map (P := Tryz.prog) w1 (w.heap.size + 1) m ps.length i seen es _ hI hobj3 hborn hei
      have hrl : w.heap.size + 1 < w1.heap.size := (Array.getElem?_eq_some_iff.1 hI).1
      have hrne : ∀ g, u3.ownBlock = some g → w.heap.size + 2 ≤ g := fun g hg => (hga.out.row.lt g hg).1
      have hown1 := hide ((hga.out.row.kept hoff.grown (by
        cases hq : u3.ownBlock with
        | none => exact Or.inl rfl
        | some g => exact Or.inr (fun e => by cases e; have := hrne _ hq; omega))).alloc (.cells #[.string (kAt ps i)] 9))
      have hnd : Hid ((seen ++ [i]).Nodup ∧ ∀ j ∈ seen ++ [i], j < ps.length) := by
        refine ⟨?_, fun j hj => ?_⟩
        · rw [List.nodup_append]
          exact ⟨hga.out.nodup, by simp, fun a ha b hb e => by simp at hb; subst hb; subst e; exact hns ha⟩
        · rcases List.mem_append.1 hj with h | h
          · exact hga.out.lt j h
          · simp at h; subst h; exact hi
      have hgk : 1 ≤ gk := by
        have h1 := seen_len_le hnd.out.1 hnd.out.2
        have h2 := HL.out
        simp at h1
        omega
      have hsl : seen.length ≤ 1000 := by
        have := HL.out
        omega
      have hstep : Hid (∀ sv' w2, w2.ownsRow (w.heap.size + 2) 9 1 sv' (seen.length + 1) (seen.map (fun i => Value.string (kAt ps i)) ++ [.string (kAt ps i)]) → (w1.alloc (.cells #[.string (kAt ps i)] 9)).grownBy w2 u3.ownBlock →
          Gathered w w2 (w.heap.size + 1) m ps.length (w.heap.size + 2) sv' (seen ++ [i]) (kAt ps)) := by
        intro sv' w2 o1 o2
        refine ⟨hnd.out.1, hnd.out.2, ?_, ?_, ?_⟩
        · exact ((o2.block _ (by simp; omega) (fun e => by have := hrne _ e.symm; omega)).trans (Below.heap_alloc _ _ _ hrl)).trans hI
        · simpa using o1
        · refine ⟨o2.os.trans hb1.os, o2.tape.trans hb1.tape, o2.output.trans hb1.output, Nat.le_trans hb1.size (Nat.le_trans (by simp) o2.size), fun j hj => ?_⟩
          exact ((o2.block j (by simp; omega) (fun e => by have := hrne _ e.symm; omega)).trans (Below.heap_alloc _ _ _ (by omega))).trans (hb1.block j hj)
      obtain ⟨i0, hi0, hz0, hz1, hz2⟩ := info_parts Tryz.infoS
      clear hobj2 hobj3 hei hI hoff hns hga hnd hbel hb1
      go_wp2_with (at_builtin; refine wpList_append_own_at _ rfl _ _ 22 rfl (w.heap.size + 2) 9 i0 (.string ByteArray.empty) 1 16 Tryz.underlying22 hi0 hz0 hz1 hz2 rfl (by decide) _ _ _ rfl hown1.out ⟨w1.heap.size, 0, none⟩ 1 1 [.string (kAt ps i)] rfl rfl (cell_one_new _ _ _) ?c2 ?c3 ?c4 ?c5 ?_)
      case c2 => first | rfl | (intro y hy; simp at hy; subst hy; rfl)
      case c3 => unfold maxLen; omega
      case c4 => omega
      case c5 => first | omega | (simp; omega)
      · intro sv' w2 o1 o2 _ _
        have HH := hide (hstep.out sv' w2 o1 o2)
        clear o1 o2 hstep hown1 hnext hentry
        go_wp2_with fail
        go_roundg (gk - 1)
        case rel => exact ⟨seen ++ [i], by have := HL.out; simp; omega, HH⟩
        case measure => omega
end Go.Proofs.YtilgbnnjecpneaaGreatDoor
