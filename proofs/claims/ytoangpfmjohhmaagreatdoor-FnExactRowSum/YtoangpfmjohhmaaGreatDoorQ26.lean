/- Texts of the proof, put together by program: WAddM. -/
import Derived.Test.YtoangpfmjohhmaaGreatDoorQ9
import Derived.Test.YtoangpfmjohhmaaGreatDoorQ13
import Derived.Test.YtoangpfmjohhmaaGreatDoorQ5
/- addMaps of the program: two maps put into a third. -/
namespace Go.Proofs.YtoangpfmjohhmaaGreatDoor
open Go.RowKit Go.Deep

theorem range_pairs {α : Type} (qs : List α) : ∀ k, k ≤ qs.length → (List.range k).filterMap (fun i => qs[i]?) = qs.take k
  | 0, _ => by simp
  | k + 1, h => by
    have hk : k < qs.length := h
    rw [List.range_succ, List.filterMap_append, range_pairs qs k (by omega), List.take_succ_eq_append_getElem hk]
    simp [hk]
theorem seen_pairs {α : Type} (qs : List α) {seen : List Nat} (h : seen.Perm (List.range qs.length)) : (seen.filterMap (fun i => qs[i]?)).Perm qs := by
  have h1 := h.filterMap (fun i => qs[i]?)
  rw [range_pairs qs qs.length (Nat.le_refl _), List.take_of_length_le (Nat.le_refl _)] at h1
  exact h1
theorem putAll_push {α : Type} (ps : List (ByteArray × α)) (qs : List (ByteArray × α)) (seen : List Nat) (i : Nat) {q : ByteArray × α} (h : qs[i]? = some q) : putAll ps ((seen ++ [i]).filterMap (fun i => qs[i]?)) = putP (putAll ps (seen.filterMap (fun i => qs[i]?))) q := by
  rw [List.filterMap_append]
  unfold putAll
  rw [List.foldl_append]
  simp [h]
theorem putP_len {α : Type} (ps : List (ByteArray × α)) (q : ByteArray × α) : (putP ps q).length ≤ ps.length + 1 := by
  have := putL_length (ps.map Prod.fst) (ps.map Prod.snd) q.1 q.2
  rw [List.length_map] at this
  exact this
theorem putAll_len {α : Type} : ∀ (qs ps : List (ByteArray × α)), (putAll ps qs).length ≤ ps.length + qs.length
  | [], _ => Nat.le_refl _
  | q :: r, ps => by
    have h1 := putAll_len r (putP ps q)
    have h2 := putP_len ps q
    show (putAll (putP ps q) r).length ≤ _
    rw [List.length_cons]
    omega

theorem num_bounds {d : Nat} {t : Tr (d + 1)} (h : okT (d + 1) t = true) : Nd.kind t = 3 → -1000000 ≤ Nd.num t ∧ Nd.num t ≤ 1000000 := fun h3 => by
  obtain ⟨hf, _⟩ := okT_form h
  obtain ⟨kind, num, str, keys, list⟩ := t
  have h3 : kind = 3 := h3
  subst h3
  cases hb : headBad 3 num str keys.length list.length 6 with
  | true => rw [formT_bad hb] at hf; cases hf
  | false =>
    rw [formT_good hb] at hf
    simp at hf
    exact hf
theorem str_bounds {d : Nat} {t : Tr (d + 1)} (h : okT (d + 1) t = true) : Nd.kind t = 4 → (Nd.str t).size ≤ 12 := fun h4 => strOk_size (okT_text h h4)

/-- What stands while the pairs of one map are put into another. -/
structure Adding {d : Nat} (S : Nat → Prop) (B : Nat) (w wr : World) (rp ri m : Nat) (qs acc0 : List (ByteArray × Tr d)) (seen : List Nat) (es : Array MapEntry) (ps : List (ByteArray × Tr d)) : Prop where
  nodup : seen.Nodup
  lt : ∀ i ∈ seen, i < qs.length
  iter : Iter wr ri m qs.length seen
  map : MapB S wr rp es ps (putAll acc0 (seen.filterMap (fun i => qs[i]?)))
  good : keysB ((putAll acc0 (seen.filterMap (fun i => qs[i]?))).map Prod.fst) = true
  but : ∀ c, c < ri → c ≠ rp → wr.heap[c]? = w.heap[c]?
  below : Below B w wr

theorem Adding.step {d B : Nat} {S : Nat → Prop} {w wr w1 w2 : World} {rp ri m i : Nat} {qs acc0 : List (ByteArray × Tr d)} {seen : List Nat} {es es2 : Array MapEntry} {ps ps2 : List (ByteArray × Tr d)} {s : ByteArray} {x : Tr d} (h : Adding S B w wr rp ri m qs acc0 seen es ps) (hi : i < qs.length) (hq : qs[i]? = some (s, x)) (hn : i ∉ seen) (hs : strOk s = true) (hI : Iter w1 ri m qs.length (seen ++ [i])) (hoff : OneOff ri wr w1) (hne : ri ≠ rp)
    (hsz : w2.heap.size = w1.heap.size) (hblk : ∀ b, b ≠ rp → w2.heap[b]? = w1.heap[b]?) (hbel : Below rp w1 w2) (hm2 : MapB S w2 rp es2 ps2 (putL ((putAll acc0 (seen.filterMap (fun i => qs[i]?))).map Prod.fst) ((putAll acc0 (seen.filterMap (fun i => qs[i]?))).map Prod.snd) s x)) (hB1 : B ≤ rp) (hB2 : B ≤ ri) : Adding S B w w2 rp ri m qs acc0 (seen ++ [i]) es2 ps2 := by
  have hpp := putAll_push acc0 qs seen i hq
  refine ⟨?_, fun j hj => ?_, (hblk ri hne).trans hI, ?_, ?_, fun c hc hcp => (hblk c hcp).trans ((hoff.block c (by omega)).trans (h.but c hc hcp)), ?_⟩
  · rw [List.nodup_append]
    exact ⟨h.nodup, by simp, fun a ha b hb e => by simp at hb; subst hb; subst e; exact hn ha⟩
  · rcases List.mem_append.1 hj with hj | hj
    · exact h.lt j hj
    · rw [List.mem_singleton.1 hj]; exact hi
  · rw [hpp]; exact hm2
  · rw [hpp]; exact putP_order (q := (s, x)) hs h.good
  · exact ⟨hbel.os.trans (hoff.os.trans h.below.os), hbel.tape.trans (hoff.tape.trans h.below.tape), hbel.output.trans (hoff.output.trans h.below.output), by rw [hsz, hoff.size]; exact h.below.size, fun c hc => (hblk c (by omega)).trans ((hoff.block c (by omega)).trans (h.below.block c hc))⟩

/-- What is known of a map that is gone through. -/
structure MapIn {d : Nat} (S : Nat → Prop) (w : World) (r : Nat) (es : Array MapEntry) (qs ps : List (ByteArray × Tr d)) : Prop where
  obj : w.heap[r]? = some (.map es qs.length)
  ent : MapG (TreeG S w d) es qs
  perm : qs.Perm ps
  keys : keysB (ps.map Prod.fst) = true
theorem MapIn.ok {d r : Nat} {S : Nat → Prop} {w : World} {es : Array MapEntry} {qs ps : List (ByteArray × Tr d)} (h : MapIn S w r es qs ps) {i : Nat} {s : ByteArray} {x : Tr d} (hq : qs[i]? = some (s, x)) : strOk s = true :=
  keys_ok h.keys (s, x) (h.perm.mem_iff.1 (List.mem_of_getElem? hq))
theorem MapIn.born {d r : Nat} {S : Nat → Prop} {w : World} {es : Array MapEntry} {qs ps : List (ByteArray × Tr d)} (h : MapIn S w r es qs ps) : ∀ (j : Nat) (e : MapEntry), es[j]? = some e → e.born = j := fun j e hx => by
  have hes := h.ent.1
  have hj := (Array.getElem?_eq_some_iff.1 hx).1
  obtain ⟨u, hu, _⟩ := h.ent.2 j qs[j].1 qs[j].2 (List.getElem?_eq_getElem (by omega))
  rw [hx] at hu
  cases hu
  rfl
theorem MapIn.at {d r : Nat} {S : Nat → Prop} {w : World} {es : Array MapEntry} {qs ps : List (ByteArray × Tr d)} (h : MapIn S w r es qs ps) {i : Nat} {e : MapEntry} (he : es[i]? = some e) : ∃ s x u, qs[i]? = some (s, x) ∧ e = ⟨.string s, u, i⟩ ∧ TreeG S w d x u := by
  have hes := h.ent.1
  have hj := (Array.getElem?_eq_some_iff.1 he).1
  have hq : qs[i]? = some (qs[i].1, qs[i].2) := List.getElem?_eq_getElem (by omega)
  obtain ⟨u, hu, hv⟩ := h.ent.2 i _ _ hq
  rw [he] at hu
  cases hu
  exact ⟨_, _, u, hq, rfl, hv⟩
theorem MapIn.done {d r : Nat} {S : Nat → Prop} {w : World} {es : Array MapEntry} {qs ps acc0 : List (ByteArray × Tr d)} (h : MapIn S w r es qs ps) {seen : List Nat} (hp : seen.Perm (List.range qs.length)) (ho : keysB (acc0.map Prod.fst) = true) : putAll acc0 (seen.filterMap (fun i => qs[i]?)) = putAll acc0 ps := by
  have h1 : (seen.filterMap (fun i => qs[i]?)).Perm ps := (seen_pairs qs hp).trans h.perm
  have h2 := keys_pairwise h.keys
  refine putAll_perm h1 (h1.symm.pairwise h2 (fun h => Ne.symm h)) (fun q hq => keys_ok h.keys q (h1.mem_iff.1 hq)) ho
theorem MapIn.later {d r : Nat} {S : Nat → Prop} {w w' : World} {es : Array MapEntry} {qs ps : List (ByteArray × Tr d)} (h : MapIn S w r es qs ps) (hr : w'.heap[r]? = w.heap[r]?) (hs : Same S w w') : MapIn S w' r es qs ps :=
  ⟨hr.trans h.obj, h.ent.moved (fun x u hx => TreeG.moved hs (fun _ h => h) d x u hx), h.perm, h.keys⟩

set_option maxRecDepth 100000 in
set_option maxHeartbeats 4000000 in
theorem addMaps_any (d N : Nat) (S : Nat → Prop) (ra rb : Nat) (ea eb : Array MapEntry) (qa pa qb pb : List (ByteArray × Tr d)) (w : World) (ha : MapIn S w ra ea qa pa) (hb : MapIn S w rb eb qb pb) (hS : ∀ c, S c → N ≤ c ∧ c < w.heap.size) (hN : N ≤ w.heap.size) (hl : pa.length + pb.length ≤ 1000) :
    Calls Tryz.prog 79 #[.agg #[.map (some ra)], .agg #[.map (some rb)]] w fun e w' => ∃ u, e = .returned u ∧ TreeG (fun c => N ≤ c ∧ c < w'.heap.size) w' (d + 1) (mapT d (putAll pa pb)) u ∧ Below w.heap.size w w' := by
  have hral := (Array.getElem?_eq_some_iff.1 ha.obj).1
  have hrbl := (Array.getElem?_eq_some_iff.1 hb.obj).1
  have hmk := fun w => run_makeMap (P := Tryz.prog) 123 w
  obtain ⟨W1, hW1⟩ : ∃ W1, W1 = ((w.alloc (.cells #[.map (some ra)] 125)).alloc (.cells #[.map (some rb)] 125)).alloc (.map #[] 0) := ⟨_, rfl⟩
  have hB1 : Below w.heap.size w W1 := by rw [hW1]; exact below_trans (below_trans (below_alloc1 _ _) (below_alloc1 _ _)) (below_alloc1 _ _)
  have hz1 : W1.heap.size = w.heap.size + 3 := by rw [hW1]; simp
  have hp1 : W1.heap[w.heap.size + 2]? = some (.map #[] 0) := by
    have := heap_alloc_new ((w.alloc (.cells #[.map (some ra)] 125)).alloc (.cells #[.map (some rb)] 125)) (.map #[] 0)
    rw [hW1]
    simpa using this
  have hbx : W1.heap[w.heap.size + 1]? = some (.cells #[.map (some rb)] 125 (0, 0)) := by
    have h1 := heap_alloc_new (w.alloc (.cells #[.map (some ra)] 125)) (.cells #[.map (some rb)] 125)
    rw [World.size_alloc] at h1
    rw [hW1, Below.heap_alloc _ _ _ (by simp)]
    exact h1
  have hSw : Within S w := fun c hc => (hS c hc).2
  have HA := hide (ha.later (hB1.block ra hral) (hSw.same hB1))
  have HB := hide (hb.later (hB1.block rb hrbl) (hSw.same hB1))
  have hnS : ¬ S (w.heap.size + 2) := fun h => by have := hSw _ h; omega
  have hrunA := run_range_map (P := Tryz.prog) (T := 123) Tryz.underlying123 W1 ra qa.length ea HA.out.obj
  obtain ⟨W2, hW2⟩ : ∃ W2, W2 = W1.alloc (.mapIter (some ra) qa.length #[] qa.length) := ⟨_, rfl⟩
  have hB2 : Below W1.heap.size W1 W2 := by rw [hW2]; exact below_alloc1 _ _
  have hz2 : W2.heap.size = w.heap.size + 4 := by rw [hW2]; simp [hz1]
  have H1 : Hid (Adding (d := d) S w.heap.size W2 W2 (w.heap.size + 2) (w.heap.size + 3) ra qa [] [] #[] []) := by
    refine ⟨List.nodup_nil, (fun i h => by cases h), ?_, ⟨?_, List.Perm.refl _, rfl, fun i k x h => by simp at h⟩, rfl, fun _ _ _ => rfl, Below.refl _ _⟩
    · have := heap_alloc_new W1 (.mapIter (some ra) qa.length #[] qa.length)
      rw [hz1] at this
      rw [hW2]
      exact this
    · rw [hB2.block _ (by omega)]
      exact hp1
  have HW1 := hide hW1
  have HW2 := hide hW2
  have HA2 := hide (HA.out.later (hB2.block ra (by omega)) (fun c hc => hB2.block c (by have := hSw c hc; omega)))
  have HB2' := hide (HB.out.later (hB2.block rb (by omega)) (fun c hc => hB2.block c (by have := hSw c hc; omega)))
  have HBX : Hid (W2.heap[w.heap.size + 1]? = some (.cells #[.map (some rb)] 125 (0, 0))) := (hB2.block _ (by omega)).trans hbx
  have HB12 : Hid (Below w.heap.size w W2) := below_trans hB1 hB2
  have HL := hide hl
  clear hW1 hW2 ha hb HA HB hp1 hbx hB1 hB2 hl
  go_enter Tryz.func79, Tryz.ntmps79
  go_upto_region 2 with fail
  rw [← HW1.out]
  have hcA : W1.cell? ⟨w.heap.size, 0, none⟩ = some (.map (some ra)) := by
    have hh : W1.heap[w.heap.size]? = some (.cells #[.map (some ra)] 125 (0, 0)) := by
      rw [HW1.out, Below.heap_alloc _ _ _ (by simp; omega), Below.heap_alloc _ _ _ (by simp)]
      exact heap_alloc_new _ _
    simp [World.cell?, hh]
  go_wp2_with fail
  rw [← HW2.out]
  clear hrunA hcA
  go_loopg [6] qa.length (fun gk _ wr => ∃ (seen : List Nat) (es : Array MapEntry) (ps : List (ByteArray × Tr d)), seen.length + gk = qa.length ∧ Hid (Adding (d := d) S w.heap.size W2 wr (w.heap.size + 2) (w.heap.size + 3) ra qa [] seen es ps))
  case atStart => exact ⟨[], _, _, by simp, H1⟩
  case round =>
    clear H1
    obtain ⟨seen, es, ps, hlen, had⟩ := hrel
    have hobj2 : wr.heap[ra]? = some (.map ea qa.length) := (had.out.but ra (by omega) (by omega)).trans HA2.out.obj
    rcases run_next_map (P := Tryz.prog) wr (w.heap.size + 3) ra qa.length seen ea had.out.iter hobj2 HA2.out.ent.1 HA2.out.born with ⟨hall, hnext⟩ | ⟨i, e, w1, hi, hns, hei, hI, hoff, hnext⟩
    · have hperm := seen_all_perm had.out.nodup had.out.lt hall
      have hacc : putAll [] (seen.filterMap (fun i => qa[i]?)) = pa := by rw [HA2.out.done hperm rfl, putAll_nil HA2.out.keys]
      have hM1 := had.out.map
      rw [hacc] at hM1
      have hBr : Below w.heap.size w wr := HB12.out.trans had.out.below
      have hbut := had.out.but
      have hzr : W2.heap.size ≤ wr.heap.size := had.out.below.size
      have hobjb : wr.heap[rb]? = some (.map eb qb.length) := (hbut rb (by omega) (by omega)).trans HB2'.out.obj
      have hcB : wr.cell? ⟨w.heap.size + 1, 0, none⟩ = some (.map (some rb)) := by
        have hh := (hbut (w.heap.size + 1) (by omega) (by omega)).trans HBX.out
        simp [World.cell?, hh]
      have hrunB := run_range_map (P := Tryz.prog) (T := 123) Tryz.underlying123 wr rb qb.length eb hobjb
      obtain ⟨W3, hW3⟩ : ∃ W3, W3 = wr.alloc (.mapIter (some rb) qb.length #[] qb.length) := ⟨_, rfl⟩
      have hB3 : Below wr.heap.size wr W3 := by rw [hW3]; exact below_alloc1 _ _
      have HW3 := hide hW3
      have hri : wr.heap.size ≠ w.heap.size + 2 := by omega
      have HB3 := hide (HB2'.out.later (w' := W3) ((hB3.block rb (by omega)).trans (hbut rb (by omega) (by omega))) (fun c hc => (hB3.block c (by have := hSw c hc; omega)).trans (hbut c (by have := hSw c hc; omega) (by have := hSw c hc; omega))))
      have H2 : Hid (Adding (d := d) S w.heap.size W3 W3 (w.heap.size + 2) wr.heap.size rb qb pa [] es ps) := by
        refine ⟨List.nodup_nil, (fun i h => by cases h), ?_, hM1.moved (hB3.block _ (by omega)) (fun c hc => hB3.block c (by have := hSw c hc; omega)), HA2.out.keys, fun _ _ _ => rfl, Below.refl _ _⟩
        have := heap_alloc_new wr (.mapIter (some rb) qb.length #[] qb.length)
        rw [hW3]
        exact this
      have HB3w : Hid (Below w.heap.size w W3) := below_trans hBr hB3
      have hzb : w.heap.size + 4 ≤ wr.heap.size := by omega
      clear hM1 hacc hperm had hbut hB3 hBr hW3 hobj2 hall HB12 HBX hlen hobjb
      go_wp2_with fail
      rw [← HW3.out]
      clear hrunB hcB hnext
      obtain ⟨wo, hwo⟩ : ∃ wo : Nat, wo = wr.heap.size := ⟨_, rfl⟩
      go_loopg [8] qb.length (fun gk _ wz => ∃ (seen : List Nat) (es : Array MapEntry) (ps : List (ByteArray × Tr d)), seen.length + gk = qb.length ∧ Hid (Adding (d := d) S w.heap.size W3 wz (w.heap.size + 2) wr.heap.size rb qb pa seen es ps))
      case atStart => exact ⟨[], _, _, by simp, H2⟩
      case round =>
        rename World => wz
        clear H2
        obtain ⟨seen2, es2, ps2, hlen2, had2⟩ := hrel
        have hobj3 : wz.heap[rb]? = some (.map eb qb.length) := (had2.out.but rb (by omega) (by omega)).trans HB3.out.obj
        rcases run_next_map (P := Tryz.prog) wz wr.heap.size rb qb.length seen2 eb had2.out.iter hobj3 HB3.out.ent.1 HB3.out.born with ⟨hall, hnext⟩ | ⟨i, e, w1, hi, hns, hei, hI, hoff, hnext⟩
        · have hperm := seen_all_perm had2.out.nodup had2.out.lt hall
          have hacc : putAll pa (seen2.filterMap (fun i => qb[i]?)) = putAll pa pb := HB3.out.done hperm HA2.out.keys
          have hM2 := had2.out.map
          have hgd := had2.out.good
          rw [hacc] at hM2 hgd
          have hBz : Below w.heap.size w wz := HB3w.out.trans had2.out.below
          have hpl := putAll_len pb pa
          have HT := hide (hM2.tree hgd (by have := HL.out; omega) (N := N) (by omega) (fun c hc => ⟨(hS c hc).1, by have := (hS c hc).2; have := hBz.size; omega⟩))
          have HBZ := hide hBz
          clear hM2 hgd hacc hperm had2 hBz hobj3 hall hlen2 hpl
          go_wp2_with fail
          go_ret
          exact ⟨_, rfl, HT.out, HBZ.out⟩
        · obtain ⟨s, x, u, hq, rfl, hu⟩ := HB3.out.at hei
          have hentry := run_entry_map (P := Tryz.prog) w1 wr.heap.size rb qb.length i seen2 eb _ hI ((hoff.block rb (by omega)).trans hobj3) HB3.out.born hei
          have hsame : Same S W3 w1 := fun c hc => (hoff.block c (by have := hSw c hc; omega)).trans (had2.out.but c (by have := hSw c hc; omega) (by have := hSw c hc; omega))
          have hm1 := had2.out.map.moved (w' := w1) (hoff.block _ (by omega)) (fun c hc => hoff.block c (by have := hSw c hc; omega))
          have hu1 : TreeG S w1 d x u := TreeG.moved hsame (fun _ h => h) d x u hu
          obtain ⟨w2, es3, ps3, hrun, hbp, hsz2, hblk2, hm2⟩ := hm1.put (s := s) had2.out.good hnS hu1
          obtain ⟨Tu, u', rfl⟩ := hu1.iface
          have HAD := hide (had2.out.step hi hq hns (HB3.out.ok hq) hI hoff (by omega) hsz2 hblk2 hbp hm2 (by omega) (by omega))
          have hgk : 1 ≤ gk := by
            have h1 := seen_len_le HAD.out.nodup HAD.out.lt
            simp at h1
            omega
          clear hm2 hbp hblk2 hsz2 hm1 hsame hu hu1 had2 hq hI hoff hei hobj3 hns
          have HLN := hide hlen2
          clear hlen2
          go_wp2_with fail
          go_roundg (gk - 1)
          case rel => exact ⟨seen2 ++ [i], es3, ps3, by have := HLN.out; simp; omega, HAD⟩
          case measure => omega
    · obtain ⟨s, x, u, hq, rfl, hu⟩ := HA2.out.at hei
      have hentry := run_entry_map (P := Tryz.prog) w1 (w.heap.size + 3) ra qa.length i seen ea _ hI ((hoff.block ra (by omega)).trans hobj2) HA2.out.born hei
      have hsame : Same S W2 w1 := fun c hc => (hoff.block c (by have := hSw c hc; omega)).trans (had.out.but c (by have := hSw c hc; omega) (by have := hSw c hc; omega))
      have hm1 := had.out.map.moved (w' := w1) (hoff.block _ (by omega)) (fun c hc => hoff.block c (by have := hSw c hc; omega))
      have hu1 : TreeG S w1 d x u := TreeG.moved hsame (fun _ h => h) d x u hu
      obtain ⟨w2, es3, ps3, hrun, hbp, hsz2, hblk2, hm2⟩ := hm1.put (s := s) had.out.good hnS hu1
      obtain ⟨Tu, u', rfl⟩ := hu1.iface
      have HAD := hide (had.out.step hi hq hns (HA2.out.ok hq) hI hoff (by omega) hsz2 hblk2 hbp hm2 (by omega) (by omega))
      have hgk : 1 ≤ gk := by
        have h1 := seen_len_le HAD.out.nodup HAD.out.lt
        simp at h1
        omega
      clear hm2 hbp hblk2 hsz2 hm1 hsame hu hu1 had hq hI hoff hei hobj2 hns
      have HLN := hide hlen
      clear hlen
      go_wp2_with fail
      go_roundg (gk - 1)
      case rel => exact ⟨seen ++ [i], es3, ps3, by have := HLN.out; simp; omega, HAD⟩
      case measure => omega
end Go.Proofs.YtoangpfmjohhmaaGreatDoor
