/- Texts of the proof, put together by program: WPairI, WKbO, WOfkeysOfPairs, WKbI. -/
import Derived.Test.YtohdpgclokgohaaGreatDoorP35
import Derived.Test.YtohdpgclokgohaaGreatDoorP12
import Derived.Test.YtohdpgclokgohaaGreatDoorP13
import Derived.Test.YtohdpgclokgohaaGreatDoorP28
/- pairsOf, RowPairs of the program. -/
namespace Go.Proofs.YtohdpgclokgohaaGreatDoor
open Go.RowKit Go.Deep

/-- A row of the program's that owns its cells; its trees have memory of their own beside it. -/
def GP {d : Nat} (S : Nat → Prop) (N : Nat) (w : World) (sv : Value) (xs : List (Tr d)) (vs : List Value) : Prop :=
  w.ownsRow N 49 1 sv xs.length vs ∧ ∀ (j : Nat) (x : Tr d) (u : Value), xs[j]? = some x → vs[j]? = some u → TreeG (Beside S N w sv) w d x u
theorem GP.nil {d : Nat} (S : Nat → Prop) (N : Nat) (w : World) : GP (d := d) S N w (.slice none 0 0) [] [] := ⟨World.ownsRow_nil _ _ _ _, fun j x u h => by simp at h⟩
theorem GP.slice {d N : Nat} {S : Nat → Prop} {w : World} {lv : Value} {xs : List (Tr d)} {vs : List Value} (h : GP S N w lv xs vs) : ∃ a c, lv = .slice a xs.length c := by
  rcases h.1.2 with ⟨rfl, h0⟩ | ⟨g, cap, cur, rfl, _⟩
  · exact ⟨none, 0, by rw [h0]⟩
  · exact ⟨_, _, rfl⟩
theorem GP.push {d N : Nat} {S : Nat → Prop} {W wr w1 w2 : World} {lv lv' : Value} {xs : List (Tr d)} {vs : List Value} {x : Tr d} {u : Value} {o : Obj} (h : GP S N wr lv xs vs) (hS : ∀ b, S b → b < N) (hN : N ≤ wr.heap.size) (hbW : Below N W wr) (hb : Below wr.heap.size wr w1) (hx : TreeG (fun b => S b ∨ (wr.heap.size ≤ b ∧ b < w1.heap.size)) w1 d x u)
    (hown : w2.ownsRow N 49 1 lv' (xs.length + 1) (vs ++ [u])) (hg : (w1.alloc o).grownBy w2 lv.ownBlock) (hw : lv'.ownBlock = lv.ownBlock ∨ lv'.ownBlock = some (w1.alloc o).heap.size) : GP S N w2 lv' (xs ++ [x]) (vs ++ [u]) ∧ Below N W w2 := by
  have hlt := h.1.lt
  have hlen : vs.length = xs.length := by have := h.1.1; omega
  have h1 := hb.size
  have h2 : w1.heap.size + 1 ≤ w2.heap.size := Nat.le_trans (by simp) hg.size
  refine ⟨⟨by rw [List.length_append]; exact hown, fun j y v hy hv => ?_⟩, ?_⟩
  · by_cases e : j < xs.length
    · rw [List.getElem?_append_left e] at hy
      rw [List.getElem?_append_left (by omega)] at hv
      exact TreeG.moved (fun b hb' => (Beside.after hS hN hlt hb hg hw hb').1) (fun b hb' => (Beside.after hS hN hlt hb hg hw hb').2) _ _ _ (h.2 j y v hy hv)
    · have hj : j = xs.length := by
        have := (List.getElem?_eq_some_iff.1 hy).1
        rw [List.length_append, List.length_singleton] at this
        omega
      subst hj
      rw [List.getElem?_append_right (Nat.le_refl _), Nat.sub_self] at hy
      rw [List.getElem?_append_right (by omega), hlen, Nat.sub_self] at hv
      cases hy
      cases hv
      exact TreeG.moved (fun b hb' => (Beside.fresh hS hN hlt h1 hg hw hb').1) (fun b hb' => (Beside.fresh hS hN hlt h1 hg hw hb').2) _ _ _ hx
  · refine ⟨hg.os.trans (hb.os.trans hbW.os), hg.tape.trans (hb.tape.trans hbW.tape), hg.output.trans (hb.output.trans hbW.output), ?_, fun b hb' => ?_⟩
    · have := hbW.size
      omega
    · exact (((hg.block b (by simp; omega) (fun e => by have := (hlt b e.symm).1; omega)).trans (Below.heap_alloc _ _ _ (by omega))).trans (hb.block b (by omega))).trans (hbW.block b hb')
theorem GP.tree {d N M : Nat} {S : Nat → Prop} {w : World} {sv : Value} {xs : List (Tr d)} {vs : List Value} (h : GP S N w sv xs vs) (hl : xs.length ≤ 1000) (hM : M ≤ N) (hSM : ∀ b, S b → M ≤ b ∧ b < w.heap.size) : TreeG (fun b => M ≤ b ∧ b < w.heap.size) w (d + 1) (rowT d xs) (.iface 80 (.agg #[sv])) := by
  refine Or.inr (Or.inr (Or.inr (Or.inl ⟨xs, sv, hl, rfl, rfl, by omega, ?_⟩)))
  obtain ⟨h1, h2⟩ := h
  have hlen := h1.1
  rw [Nat.mul_one] at hlen
  rcases h1.2 with ⟨rfl, h0⟩ | ⟨g, cap, cur, rfl, hg, hh, _, _, _, _⟩
  · exact ⟨none, 0, by rw [h0], Or.inl (List.eq_nil_of_length_eq_zero h0)⟩
  · refine ⟨some ⟨g, 0, none⟩, cap, rfl, Or.inr ⟨g, 0, ⟨by omega, (Array.getElem?_eq_some_iff.1 hh).1⟩, rfl, fun i x hx => ?_⟩⟩
    have hi := (List.getElem?_eq_some_iff.1 hx).1
    have hvi : vs[i]? = some vs[i] := List.getElem?_eq_getElem (by omega)
    have hc := h1.cells (g := g) rfl i _ hvi
    have hadd : (⟨g, 0, none⟩ : Addr).add i = ⟨g, 0 + i, none⟩ := by unfold Addr.add; split <;> simp_all
    rw [hadd] at hc
    exact ⟨vs[i], hc, (h2 i x _ hx hvi).mono (fun b hb => by
      rcases hb with hb | hb
      · exact hSM b hb
      · exact ⟨by have := hb.1; omega, hb.2.1⟩)⟩

/-- What pairsOf is asked to give. -/
def PairsQ (d : Nat) (t : Tr (d + 2)) (w : World) (e : Ending) (w' : World) : Prop :=
  Below w.heap.size w w' ∧ (((okT (d + 2) t = true ∧ Nd.kind t = 6) ∧ ∃ u, e = .returned (.tuple #[u, .nilIface]) ∧ TreeG (fun b => w.heap.size ≤ b ∧ b < w'.heap.size) w' (d + 3) (rowT (d + 2) (pairsL d t)) u) ∨ (¬ (okT (d + 2) t = true ∧ Nd.kind t = 6) ∧ ∃ why, e = .returned (.tuple #[.nilIface, faultV why])))

set_option maxRecDepth 100000 in
set_option maxHeartbeats 8000000 in
theorem pairsOf_any (d : Nat) (S0 : Nat → Prop) (t : Tr (d + 2)) (v : Value) (w : World) (hv : ValAt S0 w (d + 2) t v) (hS0 : Within S0 w) :
    Calls Tryz.prog 50 #[v] w (PairsQ d t w) := by
  obtain ⟨k, n, s, ak, lk, ck, al, ll, cl, rfl⟩ := hv.shape
  have hA := below_alloc1 w (.cells #[.int .i64 k, .int .i64 n, .string s, .slice ak lk ck, .slice al ll cl] 26)
  have hAs := hA.size
  go_enter Tryz.func50, Tryz.ntmps50
  go_wp2_with fail
  refine (given_own (d + 1) S0 t _ _ (hv.same (hS0.same hA)) (hS0.later hA.size)).mono ?_
  rintro e w1 ⟨hb1, hq⟩
  have hB := below_trans hA hb1
  clear hv
  rcases hq with ⟨hok, u, rfl, hu, htop⟩ | ⟨hok, why, rfl⟩
  · clear htop
    rcases hu with ⟨k', h1, hxe, rfl⟩ | ⟨n', h1, hxe, rfl⟩ | ⟨s', h1, hxe, rfl⟩ | ⟨ys, sv, h1, hxe, rfl, hr⟩ | ⟨keys, ys, ps, r, es, h1, h2, h3, h4, hxe, rfl, hr, hm, he⟩
    · have a3 := Tryz.asM_B
      have hq : Hid (¬ (okT (d + 2) t = true ∧ Nd.kind t = 6)) := fun h => by
        have h6 := h.2
        rw [hxe] at h6
        have h7 : k' = 6 := h6; omega
      have HB := hide hB
      clear hB hxe
      go_wp2_with fail
      go_ret2
      exact ⟨below_trans HB.out (below_alloc1 _ _), Or.inr ⟨hq.out, _, rfl⟩⟩
    · have a3 := Tryz.asM_N
      have hq : Hid (¬ (okT (d + 2) t = true ∧ Nd.kind t = 6)) := fun h => by
        have h6 := h.2
        rw [hxe] at h6
        cases h6
      have HB := hide hB
      clear hB hxe
      go_wp2_with fail
      go_ret2
      exact ⟨below_trans HB.out (below_alloc1 _ _), Or.inr ⟨hq.out, _, rfl⟩⟩
    · have a3 := Tryz.asM_S
      have hq : Hid (¬ (okT (d + 2) t = true ∧ Nd.kind t = 6)) := fun h => by
        have h6 := h.2
        rw [hxe] at h6
        cases h6
      have HB := hide hB
      clear hB hxe
      go_wp2_with fail
      go_ret2
      exact ⟨below_trans HB.out (below_alloc1 _ _), Or.inr ⟨hq.out, _, rfl⟩⟩
    · have a3 := Tryz.asM_R
      have hq : Hid (¬ (okT (d + 2) t = true ∧ Nd.kind t = 6)) := fun h => by
        have h6 := h.2
        rw [hxe] at h6
        cases h6
      clear hr
      have HB := hide hB
      clear hB hxe
      go_wp2_with fail
      go_ret2
      exact ⟨below_trans HB.out (below_alloc1 _ _), Or.inr ⟨hq.out, _, rfl⟩⟩
    · have a3 := Tryz.asM_M
      have h6 : Nd.kind t = 6 := by rw [hxe]
      have hpl : Hid (pairsL d t = (keys.zip ys).map (pairT d)) := by
        show pairsL d t = _
        rw [hxe]
        rfl
      have hl60 : ys.length ≤ 60 := by
        have h := (okT_kinds hok).2.1
        rw [hxe] at h
        exact h
      have hk60 : keys.length ≤ 60 := by omega
      have hA1 := below_alloc1 w1 (.cells #[.map (some r)] 100)
      have hB1 := below_trans hB hA1
      have hwin : Within (Fresh (w.alloc (.cells #[.int .i64 k, .int .i64 n, .string s, .slice ak lk ck, .slice al ll cl] 26)) w1) w1 := Fresh.within _ _
      have hsame := hwin.same hA1
      obtain ⟨S, hSd⟩ : ∃ S : Nat → Prop, S = Fresh (w.alloc (.cells #[.int .i64 k, .int .i64 n, .string s, .slice ak lk ck, .slice al ll cl] 26)) w1 := ⟨_, rfl⟩
      have hSlo : ∀ b, S b → w.heap.size ≤ b := by rw [hSd]; intro b hb; have := hb.1; omega
      rw [← hSd] at hwin hsame hr he
      have heA := he.moved (fun x u hx => TreeG.moved hsame (fun _ h => h) (d + 1) x u hx)
      have hmA : (w1.alloc (.cells #[.map (some r)] 100)).heap[r]? = some (.map es ps.length) := (hsame r hr).trans hm
      have hkc := hide (keys_any S (TreeG S _ (d + 1)) ps keys ys r es (w1.alloc (.cells #[.map (some r)] 100)) hr hmA heA (hwin.later hA1.size) h4 h3 h2 h1)
      have HKL := hide h3
      have HKB := hide h2
      have HPM := hide h4
      have hbox : (w1.alloc (.cells #[.map (some r)] 100)).heap[w1.heap.size]? = some (.cells #[.map (some r)] 100 (0, 0)) := heap_alloc_new w1 _
      have hOK := hide (And.intro hok h6)
      obtain ⟨WA, hWA⟩ : ∃ WA, WA = w1.alloc (.cells #[.map (some r)] 100) := ⟨_, rfl⟩
      have hWs : w1.heap.size < WA.heap.size := by rw [hWA]; simp
      rw [← hWA] at hB1 heA hmA hkc hbox
      have hwA : Within S WA := hwin.later (by omega)
      have HWA := hide hWA
      clear hm he h4 h3 h2 hsame hA1 hwin hB hSd hok h6 hxe hWA hb1
      go_wp2_with fail
      rw [← HWA.out]
      clear HWA
      refine Calls.mono hkc.out ?_
      rintro e w2 ⟨uk, rfl, hu2, hb2⟩
      obtain ⟨ua, uc, rfl, hul⟩ := hu2.open'
      have hB2 := below_trans hB1 hb2
      have hsa := StrsOwn.at hu2
      have hsW := Fresh.within WA w2
      have hw2s := hb2.size
      have hmv2 := hwA.same hb2
      have he2 := hide (heA.moved (fun x u hx => TreeG.moved hmv2 (fun _ h => h) (d + 1) x u hx))
      have hm2 : w2.heap[r]? = some (.map es ps.length) := (hmv2 r hr).trans hmA
      have hbox2 : w2.heap[w1.heap.size]? = some (.cells #[.map (some r)] 100 (0, 0)) := (hb2.block _ hWs).trans hbox
      have hS2 : ∀ b, S b → b < w2.heap.size := hwA.later hw2s
      have HM2 := hide hm2
      have HBX := hide hbox2
      have HB2 := hide hB2
      clear hb2 hB1 hkc hu2 hB2 heA hmA hbox hmv2 hm2 hbox2
      go_wp2_with fail
      go_loopw [8, 31] (fun lv i wr => ∃ (m : Nat) (la : Option Addr) (lc : Nat) (vs : List Value), m ≤ keys.length ∧ lv = .slice la m lc ∧ i = .int .i64 (m : Int) ∧ Hid (GP S w2.heap.size wr (.slice la m lc) (((keys.zip ys).map (pairT d)).take m) vs) ∧ Hid (Below w2.heap.size w2 wr)) (fun _ i _ => keys.length - (intOf i).toNat)
      case atStart => exact ⟨0, none, 0, [], Nat.zero_le _, rfl, rfl, GP.nil _ _ _, Below.refl _ _⟩
      case round =>
        obtain ⟨m, la, lc, vs, hm, rfl, rfl, hto, hbr⟩ := hrel
        have hsz := hbr.out.size
        have hzl : Hid (((keys.zip ys).map (pairT d)).length = keys.length) := by
          show ((keys.zip ys).map (pairT d)).length = _
          rw [List.length_map, List.length_zip]
          have := HKL.out
          omega
        have hlen : Hid ((((keys.zip ys).map (pairT d)).take m).length = m) := by
          show (((keys.zip ys).map (pairT d)).take m).length = m
          rw [List.length_take, hzl.out]
          omega
        by_cases hml : m < keys.length
        · have hmi : (m : Int) < (keys.length : Int) := by omega
          have hmy : m < ys.length := by have := HKL.out; omega
          obtain ⟨b, o, s', rfl, _, hs', hssz, hck⟩ := (hsa.same (hsW.same hbr.out)).cell hml
          obtain ⟨x, hx⟩ : ∃ x, ys[m]? = some x := ⟨_, List.getElem?_eq_getElem hmy⟩
          have hstp := hide (pairs_step hs' hx)
          have hin : (s', x) ∈ ps := HPM.out.mem_iff.2 (List.mem_of_getElem? (List.getElem?_zip_eq_some.2 ⟨hs', hx⟩))
          have hsok : Hid (s'.size ≤ 1000) := by
            have := strOk_size (keysB_strOk keys none HKB.out s' (List.mem_of_getElem? hs'))
            exact Nat.le_trans this (by omega)
          obtain ⟨j, u, hpj, hej, hux, hnj⟩ := he2.out.find (perm_nodup HPM.out HKL.out HKB.out) hin
          obtain ⟨Tu, u', rfl⟩ := hux.iface
          have hmr : wr.heap[r]? = some (.map es ps.length) := (hbr.out.block r (hS2 r hr)).trans HM2.out
          have hget := run_mapGet wr r ps.length j es s' (.iface Tu u') j false hmr hej hnj
          have hbx : wr.cell? ⟨w1.heap.size, 0, none⟩ = some (.map (some r)) := by
            have := (hbr.out.block w1.heap.size (by omega)).trans HBX.out
            simp [World.cell?, this]
          have hpb := below_alloc1 wr (.cells #[.iface 84 (.agg #[.string s']), .iface Tu u'] 49)
          have hpz : (wr.alloc (.cells #[.iface 84 (.agg #[.string s']), .iface Tu u'] 49)).heap.size = wr.heap.size + 1 := by simp
          have hpair : Hid (TreeG (fun b => S b ∨ (wr.heap.size ≤ b ∧ b < (wr.alloc (.cells #[.iface 84 (.agg #[.string s']), .iface Tu u'] 49)).heap.size)) (wr.alloc (.cells #[.iface 84 (.agg #[.string s']), .iface Tu u'] 49)) (d + 2) (pairT d (s', x)) (.iface 80 (.agg #[.slice (some ⟨wr.heap.size, 0, none⟩) 2 2]))) := by
            have hblk : (wr.alloc (.cells #[.iface 84 (.agg #[.string s']), .iface Tu u'] 49)).heap[wr.heap.size]? = some (.cells #[.iface 84 (.agg #[.string s']), .iface Tu u'] 49 (0, 0)) := heap_alloc_new wr _
            have hxt : TreeG (fun b => S b ∨ (wr.heap.size ≤ b ∧ b < (wr.alloc (.cells #[.iface 84 (.agg #[.string s']), .iface Tu u'] 49)).heap.size)) (wr.alloc (.cells #[.iface 84 (.agg #[.string s']), .iface Tu u'] 49)) (d + 1) x (.iface Tu u') :=
              TreeG.moved (fun b hb => (hpb.block b (by have := hS2 b hb; omega)).trans (hbr.out.block b (hS2 b hb))) (fun b hb => Or.inl hb) _ _ _ hux
            refine Or.inr (Or.inr (Or.inr (Or.inl ⟨[textT d s', x], _, by simp, rfl, rfl, by simp, some ⟨wr.heap.size, 0, none⟩, 2, rfl, Or.inr ⟨wr.heap.size, 0, Or.inr ⟨Nat.le_refl _, by omega⟩, rfl, fun i y hy => ?_⟩⟩)))
            match i, hy with
            | 0, hy => cases hy; exact ⟨.iface 84 (.agg #[.string s']), by simp, Or.inr (Or.inr (Or.inl ⟨s', hsok.out, rfl, rfl⟩))⟩
            | 1, hy => cases hy; exact ⟨.iface Tu u', by simp, hxt⟩
            | i + 2, hy => simp at hy
          have hown := hto.out.1
          rw [hlen.out] at hown
          have HO := hide ((hown.alloc (.cells #[.iface 84 (.agg #[.string s']), .iface Tu u'] 49)).alloc (.cells #[.iface 80 (.agg #[.slice (some ⟨wr.heap.size, 0, none⟩) 2 2])] 49))
          have hcn : Hid (∀ j v, ([.iface 80 (.agg #[.slice (some ⟨wr.heap.size, 0, none⟩) 2 2])] : List Value)[j]? = some v → ((wr.alloc (.cells #[.iface 84 (.agg #[.string s']), .iface Tu u'] 49)).alloc (.cells #[.iface 80 (.agg #[.slice (some ⟨wr.heap.size, 0, none⟩) 2 2])] 49)).cell? ((⟨wr.heap.size + 1, 0, none⟩ : Addr).add j) = some v) := by
            have h := cell_one_new (wr.alloc (.cells #[.iface 84 (.agg #[.string s']), .iface Tu u'] 49)) (.iface 80 (.agg #[.slice (some ⟨wr.heap.size, 0, none⟩) 2 2])) 49
            rw [World.size_alloc] at h
            exact h
          have hstep : Hid (∀ sv' w3, w3.ownsRow w2.heap.size 49 1 sv' (m + 1) (vs ++ [.iface 80 (.agg #[.slice (some ⟨wr.heap.size, 0, none⟩) 2 2])]) → ((wr.alloc (.cells #[.iface 84 (.agg #[.string s']), .iface Tu u'] 49)).alloc (.cells #[.iface 80 (.agg #[.slice (some ⟨wr.heap.size, 0, none⟩) 2 2])] 49)).grownBy w3 (Value.slice la m lc).ownBlock → (sv'.ownBlock = (Value.slice la m lc).ownBlock ∨ sv'.ownBlock = some ((wr.alloc (.cells #[.iface 84 (.agg #[.string s']), .iface Tu u'] 49)).alloc (.cells #[.iface 80 (.agg #[.slice (some ⟨wr.heap.size, 0, none⟩) 2 2])] 49)).heap.size) →
              ∃ a c, sv' = .slice a (m + 1) c ∧ GP S w2.heap.size w3 sv' (((keys.zip ys).map (pairT d)).take (m + 1)) (vs ++ [.iface 80 (.agg #[.slice (some ⟨wr.heap.size, 0, none⟩) 2 2])]) ∧ Below w2.heap.size w2 w3) := by
            intro sv' w3 o1 o2 o3
            have hp := hto.out.push hS2 hsz hbr.out hpb hpair.out (by rw [hlen.out]; exact o1) o2 o3
            rw [← hstp.out] at hp
            obtain ⟨a, c, e⟩ := hp.1.slice
            rw [List.length_take, hzl.out, Nat.min_eq_left (by omega)] at e
            exact ⟨a, c, e, hp.1, hp.2⟩
          obtain ⟨i0, hi, hz0, hz1, hz2⟩ := info_parts Tryz.infoTree
          clear hto hbr hown hux hpair hstp hlen hzl hin hs' hx hpj hej hnj hmr hpb
          go_wp2_with (at_builtin; refine wpList_append_own_at _ rfl _ _ 78 rfl w2.heap.size 49 i0 .nilIface 1 16 Tryz.underlying78 hi hz0 hz1 hz2 rfl (by decide) _ _ _ rfl HO.out ⟨wr.heap.size + 1, 0, none⟩ 1 1 [.iface 80 (.agg #[.slice (some ⟨wr.heap.size, 0, none⟩) 2 2])] rfl rfl hcn.out ?c2 ?c3 ?c4 ?c5 ?_)
          case c2 => intro y hy; simp at hy; subst hy; rfl
          case c3 => unfold maxLen; omega
          case c4 => omega
          case c5 => simp; omega
          · intro sv' w3 o1 o2 _ o3
            have HH := hide (hstep.out sv' w3 o1 o2 (by rw [World.size_alloc, World.size_alloc]; exact o3))
            clear o1 o2 o3 hstep HO hcn hi hz0 hz1 hz2
            obtain ⟨a2, c2, rfl, hg2, hb3⟩ := HH.out
            have HG := hide hg2
            have HB3 := hide hb3
            clear HH hg2 hb3
            go_wp2_with fail
            go_roundw
            case rel => exact ⟨m + 1, a2, c2, _, by omega, rfl, by go_num, HG, HB3⟩
            case measure => simp [intOf]; omega
        · obtain rfl : m = keys.length := by omega
          have hall : ((keys.zip ys).map (pairT d)).take keys.length = pairsL d t := by rw [hpl.out]; exact List.take_of_length_le (by rw [hzl.out]; exact Nat.le_refl _)
          have hto' := hto.out
          rw [hall] at hto'
          have hpl60 : (pairsL d t).length ≤ 60 := by rw [hpl.out, hzl.out]; omega
          have hBF := below_trans HB2.out hbr.out
          have HG : Hid (TreeG (fun b => w.heap.size ≤ b ∧ b < wr.heap.size) wr (d + 3) (rowT (d + 2) (pairsL d t)) (.iface 80 (.agg #[.slice la keys.length lc]))) := hto'.tree (by omega) HB2.out.size (fun b hb => ⟨hSlo b hb, Nat.lt_of_lt_of_le (hS2 b hb) hsz⟩)
          have HBF := hide hBF
          clear hto hto' hall hbr hBF hlen hzl hsa hpl
          go_wp2_with fail
          go_ret2
          exact ⟨HBF.out, Or.inl ⟨hOK.out, _, rfl, HG.out⟩⟩
  · unfold faultV
    go_wp2_with fail
    go_ret2
    exact ⟨hB, Or.inr ⟨(fun h => by rw [hok] at h; cases h.1), why, rfl⟩⟩

set_option maxRecDepth 100000 in
set_option maxHeartbeats 4000000 in
theorem implRowPairs_any (d : Nat) (S : Nat → Prop) (t : Tr (d + 2)) (v : Value) (w : World) (hv : ValAt S w (d + 2) t v) (hS : Within S w) (hg : ErrType w) :
    Calls Tryz.prog 16 #[v] w (TellQ (d + 2) (pairsR d t).1 (pairsR d t).2 w) := by
  obtain ⟨k, n, s, ak, lk, ck, al, ll, cl, rfl⟩ := hv.shape
  obtain ⟨W0, hW⟩ : ∃ W0, W0 = (w.alloc (.cells #[.int .i64 k, .int .i64 n, .string s, .slice ak lk ck, .slice al ll cl] 26)).alloc (.cells #[.int .i64 0, .int .i64 0, .string { data := #[] }, .slice none 0 0, .slice none 0 0] 26) := ⟨_, rfl⟩
  have hW0 : Below w.heap.size w W0 := by rw [hW]; exact below_trans (below_alloc1 _ _) (below_alloc1 _ _)
  have k1 : Blk5 W0 (w.heap.size + 1) 26 (.int .i64 0) (.int .i64 0) (.string { data := #[] }) (.slice none 0 0) (.slice none 0 0) := by
    have := Blk5.new (w.alloc (.cells #[.int .i64 k, .int .i64 n, .string s, .slice ak lk ck, .slice al ll cl] 26)) 26 (.int .i64 0) (.int .i64 0) (.string { data := #[] }) (.slice none 0 0) (.slice none 0 0)
    rw [World.size_alloc] at this
    rw [hW]
    exact this
  have HW := hide hW
  clear hW
  go_enter Tryz.func16, Tryz.ntmps16
  go_wp2_with fail
  rw [← HW.out]
  clear HW
  refine (pairsOf_any d S t _ W0 (hv.same (hS.same hW0)) (hS.later hW0.size)).mono ?_
  rintro e w1 ⟨hb1, hq⟩
  have hB1 := below_trans hW0 hb1
  have k2 := k1.below hb1
  have hg1 := hg.below hB1
  have hlt := k2.lt
  -- what is told, however it is
  have hfin : ∀ (w1' : World), Below w1.heap.size w1 w1' → ∀ (x : Tr (d + 3)) (ok : Bool), Hid (∀ e w2, TellQ (d + 2) x ok w1' e w2 → ∃ v0 v1 v2 v3 v4 v5 v6 v7 v8, e = .returned (.tuple #[.agg #[.int .i64 v0, .int .i64 v1, .string v2, .slice v3 v4 v5, .slice v6 v7 v8], .bool ok]) ∧
      Blk5 w2 (w.heap.size + 1) 26 (.int .i64 0) (.int .i64 0) (.string { data := #[] }) (.slice none 0 0) (.slice none 0 0) ∧
      ∀ wF, wF = set5 w2 (w.heap.size + 1) 0 (.int .i64 v0) (.int .i64 v1) (.string v2) (.slice v3 v4 v5) (.slice v6 v7 v8) → ValOwn wF (d + 3) (Fresh w wF) x (.agg #[.int .i64 v0, .int .i64 v1, .string v2, .slice v3 v4 v5, .slice v6 v7 v8]) ∧ Below w.heap.size w wF) := fun w1' hb' x ok => by
    intro e w2 ⟨v, he, hv, hb2⟩
    obtain ⟨v0, v1, v2, v3, v4, v5, v6, v7, v8, rfl⟩ := (ValOwn.at _ _ _ _ hv).shape
    exact ⟨v0, v1, v2, v3, v4, v5, v6, v7, v8, he, (k2.below hb').below hb2, tell_end hv (below_trans (below_trans hB1 hb') hb2) (by omega) (Nat.lt_of_lt_of_le hlt hb'.size)⟩
  clear hv hW0 k1 k2
  rcases hq with ⟨hok, u, rfl, hu⟩ | ⟨hno, why, rfl⟩
  · obtain ⟨T, u', rfl⟩ := hu.iface
    have HR := hide (pairsR_does hok.1 hok.2)
    have hcall := hide (told_tree (d + 2) _ (rowT (d + 2) (pairsL d t)) _ w1 hu (fun b hb => hb.2))
    clear hu hok
    go_wp2_with fail
    refine Calls.mono hcall.out ?_
    intro e w2 hq
    obtain ⟨v0, v1, v2, v3, v4, v5, v6, v7, v8, rfl, k3, hF⟩ := (hfin w1 (Below.refl _ _) _ _).out e w2 hq
    have HF := hide hF
    obtain ⟨y0, y1, y2, y3, y4⟩ := k3.cell
    have yf := k3.frozen
    clear hF hq hfin hcall k3
    go_wp2_with fail
    refine bodyPost_ret (v := .tuple #[.agg #[.int .i64 v0, .int .i64 v1, .string v2, .slice v3 v4 v5, .slice v6 v7 v8], .bool (okT (d + 3) (rowT (d + 2) (pairsL d t)))]) (by simp [results, Tryz.results16, go_sem, y0, y1, y2, y3, y4]) rfl ⟨_, by rw [HR.out], by rw [HR.out]; exact (HF.out _ rfl).1, (HF.out _ rfl).2⟩
  · have HR := hide (pairsR_no hno)
    have hcall := hide (told_fault (d + 2) .nilIface why w1 hg1)
    unfold faultV
    clear hno
    go_wp2_with fail
    refine Calls.mono hcall.out ?_
    intro e w2 hq
    obtain ⟨v0, v1, v2, v3, v4, v5, v6, v7, v8, rfl, k3, hF⟩ := (hfin w1 (Below.refl _ _) _ _).out e w2 hq
    have HF := hide hF
    obtain ⟨y0, y1, y2, y3, y4⟩ := k3.cell
    have yf := k3.frozen
    clear hF hq hfin hcall k3
    go_wp2_with fail
    refine bodyPost_ret (v := .tuple #[.agg #[.int .i64 v0, .int .i64 v1, .string v2, .slice v3 v4 v5, .slice v6 v7 v8], .bool false]) (by simp [results, Tryz.results16, go_sem, y0, y1, y2, y3, y4]) rfl ⟨_, by rw [HR.out], by rw [HR.out]; exact (HF.out _ rfl).1, (HF.out _ rfl).2⟩
end Go.Proofs.YtohdpgclokgohaaGreatDoor

/- pairOf of the program. -/
namespace Go.Proofs.YtohdpgclokgohaaGreatDoor
open Go.RowKit Go.Deep

/-- What pairOf is asked to give. -/
def PairQ (d : Nat) (S : Nat → Prop) (x : Tr (d + 2)) (w : World) (e : Ending) (w' : World) : Prop :=
  Below w.heap.size w w' ∧ ((∃ s y v, pairOk x = some (s, y) ∧ e = .returned (.tuple #[.string s, v, .nilIface]) ∧ TreeG S w' (d + 1) y v) ∨ (pairOk x = none ∧ ∃ why, e = .returned (.tuple #[.string ByteArray.empty, .nilIface, faultV why])))

set_option maxRecDepth 100000 in
set_option maxHeartbeats 4000000 in
theorem pairOf_any (d : Nat) (S : Nat → Prop) (x : Tr (d + 2)) (u : Value) (w : World) (hu : TreeG S w (d + 2) x u) (hS : Within S w) :
    Calls Tryz.prog 74 #[u] w (PairQ d S x w) := by
  go_enter Tryz.func74, Tryz.ntmps74
  rcases hu with ⟨k', h1, hxe, rfl⟩ | ⟨n', h1, hxe, rfl⟩ | ⟨s', h1, hxe, rfl⟩ | ⟨ys, sv, h1, hxe, rfl, hr⟩ | ⟨keys, ys, ps, r, es, h1, h2, h3, h4, hxe, rfl, hr, hm, he⟩
  · have a3 := Tryz.asR_B
    have hq : Hid (pairOk x = none) := pairOk_kind (by rw [hxe]; show k' ≠ 5; omega)
    clear hxe
    go_wp2_with fail
    go_ret3
    exact ⟨by first | exact below_alloc1 _ _ | exact Below.refl _ _, Or.inr ⟨hq.out, _, rfl⟩⟩
  · have a3 := Tryz.asR_N
    have hq : Hid (pairOk x = none) := pairOk_kind (by rw [hxe]; show (3 : Int) ≠ 5; omega)
    clear hxe
    go_wp2_with fail
    go_ret3
    exact ⟨by first | exact below_alloc1 _ _ | exact Below.refl _ _, Or.inr ⟨hq.out, _, rfl⟩⟩
  · have a3 := Tryz.asR_S
    have hq : Hid (pairOk x = none) := pairOk_kind (by rw [hxe]; show (4 : Int) ≠ 5; omega)
    clear hxe
    go_wp2_with fail
    go_ret3
    exact ⟨by first | exact below_alloc1 _ _ | exact Below.refl _ _, Or.inr ⟨hq.out, _, rfl⟩⟩
  · have a3 := Tryz.asR_R
    obtain ⟨sa, sc, rfl, hsl⟩ := hr.open'
    have hA := below_alloc1 w (.cells #[.slice sa ys.length sc] 80)
    have HA := hide hA
    by_cases hl2 : ys.length = 2
    · obtain ⟨a, b, rfl⟩ : ∃ a b, ys = [a, b] := by
        match ys, hl2 with
        | [a, b], _ => exact ⟨a, b, rfl⟩
      have hxl : Hid (Nd.list x = [a, b]) := by show Nd.list x = [a, b]; rw [hxe]
      have hx5 : Nd.kind x = 5 := by rw [hxe]
      have hrA := hr.moved (At' := TreeG S (w.alloc (.cells #[.slice sa [a, b].length sc] 80)) (d + 1)) (hS.same hA) (fun _ h => h) (fun x u hx => TreeG.moved (hS.same hA) (fun _ h => h) (d + 1) x u hx)
      obtain ⟨_, a', cap', hv', h3⟩ := hrA
      rcases h3 with h3 | ⟨bb, oo, hB, rfl, hc⟩
      · cases h3
      cases hv'
      obtain ⟨ua, e0, hua⟩ := hc 0 a rfl
      obtain ⟨ub, e1, hub⟩ := hc 1 b rfl
      obtain ⟨Tb, ub', rfl⟩ := hub.iface
      have hlt := hS bb hB
      have f0 : w.cell? ⟨bb, oo, none⟩ = some ua := by rw [← hA.cell (p := ⟨bb, oo, none⟩) hlt]; exact e0
      have f1 : w.cell? ⟨bb, oo + 1, none⟩ = some (.iface Tb ub') := by rw [← hA.cell (p := ⟨bb, oo + 1, none⟩) hlt]; exact e1
      have HUB := hide hub
      rcases hua with ⟨k', h1, hye, rfl⟩ | ⟨n', h1, hye, rfl⟩ | ⟨s', h1, hye, rfl⟩ | ⟨ys', sv', h1, hye, rfl, hr'⟩ | ⟨keys, ys', ps, r, es, h1, h2, h3, h4, hye, rfl, hr', hm, he⟩
      · have a4 := Tryz.asS_B
        have hq : Hid (pairOk x = none) := pairOk_first hxl.out (by rw [hye]; show k' ≠ 4; omega)
        clear hye hc hub hr hA hx5 hxe
        go_wp2_with fail
        go_ret3
        exact ⟨below_trans HA.out (below_alloc1 _ _), Or.inr ⟨hq.out, _, rfl⟩⟩
      · have a4 := Tryz.asS_N
        have hq : Hid (pairOk x = none) := pairOk_first hxl.out (by rw [hye]; show (3 : Int) ≠ 4; omega)
        clear hye hc hub hr hA hx5 hxe
        go_wp2_with fail
        go_ret3
        exact ⟨below_trans HA.out (below_alloc1 _ _), Or.inr ⟨hq.out, _, rfl⟩⟩
      · have a4 := Tryz.asS_S
        have hq : Hid (pairOk x = some (s', b)) := by
          show pairOk x = some (s', b)
          rw [pairOk_some hx5 hxl.out (by rw [hye]), hye]
        have hA2 := below_alloc1 (w.alloc (.cells #[.slice (some ⟨bb, oo, none⟩) [a, b].length sc] 80)) (.cells #[.string s'] 84)
        have HU : Hid (TreeG S ((w.alloc (.cells #[.slice (some ⟨bb, oo, none⟩) [a, b].length sc] 80)).alloc (.cells #[.string s'] 84)) (d + 1) b (.iface Tb ub')) := HUB.out.same ((hS.later hA.size).same hA2)
        have HB2 := hide (below_trans hA hA2)
        clear hye hc hub hr hA hA2 hx5 hxe HUB
        go_wp2_with fail
        go_quiet (fail)
        go_wp2_with fail
        go_ret3
        exact ⟨HB2.out.trans (below_drewN _ _ _), Or.inl ⟨_, _, _, hq.out, rfl, HU.out.same (fun _ _ => rfl)⟩⟩
      · have a4 := Tryz.asS_R
        have hq : Hid (pairOk x = none) := pairOk_first hxl.out (by rw [hye]; show (5 : Int) ≠ 4; omega)
        clear hye hc hub hr hA hx5 hxe hr'
        go_wp2_with fail
        go_ret3
        exact ⟨below_trans HA.out (below_alloc1 _ _), Or.inr ⟨hq.out, _, rfl⟩⟩
      · have a4 := Tryz.asS_M
        have hq : Hid (pairOk x = none) := pairOk_first hxl.out (by rw [hye]; show (6 : Int) ≠ 4; omega)
        clear hye hc hub hr hA hx5 hxe hr' he hm h4 h3 h2
        go_wp2_with fail
        go_ret3
        exact ⟨below_trans HA.out (below_alloc1 _ _), Or.inr ⟨hq.out, _, rfl⟩⟩
    · have hq : Hid (pairOk x = none) := pairOk_len (by rw [hxe]; exact hl2)
      have hl2' : ((ys.length : Int) != 2) = true := by rw [bne_iff_ne]; omega
      clear hxe hr hA
      go_wp2_with fail
      go_ret3
      exact ⟨HA.out, Or.inr ⟨hq.out, _, rfl⟩⟩
  · have a3 := Tryz.asR_M
    have hq : Hid (pairOk x = none) := pairOk_kind (by rw [hxe]; show (6 : Int) ≠ 5; omega)
    clear hxe he hm hr h4 h3 h2
    go_wp2_with fail
    go_ret3
    exact ⟨by first | exact below_alloc1 _ _ | exact Below.refl _ _, Or.inr ⟨hq.out, _, rfl⟩⟩
end Go.Proofs.YtohdpgclokgohaaGreatDoor

/- ofRow of the program, at keysOfPairs. -/
namespace Go.Proofs.YtohdpgclokgohaaGreatDoor
open Go.RowKit Go.Deep

set_option maxRecDepth 100000 in
set_option maxHeartbeats 2000000 in
theorem ofRow_keysOfPairs (d e : Nat) (S : Nat → Prop) (t : Tr (d + 1)) (v : Value) (f : List (Tr d) → Option (Tr (e + 1))) (w : World) (hv : ValAt S w (d + 1) t v) (hS : Within S w) (hg : ErrType w)
    (H : Hid (∀ (N : Nat) (xs : List (Tr d)) (a : Option Addr) (cap : Nat) (vs : List Value) (w1 : World), treesL d t = some xs → GTo N w1 (.slice a xs.length cap) xs vs → w.heap.size ≤ N → N ≤ w1.heap.size → ErrType w1 → Calls Tryz.prog 51 #[.slice a xs.length cap] w1 (TellF e N (f xs) w1))) :
    Calls Tryz.prog 46 #[v, .func (.func 51) #[] #[]] w (TellQ e (rowTell f t).1 (rowTell f t).2 w) := by
  obtain ⟨k, n, s, ak, lk, ck, al, ll, cl, rfl⟩ := hv.shape
  obtain ⟨W0, hW⟩ : ∃ W0, W0 = (w.alloc (.cells #[.int .i64 k, .int .i64 n, .string s, .slice ak lk ck, .slice al ll cl] 26)).alloc (.cells #[.int .i64 0, .int .i64 0, .string { data := #[] }, .slice none 0 0, .slice none 0 0] 26) := ⟨_, rfl⟩
  have hW0 : Below w.heap.size w W0 := by rw [hW]; exact below_trans (below_alloc1 _ _) (below_alloc1 _ _)
  have k1 : Blk5 W0 (w.heap.size + 1) 26 (.int .i64 0) (.int .i64 0) (.string { data := #[] }) (.slice none 0 0) (.slice none 0 0) := by
    have := Blk5.new (w.alloc (.cells #[.int .i64 k, .int .i64 n, .string s, .slice ak lk ck, .slice al ll cl] 26)) 26 (.int .i64 0) (.int .i64 0) (.string { data := #[] }) (.slice none 0 0) (.slice none 0 0)
    rw [World.size_alloc] at this
    rw [hW]
    exact this
  have HW := hide hW
  clear hW
  go_enter Tryz.func46, Tryz.ntmps46
  go_wp2_with fail
  rw [← HW.out]
  clear HW
  refine (treesInRow_own d S t _ W0 (hv.same (hS.same hW0)) (hS.later hW0.size)).mono ?_
  rintro en w1 ⟨hb1, hq⟩
  have hB1 := below_trans hW0 hb1
  have k2 := k1.below hb1
  have hg1 := hg.below hB1
  have hl1 := k1.lt
  have hs0 := hW0.size
  have hs1 := hb1.size
  clear hv
  -- what is told, however it is
  have hfin : ∀ (w1' : World), Below W0.heap.size w1 w1' → ∀ (x : Tr (e + 1)) (ok : Bool), Hid (∀ en w2, TellQ e x ok w1' en w2 → ∃ v0 v1 v2 v3 v4 v5 v6 v7 v8, en = .returned (.tuple #[.agg #[.int .i64 v0, .int .i64 v1, .string v2, .slice v3 v4 v5, .slice v6 v7 v8], .bool ok]) ∧
      Blk5 w2 (w.heap.size + 1) 26 (.int .i64 0) (.int .i64 0) (.string { data := #[] }) (.slice none 0 0) (.slice none 0 0) ∧
      ∀ wF, wF = set5 w2 (w.heap.size + 1) 0 (.int .i64 v0) (.int .i64 v1) (.string v2) (.slice v3 v4 v5) (.slice v6 v7 v8) → ValOwn wF (e + 1) (Fresh w wF) x (.agg #[.int .i64 v0, .int .i64 v1, .string v2, .slice v3 v4 v5, .slice v6 v7 v8]) ∧ Below w.heap.size w wF) := fun w1' hb' x ok => by
    intro en w2 ⟨v, he, hv, hb2⟩
    obtain ⟨v0, v1, v2, v3, v4, v5, v6, v7, v8, rfl⟩ := (ValOwn.at _ _ _ _ hv).shape
    have hs' := hb'.size
    exact ⟨v0, v1, v2, v3, v4, v5, v6, v7, v8, he, (k2.of_block (hb'.block _ hl1)).below hb2, tell_end hv (below_trans (hB1.trans (hb'.mono hs0)) hb2) (by omega) (by omega)⟩
  clear hW0 k1 hb1
  rcases hq with ⟨xs, xa, xc, vs, hrow, rfl, hto⟩ | ⟨hrow, why, rfl⟩
  · have hcall := hide (H.out W0.heap.size xs xa xc vs w1 hrow hto hs0 hs1 hg1)
    have HR := hide hrow
    clear hto H hrow
    go_wp2_with fail
    refine Calls.mono hcall.out ?_
    rintro en w2 ⟨hb2, hq⟩
    clear hcall
    have hz2 := hb2.size
    have h00 : 0 < W0.heap.size := Nat.lt_of_lt_of_le hg.lt hs0
    have hg2 : ErrType w2 := (hb2.cell (p := ⟨0, 0, none⟩) h00).trans hg1
    rcases hq with ⟨x, u, hx, rfl, hu⟩ | ⟨hx, why, rfl⟩
    · obtain ⟨T, u', rfl⟩ := hu.iface
      have hT := hide (rowTell_some HR.out hx)
      have hcall := hide (told_tree e _ x _ w2 hu (fun b hb => hb.2))
      clear hx hu
      go_wp2_with fail
      refine Calls.mono hcall.out ?_
      intro en w3 hq
      obtain ⟨v0, v1, v2, v3, v4, v5, v6, v7, v8, rfl, k3, hF⟩ := (hfin w2 hb2 _ _).out en w3 hq
      have HF := hide hF
      obtain ⟨y0, y1, y2, y3, y4⟩ := k3.cell
      have yf := k3.frozen
      clear hF hq hfin hcall k3
      go_wp2_with fail
      refine bodyPost_ret (v := .tuple #[.agg #[.int .i64 v0, .int .i64 v1, .string v2, .slice v3 v4 v5, .slice v6 v7 v8], .bool (okT (e + 1) x)]) (by simp [results, Tryz.results46, go_sem, y0, y1, y2, y3, y4]) rfl ⟨_, by rw [hT.out], by rw [hT.out]; exact (HF.out _ rfl).1, (HF.out _ rfl).2⟩
    · have hT := hide (rowTell_fault HR.out hx)
      have hcall := hide (told_fault e .nilIface why w2 hg2)
      unfold faultV
      clear hx
      go_wp2_with fail
      refine Calls.mono hcall.out ?_
      intro en w3 hq
      obtain ⟨v0, v1, v2, v3, v4, v5, v6, v7, v8, rfl, k3, hF⟩ := (hfin w2 hb2 _ _).out en w3 hq
      have HF := hide hF
      obtain ⟨y0, y1, y2, y3, y4⟩ := k3.cell
      have yf := k3.frozen
      clear hF hq hfin hcall k3
      go_wp2_with fail
      refine bodyPost_ret (v := .tuple #[.agg #[.int .i64 v0, .int .i64 v1, .string v2, .slice v3 v4 v5, .slice v6 v7 v8], .bool false]) (by simp [results, Tryz.results46, go_sem, y0, y1, y2, y3, y4]) rfl ⟨_, by rw [hT.out], by rw [hT.out]; exact (HF.out _ rfl).1, (HF.out _ rfl).2⟩
  · have hT := hide (rowTell_none (f := f) hrow)
    have hcall := hide (told_fault e .nilIface why w1 hg1)
    unfold faultV
    clear hrow H
    go_wp2_with fail
    refine Calls.mono hcall.out ?_
    intro en w2 hq
    obtain ⟨v0, v1, v2, v3, v4, v5, v6, v7, v8, rfl, k3, hF⟩ := (hfin w1 (Below.refl _ _) _ _).out en w2 hq
    have HF := hide hF
    obtain ⟨y0, y1, y2, y3, y4⟩ := k3.cell
    have yf := k3.frozen
    clear hF hq hfin hcall k3
    go_wp2_with fail
    refine bodyPost_ret (v := .tuple #[.agg #[.int .i64 v0, .int .i64 v1, .string v2, .slice v3 v4 v5, .slice v6 v7 v8], .bool false]) (by simp [results, Tryz.results46, go_sem, y0, y1, y2, y3, y4]) rfl ⟨_, by rw [hT.out], by rw [hT.out]; exact (HF.out _ rfl).1, (HF.out _ rfl).2⟩
end Go.Proofs.YtohdpgclokgohaaGreatDoor

/- keysOfPairs, RowKeys of the program. -/
namespace Go.Proofs.YtohdpgclokgohaaGreatDoor
open Go.RowKit Go.Deep

theorem Row1At.nth {α : Type} {S : Nat → Prop} {w : World} {At : α → Value → Prop} {a : Option Addr} {n cap k : Nat} {xs : List α} (h : Row1At S w At (.slice a n cap) xs) (hk : k < xs.length) : ∃ b o x u, a = some ⟨b, o, none⟩ ∧ S b ∧ xs[k]? = some x ∧ w.cell? ⟨b, o + k, none⟩ = some u ∧ At x u := by
  obtain ⟨_, a', cap', hv, h3⟩ := h
  cases hv
  rcases h3 with rfl | ⟨b, o, hB, ha, hc⟩
  · simp at hk
  · obtain ⟨u, e0, e1⟩ := hc k _ (List.getElem?_eq_getElem hk)
    exact ⟨b, o, xs[k], u, ha, hB, List.getElem?_eq_getElem hk, e0, e1⟩
theorem keysF_none {d : Nat} {xs : List (Tr (d + 2))} (h : accF xs [] = none) : keysF d xs = none := by
  unfold keysF
  rw [h]
  rfl
theorem keysF_some {d : Nat} {xs : List (Tr (d + 2))} {acc : List (ByteArray × Tr (d + 1))} (h : accF xs [] = some acc) : keysF d xs = some (mapT (d + 1) acc) := by
  unfold keysF
  rw [h]
  rfl

set_option maxRecDepth 100000 in
set_option maxHeartbeats 8000000 in
theorem keysOfPairs_any (d N : Nat) (xs : List (Tr (d + 2))) (a : Option Addr) (cap : Nat) (vs : List Value) (w : World) (hto0 : GTo N w (.slice a xs.length cap) xs vs) (hN : N ≤ w.heap.size) (hl : xs.length ≤ 60) (hoks : ∀ x ∈ xs, okT (d + 2) x = true) :
    Calls Tryz.prog 51 #[.slice a xs.length cap] w (TellF (d + 1) N (keysF d xs) w) := by
  obtain ⟨S, hSd⟩ : ∃ S : Nat → Prop, S = fun b => N ≤ b ∧ b < w.heap.size := ⟨_, rfl⟩
  have hrow0 : Row1At S w (TreeG S w (d + 2)) (.slice a xs.length cap) xs := by rw [hSd]; exact hto0.row (by omega)
  have hSw : Within S w := by rw [hSd]; exact fun b hb => hb.2
  have hSN : ∀ b, S b → N ≤ b := by rw [hSd]; exact fun b hb => hb.1
  have hmk := fun w => run_makeMap (P := Tryz.prog) 62 w
  have hA := below_alloc1 w (.map #[] 0)
  have hst : Hid (MapB (d := d + 1) S (w.alloc (.map #[] 0)) w.heap.size #[] [] []) := ⟨heap_alloc_new _ _, List.Perm.refl _, rfl, fun i k x h => by simp at h⟩
  have HOK := hide hoks
  clear hSd hto0 hoks
  go_enter Tryz.func51, Tryz.ntmps51
  go_wp2_with fail
  go_loopw [13] (fun i wr => ∃ (k : Nat) (es : Array MapEntry) (ps acc : List (ByteArray × Tr (d + 1))), k ≤ xs.length ∧ i = .int .i64 (k : Int) ∧ Hid (AccOk k acc) ∧ Hid (accF xs [] = accF (xs.drop k) acc) ∧ Hid (MapB S wr w.heap.size es ps acc) ∧ Hid (Below w.heap.size w wr) ∧ w.heap.size < wr.heap.size) (fun i _ => xs.length - (intOf i).toNat)
  case atStart => exact ⟨0, _, _, _, Nat.zero_le _, rfl, AccOk.nil, rfl, hst, hA, by simp⟩
  case round =>
    clear hst hA
    obtain ⟨k, es, ps, acc, hk, rfl, hacc, hfin, hmap, hbr, hsz⟩ := hrel
    by_cases hkl : k < xs.length
    · have hki : (k : Int) < (xs.length : Int) := by omega
      have hmv := hSw.same hbr.out
      have hrow := hrow0.moved (At' := TreeG S wr (d + 2)) hmv (fun _ h => h) (fun x u hx => TreeG.moved hmv (fun _ h => h) (d + 2) x u hx)
      obtain ⟨b, o, x, u, rfl, hb, hx, e0, hu⟩ := hrow.nth hkl
      have hstp := hide (accF_step hx acc)
      have hxok := hide (HOK.out x (List.mem_of_getElem? hx))
      obtain ⟨Tu, u', rfl⟩ := hu.iface
      have hcall := hide (pairOf_any d S x (.iface Tu u') wr hu (hSw.later (Nat.le_of_lt hsz)))
      clear hrow0 hx hrow hu hmv
      go_wp2_with fail
      refine Calls.mono hcall.out ?_
      rintro e w1 ⟨hb1, hq⟩
      have hz1 := hb1.size
      rcases hq with ⟨s, y, v, hp, rfl, hv⟩ | ⟨hp, why, rfl⟩
      · obtain ⟨Tv, v', rfl⟩ := hv.iface
        have hlist : ∃ a0, Nd.list x = [a0, y] ∧ Nd.kind a0 = 4 ∧ Nd.str a0 = s := by
          unfold pairOk at hp
          split at hp
          · split at hp
            · rename_i a0 b0 hl0
              split at hp
              · rename_i h4
                simp at hp
                exact ⟨a0, by rw [hl0, hp.2], h4, hp.1⟩
              · cases hp
            · cases hp
          · cases hp
        obtain ⟨a0, hl0, h4, hs0⟩ := hlist
        have hyok : okT (d + 1) y = true := okT_part hxok.out (by rw [hl0]; simp)
        have hsok : strOk s = true := by
          rw [← hs0]
          exact okT_text (okT_part hxok.out (by rw [hl0]; simp)) h4
        have hnS : ¬ S w.heap.size := fun h => by have := hSw _ h; omega
        have hm1 : MapB S w1 w.heap.size es ps acc := hmap.out.moved (hb1.block _ hsz) (fun b hb => hb1.block b (by have := hSw b hb; omega))
        obtain ⟨w2, es2, ps2, hrun, hbp, hsz2, hblk2, hm2⟩ := hm1.put (s := s) hacc.out.good hnS hv
        have HM := hide hm2
        have HACC := hide (hacc.out.put hsok hyok)
        have HFIN : Hid (accF xs [] = accF (xs.drop (k + 1)) (putL (acc.map Prod.fst) (acc.map Prod.snd) s y)) := by
          show accF xs [] = _
          rw [hfin.out, hstp.out, hp]
        have HB2 : Hid (Below w.heap.size w w2) := (hbr.out.trans (hb1.mono (by omega))).trans hbp
        have hsz3 : w.heap.size < w2.heap.size := by omega
        clear hp hv hl0 h4 hs0 hyok hsok hnS hm1 hbp hblk2 hm2 hmap hacc hfin hstp hbr hb1 hcall hxok
        go_wp2_with fail
        go_roundw
        case rel => exact ⟨k + 1, es2, ps2, _, by omega, by go_num, HACC, HFIN, HM, HB2, hsz3⟩
        case measure => simp [intOf]; omega
      · have hq : Hid (keysF d xs = none) := by
          refine keysF_none ?_
          rw [hfin.out, hstp.out, hp]
        have HB : Hid (Below N w w1) := ((hbr.out.trans (hb1.mono (by omega))).mono hN)
        unfold faultV
        clear hp hmap hacc hfin hstp hbr hb1 hcall
        go_wp2_with fail
        go_ret2
        exact ⟨HB.out, Or.inr ⟨hq.out, why, rfl⟩⟩
    · obtain rfl : k = xs.length := by omega
      have hq : Hid (keysF d xs = some (mapT (d + 1) acc)) := by
        refine keysF_some ?_
        rw [hfin.out, List.drop_eq_nil_of_le (Nat.le_refl _)]
        rfl
      have hal := hacc.out.len
      have HG : Hid (TreeG (fun b => N ≤ b ∧ b < wr.heap.size) wr (d + 2) (mapT (d + 1) acc) (.iface 100 (.agg #[.map (some w.heap.size)]))) := hmap.out.tree hacc.out.good (by omega) hN (fun b hb => ⟨hSN b hb, by have := hSw b hb; omega⟩)
      have HB : Hid (Below N w wr) := hbr.out.mono hN
      clear hmap hacc hfin hbr hrow0
      go_wp2_with fail
      go_ret2
      exact ⟨HB.out, Or.inl ⟨_, _, hq.out, rfl, HG.out⟩⟩

set_option maxRecDepth 100000 in
set_option maxHeartbeats 2000000 in
theorem implRowKeys_any (d : Nat) (S : Nat → Prop) (t : Tr (d + 2 + 1)) (v : Value) (w : World) (hv : ValAt S w (d + 2 + 1) t v) (hS : Within S w) (hg : ErrType w) :
    Calls Tryz.prog 18 #[v] w (TellQ (d + 1) (rowTell (keysF d) t).1 (rowTell (keysF d) t).2 w) := by
  obtain ⟨k, n, s, ak, lk, ck, al, ll, cl, rfl⟩ := hv.shape
  obtain ⟨W0, hW⟩ : ∃ W0, W0 = (w.alloc (.cells #[.int .i64 k, .int .i64 n, .string s, .slice ak lk ck, .slice al ll cl] 26)).alloc (.cells #[.int .i64 0, .int .i64 0, .string { data := #[] }, .slice none 0 0, .slice none 0 0] 26) := ⟨_, rfl⟩
  have hW0 : Below w.heap.size w W0 := by rw [hW]; exact below_trans (below_alloc1 _ _) (below_alloc1 _ _)
  have k1 : Blk5 W0 (w.heap.size + 1) 26 (.int .i64 0) (.int .i64 0) (.string { data := #[] }) (.slice none 0 0) (.slice none 0 0) := by
    have := Blk5.new (w.alloc (.cells #[.int .i64 k, .int .i64 n, .string s, .slice ak lk ck, .slice al ll cl] 26)) 26 (.int .i64 0) (.int .i64 0) (.string { data := #[] }) (.slice none 0 0) (.slice none 0 0)
    rw [World.size_alloc] at this
    rw [hW]
    exact this
  have hcall := hide (ofRow_keysOfPairs (d + 2) (d + 1) S t _ (keysF d) W0 (hv.same (hS.same hW0)) (hS.later hW0.size) (hg.below hW0) (fun N xs a cap vs w1 hrow hto _ hN _ => keysOfPairs_any d N xs a cap vs w1 hto hN (by obtain ⟨hok, _, rfl⟩ := treesL_some hrow; exact (okT_kinds hok).2.1) (by obtain ⟨hok, _, rfl⟩ := treesL_some hrow; exact fun x hx => okT_part hok hx)))
  have HW := hide hW
  have hlt := k1.lt
  clear hW hv
  go_enter Tryz.func18, Tryz.ntmps18
  go_wp2_with fail
  rw [← HW.out]
  clear HW
  refine Calls.mono hcall.out ?_
  rintro e w1 ⟨r, rfl, hr, hb1⟩
  obtain ⟨v0, v1, v2, v3, v4, v5, v6, v7, v8, rfl⟩ := (ValOwn.at _ _ _ _ hr).shape
  have HF := hide (tell_end hr (below_trans hW0 hb1) (by omega) hlt)
  have k3 := k1.below hb1
  obtain ⟨y0, y1, y2, y3, y4⟩ := k3.cell
  have yf := k3.frozen
  clear hr hb1 k3 k1 hcall hW0
  go_wp2_with fail
  refine bodyPost_ret (v := .tuple #[.agg #[.int .i64 v0, .int .i64 v1, .string v2, .slice v3 v4 v5, .slice v6 v7 v8], .bool (rowTell (keysF d) t).2]) (by simp [results, Tryz.results18, go_sem, y0, y1, y2, y3, y4]) rfl ⟨_, rfl, (HF.out _ rfl).1, (HF.out _ rfl).2⟩
end Go.Proofs.YtohdpgclokgohaaGreatDoor
