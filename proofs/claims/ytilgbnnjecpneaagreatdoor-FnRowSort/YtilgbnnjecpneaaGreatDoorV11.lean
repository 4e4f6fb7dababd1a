/- Texts of the proof, put together by program: WValC, WImplV, WAs, WAsHit, WTold. -/
import Derived.Test.YtilgbnnjecpneaaGreatDoorV10
import Derived.Test.YtilgbnnjecpneaaGreatDoorV5
import Derived.Test.YtilgbnnjecpneaaGreatDoorV4
import Derived.LaidEql
import Derived.Stop.Asserts
import Derived.Lib.ReflectliteSlice
import Derived.RowKitTokens
/- val of maps, and of all trees. -/
namespace Go.Proofs.YtilgbnnjecpneaaGreatDoor
open Go.RowKit Go.Deep

set_option maxRecDepth 100000 in
set_option maxHeartbeats 2000000 in
theorem mapVal_any (d : Nat) (ih : ValC d) (S : Nat → Prop) (keys : List ByteArray) (xs : List (Tr d)) (ps : List (ByteArray × Tr d)) (r : Nat) (es : Array MapEntry) (w : World) (hSr : S r) (hobj : w.heap[r]? = some (.map es ps.length)) (hmap : MapG (TreeG S w d) es ps) (hS : Within S w)
    (hp : ps.Perm (keys.zip xs)) (hkx : keys.length = xs.length) (hkb : keysB keys = true) (hsm : xs.length ≤ 1000) :
    Calls Tryz.prog 152 #[.agg #[.map (some r)]] w (ValQ (d + 1) (Nd.mk 6 0 ByteArray.empty keys xs : Nd (Tr d)) w) := by
  have hrw := hS r hSr
  have hnd := perm_nodup hp hkx hkb
  obtain ⟨W0, hW⟩ : ∃ W0, W0 = (w.alloc (.cells #[.map (some r)] 120)).alloc (.cells #[.int .i64 0, .int .i64 0, .string { data := #[] }, .slice none 0 0, .slice none 0 0] 29) := ⟨_, rfl⟩
  have hW0 : Below w.heap.size w W0 := by rw [hW]; exact below_trans (below_alloc1 _ _) (below_alloc1 _ _)
  have k1 : Blk5 W0 (w.heap.size + 1) 29 (.int .i64 0) (.int .i64 0) (.string { data := #[] }) (.slice none 0 0) (.slice none 0 0) := by
    have := Blk5.new (w.alloc (.cells #[.map (some r)] 120)) 29 (.int .i64 0) (.int .i64 0) (.string { data := #[] }) (.slice none 0 0) (.slice none 0 0)
    rw [World.size_alloc] at this
    rw [hW]
    exact this
  have k1lt := k1.lt
  have x0 : W0.cell? ⟨w.heap.size, 0, none⟩ = some (.map (some r)) := by
    rw [hW, World.cell?_alloc_lt _ _ ⟨w.heap.size, 0, none⟩ (by simp)]
    simp
  have HW := hide hW
  have hkeys := hide (keys_any S (TreeG S w d) ps keys xs r es W0 hSr ((hW0.block r hrw).trans hobj) hmap (hS.later hW0.size) hp hkx hkb hsm)
  clear hW
  go_enter Tryz.func152, Tryz.ntmps152
  go_wp2_with fail
  rw [← HW.out]
  clear HW
  refine hkeys.out.mono ?_
  rintro e w1 ⟨u, rfl, hk1, hb1⟩
  obtain ⟨ka, kc, rfl, hkn⟩ := hk1.open'
  have hB1 := below_trans hW0 hb1
  replace k1 := k1.below hb1
  have x1 := (hb1.cell (p := ⟨w.heap.size, 0, none⟩) (World.block_lt_of_cell? W0 _ x0)).trans x0
  have HK1 := hide hk1
  have hkat := hk1.at
  have hWk : Within (Fresh W0 w1) w1 := Fresh.within _ _
  have hz0 : w.heap.size + 1 < W0.heap.size := k1lt
  have hz1' : W0.heap.size ≤ w1.heap.size := hb1.size
  have HKX := hide hkx
  have hmp : Hid (∀ k s x, keys[k]? = some s → xs[k]? = some x → (s, x) ∈ ps) := fun k s x h1 h2 => hp.mem_iff.2 (List.mem_of_getElem? (List.getElem?_zip_eq_some.2 ⟨h1, h2⟩))
  clear hb1 hW0 hkeys hk1 hp x0 hkx
  go_wp2_with fail
  go_loopw [4, 11] (fun lv i wr => ∃ (k : Nat) (vs : List Value) (P : Nat → Nat → Prop), k ≤ keys.length ∧ i = .int .i64 k ∧ Hid (ValsTo w1.heap.size wr lv xs k vs P) ∧ Below w1.heap.size w1 wr) (fun _ i _ => keys.length - (intOf i).toNat)
  case atStart => exact ⟨0, [], _, Nat.zero_le _, rfl, ValsTo.start _ _ _, Below.refl _ _⟩
  case round =>
    obtain ⟨k, vs, P, hkk, rfl, hto, hbel⟩ := hrel
    have hbw := below_trans hB1 hbel
    by_cases hkl : k < keys.length
    · obtain ⟨kb, ko, s, rfl, _, hs, _, hck⟩ := (hkat.same (hWk.same hbel)).cell hkl
      have hxl : k < xs.length := by have := HKX.out; omega
      have hx : xs[k]? = some xs[k] := List.getElem?_eq_getElem hxl
      generalize xs[k] = x at hx
      obtain ⟨j, u, _, hej, hu, hfirst⟩ := hmap.find hnd (hmp.out k s x hs hx)
      have hobj2 : wr.heap[r]? = some (.map es ps.length) := (hbw.block r hrw).trans hobj
      have hlook := run_mapGet wr r ps.length j es s u j false hobj2 hej hfirst
      have x2 := (hbel.cell (p := ⟨w.heap.size, 0, none⟩) (World.block_lt_of_cell? w1 _ x1)).trans x1
      obtain ⟨v, hm⟩ := ih S x u wr (hu.same (hS.same hbw)) (hS.later hbw.size)
      have HX := hide hx
      have hNs : w1.heap.size ≤ wr.heap.size := hbel.size
      simp only [Bool.false_eq_true, if_false] at hlook
      clear hx hu hbw hs hej hfirst hobj2
      rcases hm with ⟨rfl, hcall⟩ | ⟨rfl, hcall⟩ | ⟨rfl, hcall⟩ | ⟨rfl, hcall⟩ | ⟨rfl, hcall⟩
      all_goals
        have HC := hide hcall
        clear hcall
        go_wp2_with fail
        refine Calls.mono (R := ValQ d x wr) HC.out ?_
        rintro e w2 ⟨u, rfl, hu, hb2⟩
        obtain ⟨v0, v1, v2, v3, v4, v5, v6, v7, v8, rfl⟩ := (ValOwn.at d _ _ _ hu).shape
        have hb3 := hide (below_trans hbel hb2)
        have hown1 := hide ((hto.out.own.kept (row := none) ⟨hb2.os, hb2.tape, hb2.output, hb2.size, fun i hi _ => hb2.block i hi⟩ (by cases u4.ownBlock <;> simp)).alloc (.cells #[.int .i64 v0, .int .i64 v1, .string v2, .slice v3 v4 v5, .slice v6 v7 v8] 29))
        have hN1 : w1.heap.size ≤ w2.heap.size := hb3.out.size
        have hstep : Hid (∀ sv' w3, w3.ownsRow w1.heap.size 29 5 sv' (k + 1) (vs ++ [.int .i64 v0, .int .i64 v1, .string v2, .slice v3 v4 v5, .slice v6 v7 v8]) → (w2.alloc (.cells #[.int .i64 v0, .int .i64 v1, .string v2, .slice v3 v4 v5, .slice v6 v7 v8] 29)).grownBy w3 (u4.ownBlock) →
            (sv'.ownBlock = u4.ownBlock ∨ sv'.ownBlock = some (w2.alloc (.cells #[.int .i64 v0, .int .i64 v1, .string v2, .slice v3 v4 v5, .slice v6 v7 v8] 29)).heap.size) →
            (∃ P', ValsTo w1.heap.size w3 sv' xs (k + 1) (vs ++ [.int .i64 v0, .int .i64 v1, .string v2, .slice v3 v4 v5, .slice v6 v7 v8]) P') ∧ Below w1.heap.size w1 w3) := by
          intro sv' w3 o1 o2 o3
          have hrow : ∀ g, u4.ownBlock = some g → w1.heap.size ≤ g := fun g hg => (hto.out.own.lt g hg).1
          refine ⟨⟨_, hto.out.step hb2 HX.out hu o1 o2 o3 hNs⟩, ?_⟩
          have hb4 := hb3.out
          refine ⟨o2.os.trans hb4.os, o2.tape.trans hb4.tape, o2.output.trans hb4.output, Nat.le_trans hb4.size (Nat.le_trans (by simp) o2.size), fun i hi => ?_⟩
          exact ((o2.block i (by simp; omega) (fun e => by have := hrow i e.symm; omega)).trans (Below.heap_alloc _ _ _ (by omega))).trans (hb4.block i hi)
        obtain ⟨i0, hi, hz0, hz1, hz2⟩ := info_parts Tryz.infoVal
        clear hto hu hb2 hbel HC hck hb3 hlook x2
        go_wp2_with (at_builtin; refine wpList_append_own_at _ rfl _ _ 27 rfl w1.heap.size 29 i0 zeroVal 5 80 Tryz.underlying27 hi hz0 hz1 hz2 rfl (by decide) _ _ _ rfl hown1.out ⟨w2.heap.size, 0, none⟩ 1 1 [.int .i64 v0, .int .i64 v1, .string v2, .slice v3 v4 v5, .slice v6 v7 v8] rfl rfl (cell_five_new _ _ _ _ _ _ _) ?c2 ?c3 ?c4 ?c5 ?_)
        case c2 => intro y hy; simp at hy; rcases hy with rfl | rfl | rfl | rfl | rfl <;> rfl
        case c3 => unfold maxLen; omega
        case c4 => omega
        case c5 => first | omega | (simp; omega)
        · intro sv' w3 o1 o2 _ o3
          have HH := hide (hstep.out sv' w3 o1 o2 (by rw [World.size_alloc]; exact o3))
          clear o1 o2 o3 hstep hown1
          go_wp2_with fail
          go_roundw
          case rel =>
            obtain ⟨⟨P', hP'⟩, hB'⟩ := HH.out
            exact ⟨k + 1, _, P', by omega, by go_num, hP', hB'⟩
          case measure => simp [intOf]; omega
    · obtain rfl : k = keys.length := by omega
      have hkq := HKX.out
      have hto' : ValsTo w1.heap.size wr u4 xs xs.length vs P := by rw [← hkq]; exact hto.out
      have hdone := hto'.done (by omega)
      obtain ⟨sa, sc, rfl, _⟩ := hdone.open'
      have k2 := k1.below hbel
      obtain ⟨y0, y1, y2, y3, y4⟩ := k2.cell
      have yf := k2.frozen
      have hend : Hid (∀ wF, wF = set5 wr (w.heap.size + 1) 0 (.int .i64 6) (.int .i64 0) (.string { data := #[] }) (.slice ka keys.length kc) (.slice sa xs.length sc) →
          ValOwn wF (d + 1) (Fresh w wF) (Nd.mk 6 0 ByteArray.empty keys xs : Nd (Tr d)) (.agg #[.int .i64 6, .int .i64 0, .string ByteArray.empty, .slice ka keys.length kc, .slice sa xs.length sc]) ∧ Below w.heap.size w wF) := by
        intro wF hF
        have hsm : ∀ R : Nat → Prop, (∀ b, R b → W0.heap.size ≤ b) → Same R wr wF := fun R hR b hb => by
          rw [hF, set5_block _ _ _ _ _ _ _ _ _ (by have := hR b hb; omega)]
        have hzF : wF.heap.size = wr.heap.size := by rw [hF, set5_size]
        have hz1 : W0.heap.size ≤ w1.heap.size := hz1'
        have hz2 := hbel.size
        refine ⟨⟨_, _, Fresh W0 w1, fun b => w1.heap.size ≤ b ∧ b < wr.heap.size, rfl, ⟨by show _ ≤ (6 : Int); omega, by show (6 : Int) ≤ _; omega⟩, ⟨by show _ ≤ (0 : Int); omega, by show (0 : Int) ≤ _; omega⟩, by show ByteArray.empty.size < _; decide,
          ((StrsOwn.moved HK1.out (hWk.same hbel) (fun _ h => h)).moved (hsm _ (fun b hb => hb.1)) (fun _ h => h)), hdone.moved (hsm _ (fun b hb => by have := hb.1; omega)) (fun _ h => h) (fun P x u hP hx => ValOwn.moved d P P x u hx (hsm P (fun b hb => by have := (hP b hb).1; omega)) (fun _ h => h)),
          fun b hb => ⟨by have := hb.1; omega, by have := hb.2; omega⟩, fun b hb => ⟨by have := hb.1; omega, by have := hb.2; omega⟩, fun b hb hb' => by have := hb.2; have := hb'.1; omega⟩, ?_⟩
        rw [hF]
        exact below_set5 hbw (by omega) _ _ _ _ _ _
      clear hdone hto hto' k2 hkq
      go_wp2_with fail
      refine bodyPost_ret (v := .agg #[.int .i64 6, .int .i64 0, .string ByteArray.empty, .slice ka keys.length kc, .slice sa xs.length sc]) (by simp [results, Tryz.results152, go_sem, y0, y1, y2, y3, y4]; rfl) rfl ⟨_, rfl, hend.out _ rfl⟩

theorem val_any : ∀ (d : Nat), ValC d
  | 0 => fun _ _ _ _ h => h.elim
  | d + 1 => by
    intro S t u w hu hS
    have ih := val_any d
    rcases hu with ⟨k, h1, rfl, rfl⟩ | ⟨n, h1, rfl, rfl⟩ | ⟨s, h1, rfl, rfl⟩ | ⟨xs, sv, h1, rfl, rfl, hr⟩ | ⟨keys, xs, ps, r, es, h1, h2, h3, h4, rfl, rfl, hr, hm, he⟩
    · exact ⟨_, Or.inl ⟨rfl, bareVal_any d k w h1⟩⟩
    · exact ⟨_, Or.inr (Or.inl ⟨rfl, numVal_any d n w h1⟩)⟩
    · exact ⟨_, Or.inr (Or.inr (Or.inl ⟨rfl, strVal_any d s w h1⟩))⟩
    · exact ⟨_, Or.inr (Or.inr (Or.inr (Or.inl ⟨rfl, rowVal_any d ih S xs sv w hr hS h1⟩)))⟩
    · exact ⟨_, Or.inr (Or.inr (Or.inr (Or.inr ⟨rfl, mapVal_any d ih S keys xs ps r es w hr hm he hS h4 h3 h2 h1⟩)))⟩
end Go.Proofs.YtilgbnnjecpneaaGreatDoor

/- ValOk of the program. -/
namespace Go.Proofs.YtilgbnnjecpneaaGreatDoor
open Go.RowKit Go.Deep

set_option maxHeartbeats 1000000 in
theorem implValOk_any (d : Nat) (S : Nat → Prop) (t : Tr d) (v : Value) (w : World) (hv : ValAt S w d t v) (hS : Within S w) :
    Calls Tryz.prog 79 #[v] w fun e w' => e = .returned (.bool (treeP d t 60 1).1) ∧ Below w.heap.size w w' := by
  obtain ⟨k, n, s, ak, lk, ck, al, ll, cl, rfl⟩ := hv.shape
  have hA := below_alloc1 w (.cells #[.int .i64 k, .int .i64 n, .string s, .slice ak lk ck, .slice al ll cl] 29)
  go_enter Tryz.func79, Tryz.ntmps79
  go_wp2_with fail
  refine (treeOf_any d S t _ _ (hv.same (hS.same hA)) (hS.later hA.size)).mono ?_
  rintro e w1 ⟨u, rfl, _, hb1⟩
  have HB : Hid (Below w.heap.size w w1) := below_trans hA hb1
  clear hb1 hA hv
  go_wp2_with fail
  go_ret
  exact ⟨rfl, HB.out⟩
end Go.Proofs.YtilgbnnjecpneaaGreatDoor

/- errors.As at a fault of parts: a nil error, and a fault. -/
namespace Go.Proofs.YtilgbnnjecpneaaGreatDoor
open Go.RowKit Go.Extern.Stop Go.Stop Go.Extern

theorem as_nil (t : Value) (w : World) : Calls Tryz.prog 78 #[.nilIface, t] w fun e w' => e = .returned (.bool false) ∧ w' = w := by
  go_enter Tryz.func78, Tryz.ntmps78
  go_wp2
  go_ret
  exact ⟨rfl, rfl⟩

theorem Tryz.vOfP (t : Addr) (w : World) : (ReflectliteValue.unpack (.iface 105 (.pointer (some t)))).run Tryz.prog w
    = .ok (.agg #[.pointer (some ⟨1, 105, none⟩), .pointer (some ⟨w.heap.size, 0, none⟩), .int .u64 150]) (w.alloc (.cells #[.pointer (some t)] 105)) := by kernel_rfl
theorem Tryz.typeP (a : Addr) (w : World) : (ReflectliteValue.methodAny (ReflectliteValue.valueError "reflectlite.Value.Type" 0) (fun t _ _ _ => ReflectliteType.toType t) #[.agg #[.pointer (some ⟨1, 105, none⟩), .pointer (some a), .int .u64 150]]).run Tryz.prog w
    = .ok (.iface 161 (.agg #[.pointer (some ⟨1, 105, none⟩)])) w := by kernel_rfl
theorem Tryz.kindP (w : World) : ((ReflectliteType.abiMethod fun t => Functor.map (fun a : Nat => Value.int IntKind.u8 (a : Int)) (Rtype.kind t)) #[.pointer (some ⟨1, 105, none⟩)]).run Tryz.prog w = .ok (.int .u8 22) w := by kernel_rfl
theorem Tryz.kindF (w : World) : ((ReflectliteType.abiMethod fun t => Functor.map (fun a : Nat => Value.int IntKind.u8 (a : Int)) (Rtype.kind t)) #[.pointer (some ⟨1, 103, none⟩)]).run Tryz.prog w = .ok (.int .u8 25) w := by kernel_rfl
theorem Tryz.partsP (a : Addr) (w : World) : (ReflectliteValue.parts (.agg #[.pointer (some ⟨1, 105, none⟩), .pointer (some a), .int .u64 150])).run Tryz.prog w = .ok (some (105, a, 150)) w := by kernel_rfl
theorem Tryz.isNilP (a p : Addr) (W : World) (ha : W.cell? a = some (.pointer (some p))) :
    (ReflectliteValue.method (ReflectliteValue.valueError "reflectlite.Value.IsNil" 0) ReflectliteValue.isNil #[.agg #[.pointer (some ⟨1, 105, none⟩), .pointer (some a), .int .u64 150]]).run Tryz.prog W = .ok (.bool false) W := by
  rw [Go.Lib.rl_method]
  simp only [Sem.run_bind, Tryz.partsP, Result.andThen]
  simp [ReflectliteValue.isNil, loadVar, isAgg, underlying, Tryz.underlying105, ha, Result.andThen]
theorem Tryz.elemP (w : World) : (ReflectliteType.method ReflectliteType.elem #[.agg #[.pointer (some ⟨1, 105, none⟩)]]).run Tryz.prog w = .ok (.iface 161 (.agg #[.pointer (some ⟨1, 103, none⟩)])) w := by kernel_rfl
theorem Tryz.implementsF (w : World) : (ReflectliteType.relation "Implements" ReflectliteType.implements_ #[.agg #[.pointer (some ⟨1, 103, none⟩)], .iface 161 (.agg #[.pointer (some ⟨1, 66, none⟩)])]).run Tryz.prog w = .ok (.bool true) w := by kernel_rfl
theorem Tryz.typeOfF (v : Value) (w : World) : (ReflectliteType.typeOf #[.iface 103 v]).run Tryz.prog w = .ok (.iface 161 (.agg #[.pointer (some ⟨1, 103, none⟩)])) w := by kernel_rfl
theorem Tryz.assignableF (w : World) : (ReflectliteType.relation "AssignableTo" ReflectliteType.assignableTo #[.agg #[.pointer (some ⟨1, 103, none⟩)], .iface 161 (.agg #[.pointer (some ⟨1, 103, none⟩)])]).run Tryz.prog w = .ok (.bool true) w := by kernel_rfl
theorem Tryz.vOfF (s : ByteArray) (w : World) : (ReflectliteValue.unpack (.iface 103 (.agg #[.string s]))).run Tryz.prog w
    = .ok (.agg #[.pointer (some ⟨1, 103, none⟩), .pointer (some ⟨w.heap.size, 0, none⟩), .int .u64 153]) (w.alloc (.cells #[.string s] 103)) := by kernel_rfl
theorem Tryz.elemOfP (w : World) : (Rtype.elem? 105).run Tryz.prog w = .ok (some 103) w := by kernel_rfl
theorem Tryz.mkF (p : Addr) (w : World) : (ReflectliteValue.mk 103 p ReflectliteValue.flagAddr).run Tryz.prog w = .ok (.agg #[.pointer (some ⟨1, 103, none⟩), .pointer (some p), .int .u64 409]) w := by kernel_rfl
theorem Tryz.elemVP (a p : Addr) (W : World) (ha : W.cell? a = some (.pointer (some p))) :
    (ReflectliteValue.method (ReflectliteValue.valueError "reflectlite.Value.Elem" 0) ReflectliteValue.elem #[.agg #[.pointer (some ⟨1, 105, none⟩), .pointer (some a), .int .u64 150]]).run Tryz.prog W
      = .ok (.agg #[.pointer (some ⟨1, 103, none⟩), .pointer (some p), .int .u64 409]) W := by
  rw [Go.Lib.rl_method]
  simp only [Sem.run_bind, Tryz.partsP, Result.andThen]
  simp [ReflectliteValue.elem, loadVar, isAgg, underlying, Tryz.underlying105, ha, Result.andThen, Tryz.elemOfP, Tryz.mkF]
theorem Tryz.partsFa (a : Addr) (w : World) : (ReflectliteValue.parts (.agg #[.pointer (some ⟨1, 103, none⟩), .pointer (some a), .int .u64 409])).run Tryz.prog w = .ok (some (103, a, 409)) w := by kernel_rfl
theorem Tryz.partsF (a : Addr) (w : World) : (ReflectliteValue.parts (.agg #[.pointer (some ⟨1, 103, none⟩), .pointer (some a), .int .u64 153])).run Tryz.prog w = .ok (some (103, a, 153)) w := by kernel_rfl
theorem Tryz.directF (w : World) : (Rtype.directlyAssignable 103 103).run Tryz.prog w = .ok true w := by kernel_rfl
theorem set_two {motive : Array Value → Type} (v x : Value) (h1 : (v x : Value) → motive #[v, x]) (h2 : (a : Array Value) → motive a) : ReflectliteValue.set.match_3 motive #[v, x] h1 h2 = h1 v x := rfl
/-- (Value).Set: the fault at ta gets what the other one holds. -/
theorem Tryz.setF (ta b : Addr) (s : ByteArray) (old : Value) (W : World) (hb : W.cell? b = some (.string s)) (ht : W.cell? ta = some old) (hf : W.frozen? ta = false) :
    (ReflectliteValue.set #[.agg #[.pointer (some ⟨1, 103, none⟩), .pointer (some ta), .int .u64 409], .agg #[.pointer (some ⟨1, 103, none⟩), .pointer (some b), .int .u64 153]]).run Tryz.prog W
      = .ok (.tuple #[]) (W.setCell ta (.string s)) := by
  have hl := run_loadCells_list (P := Tryz.prog) W b [.string s] (fun j v hj => by
    rcases j with _ | j
    · simp at hj
      subst hj
      simpa [Addr.add] using hb
    · simp at hj)
  delta ReflectliteValue.set
  rw [set_two]
  simp only [Sem.run_bind, Tryz.partsFa, Tryz.partsF, Result.andThen]
  simp [ReflectliteValue.flagAddr, loadVar, isAgg, underlying, Tryz.underlying103, Result.andThen, Tryz.directF, storeVar, Value.cells]
  simp only [List.length_cons, List.length_nil, Nat.zero_add] at hl
  rw [hl]
  simp [storeCells, Addr.add]
  rw [run_store Tryz.prog W ta _ _ (by rfl)]
  simp [ht, hf]
end Go.Proofs.YtilgbnnjecpneaaGreatDoor

/- errors.As at a fault of parts. -/
namespace Go.Proofs.YtilgbnnjecpneaaGreatDoor
open Go.RowKit Go.Extern.Stop Go.Stop Go.Extern

set_option maxRecDepth 100000 in
set_option maxHeartbeats 4000000 in
theorem as_hit (why : ByteArray) (t : Addr) (old : Value) (w : World) (hg : w.cell? ⟨0, 0, none⟩ = some (.iface 161 (.agg #[.pointer (some ⟨1, 66, none⟩)]))) (ht0 : w.cell? t = some old) (hf0 : w.frozen? t = false) :
    Calls Tryz.prog 78 #[.iface 103 (.agg #[.string why]), .iface 105 (.pointer (some t))] w fun ev w' => ev = .returned (.bool true) ∧ w' = ((((w.alloc (.cells #[.pointer (some t)] 105)).alloc (.cells #[.pointer (some ⟨1, 105, none⟩), .pointer (some ⟨w.heap.size, 0, none⟩), .int .u64 150] 141)).alloc (.cells #[.pointer (some ⟨1, 105, none⟩), .pointer (some ⟨w.heap.size, 0, none⟩), .int .u64 150] 141)).alloc (.cells #[.string why] 103)).setCell t (.string why) := by
  have h6 := @run_callFunc_extern Tryz.prog 95 _ (fun args => ReflectliteValue.unpack (args.getD 0 (.tuple #[]))) Tryz.func95 (by kernel_rfl) (by kernel_rfl) (by kernel_rfl) (by kernel_rfl)
  have h7 := @run_callFunc_extern Tryz.prog 96 _ (ReflectliteValue.methodAny (ReflectliteValue.valueError "reflectlite.Value.Type" 0) (fun t _ _ _ => ReflectliteType.toType t)) Tryz.func96 (by kernel_rfl) (by kernel_rfl) (by kernel_rfl) (by kernel_rfl)
  have h8 := @run_callFunc_extern Tryz.prog 97 _ (ReflectliteValue.method (ReflectliteValue.valueError "reflectlite.Value.IsNil" 0) ReflectliteValue.isNil) Tryz.func97 (by kernel_rfl) (by kernel_rfl) (by kernel_rfl) (by kernel_rfl)
  have h27 := @run_callFunc_extern Tryz.prog 133 _ (ReflectliteType.abiMethod fun t => do pure (.int .u8 (← Rtype.kind t))) Tryz.func133 (by kernel_rfl) (by kernel_rfl) (by kernel_rfl) (by kernel_rfl)
  have h37 := @run_callFunc_extern Tryz.prog 180 _ (ReflectliteType.method ReflectliteType.elem) Tryz.func180 (by kernel_rfl) (by kernel_rfl) (by kernel_rfl) (by kernel_rfl)
  have h38 := @run_callFunc_extern Tryz.prog 181 _ (ReflectliteType.relation "Implements" ReflectliteType.implements_) Tryz.func181 (by kernel_rfl) (by kernel_rfl) (by kernel_rfl) (by kernel_rfl)
  have h10 := @run_callFunc_extern Tryz.prog 113 _ ReflectliteType.typeOf Tryz.func113 (by kernel_rfl) (by kernel_rfl) (by kernel_rfl) (by kernel_rfl)
  have h35 := @run_callFunc_extern Tryz.prog 178 _ (ReflectliteType.relation "AssignableTo" ReflectliteType.assignableTo) Tryz.func178 (by kernel_rfl) (by kernel_rfl) (by kernel_rfl) (by kernel_rfl)
  have h11 := @run_callFunc_extern Tryz.prog 114 _ (ReflectliteValue.method (ReflectliteValue.valueError "reflectlite.Value.Elem" 0) ReflectliteValue.elem) Tryz.func114 (by kernel_rfl) (by kernel_rfl) (by kernel_rfl) (by kernel_rfl)
  have h12 := @run_callFunc_extern Tryz.prog 115 _ ReflectliteValue.set Tryz.func115 (by kernel_rfl) (by kernel_rfl) (by kernel_rfl) (by kernel_rfl)
  have tO := Tryz.typeOfF
  have aF := Tryz.assignableF
  have vF := Tryz.vOfF
  have f6 := Tryz.vOfP
  have f7 := Tryz.typeP
  have kP := Tryz.kindP
  have kF := Tryz.kindF
  have eP := Tryz.elemP
  have iF := Tryz.implementsF
  have n8 := Tryz.isNilP ⟨w.heap.size, 0, none⟩ t ((w.alloc (.cells #[.pointer (some t)] 105)).alloc (.cells #[.pointer (some ⟨1, 105, none⟩), .pointer (some ⟨w.heap.size, 0, none⟩), .int .u64 150] 141)) (by simp)
  have hlt : 0 < w.heap.size := by
    rcases Nat.eq_zero_or_pos w.heap.size with h0 | h
    · simp [World.cell?, h0] at hg
    · exact h
  have hg2 : ((w.alloc (.cells #[.pointer (some t)] 105)).alloc (.cells #[.pointer (some ⟨1, 105, none⟩), .pointer (some ⟨w.heap.size, 0, none⟩), .int .u64 150] 141)).cell? ⟨0, 0, none⟩ = some (.iface 161 (.agg #[.pointer (some ⟨1, 66, none⟩)])) := by
    rw [World.cell?_alloc_lt _ _ ⟨0, 0, none⟩ (by simp), World.cell?_alloc_lt _ _ ⟨0, 0, none⟩ hlt]; exact hg
  have htl : t.block < w.heap.size := by
    rcases Nat.lt_or_ge t.block w.heap.size with h | h
    · exact h
    · simp [World.cell?, Array.getElem?_eq_none h] at ht0
  have el := Tryz.elemVP ⟨w.heap.size, 0, none⟩ t (((w.alloc (.cells #[.pointer (some t)] 105)).alloc (.cells #[.pointer (some ⟨1, 105, none⟩), .pointer (some ⟨w.heap.size, 0, none⟩), .int .u64 150] 141)).alloc (.cells #[.pointer (some ⟨1, 105, none⟩), .pointer (some ⟨w.heap.size, 0, none⟩), .int .u64 150] 141)) (by rw [World.cell?_alloc_lt _ _ ⟨w.heap.size, 0, none⟩ (by simp; omega)]; simp)
  have st := Tryz.setF t ⟨w.heap.size + 1 + 1 + 1, 0, none⟩ why old ((((w.alloc (.cells #[.pointer (some t)] 105)).alloc (.cells #[.pointer (some ⟨1, 105, none⟩), .pointer (some ⟨w.heap.size, 0, none⟩), .int .u64 150] 141)).alloc (.cells #[.pointer (some ⟨1, 105, none⟩), .pointer (some ⟨w.heap.size, 0, none⟩), .int .u64 150] 141)).alloc (.cells #[.string why] 103))
    (by rw [World.cell?_alloc_at _ _ _ _ (by simp)]; rfl)
    (by rw [World.cell?_alloc_lt _ _ t (by simp; omega), World.cell?_alloc_lt _ _ t (by simp; omega), World.cell?_alloc_lt _ _ t (by simp; omega), World.cell?_alloc_lt _ _ t htl]; exact ht0)
    (by rw [World.frozen?_alloc_old _ _ t (by simp; omega), World.frozen?_alloc_old _ _ t (by simp; omega), World.frozen?_alloc_old _ _ t (by simp; omega), World.frozen?_alloc_old _ _ t (Nat.ne_of_lt htl)]; exact hf0)
  go_enter Tryz.func78, Tryz.ntmps78
  go_wp2
  refine wp_loop_rounds 1 ?_
  rw [rounds_succ]
  go_wp2
  go_ret
  exact ⟨rfl, rfl⟩
end Go.Proofs.YtilgbnnjecpneaaGreatDoor

/- told, given, isNothing: what is told of a tree, or of a fault. -/
namespace Go.Proofs.YtilgbnnjecpneaaGreatDoor
open Go.RowKit Go.Deep

/-- Nothing. -/
def zeroT (d : Nat) : Tr (d + 1) := (Nd.mk 0 0 ByteArray.empty [] [] : Nd (Tr d))
/-- What is told of a tree. -/
def toldT (d : Nat) (t : Tr (d + 1)) : Tr (d + 1) := if okT (d + 1) t = true then t else zeroT d

/-- The variable of package errors holds the type error. -/
def ErrType (w : World) : Prop := w.cell? ⟨0, 0, none⟩ = some (.iface 161 (.agg #[.pointer (some ⟨1, 66, none⟩)]))
theorem ErrType.lt {w : World} (h : ErrType w) : 0 < w.heap.size := World.block_lt_of_cell? w _ h
theorem ErrType.below {w w' : World} (h : ErrType w) (hb : Below w.heap.size w w') : ErrType w' := (hb.cell (p := ⟨0, 0, none⟩) h.lt).trans h
theorem ErrType.turn {S : Nat → Prop} {w w' : World} (h : ErrType w) (hb : Turn S w w') (h0 : ¬ S 0) : ErrType w' := (World.cell?_of_block (w := w) (hb.block 0 h.lt h0)).trans h

/-- What is asked of a function that tells a tree and whether it can. -/
def TellQ (d : Nat) (t : Tr (d + 1)) (ok : Bool) (w : World) (e : Ending) (w' : World) : Prop :=
  ∃ v, e = .returned (.tuple #[v, .bool ok]) ∧ ValOwn w' (d + 1) (Fresh w w') t v ∧ Below w.heap.size w w'

theorem zeroVal_own (d : Nat) (w : World) (S : Nat → Prop) : ValOwn w (d + 1) S (zeroT d) zeroVal := valOwn_leaf d 0 0 ByteArray.empty w S ⟨by omega, by omega⟩ ⟨by omega, by omega⟩ (by decide)

set_option maxRecDepth 100000 in
set_option maxHeartbeats 2000000 in
theorem told_fault (d : Nat) (u : Value) (why : ByteArray) (w : World) (hg : ErrType w) :
    Calls Tryz.prog 55 #[u, .iface 103 (.agg #[.string why])] w (TellQ d (zeroT d) false w) := by
  have hlt := hg.lt
  have hg2 : ((w.alloc (.cells #[.int .i64 0, .int .i64 0, .string { data := #[] }, .slice none 0 0, .slice none 0 0] 29)).alloc (.cells #[.string { data := #[] }] 103)).cell? ⟨0, 0, none⟩ = some (.iface 161 (.agg #[.pointer (some ⟨1, 66, none⟩)])) :=
    hg.below (below_trans (below_alloc1 _ _) (below_alloc1 _ _))
  have hcall := hide (as_hit why ⟨w.heap.size + 1, 0, none⟩ (.string { data := #[] }) ((w.alloc (.cells #[.int .i64 0, .int .i64 0, .string { data := #[] }, .slice none 0 0, .slice none 0 0] 29)).alloc (.cells #[.string { data := #[] }] 103)) hg2 (by simp) (by simp))
  clear hg2 hg
  go_enter Tryz.func55, Tryz.ntmps55
  go_wp2_with fail
  refine hcall.out.mono ?_
  rintro e w1 ⟨rfl, hw1⟩
  have hB : Below w.heap.size w w1 := by
    rw [hw1]
    refine Below.setCell ?_ (by show w.heap.size ≤ w.heap.size + 1; omega) _
    exact below_trans (below_trans (below_trans (below_trans (below_trans (below_alloc1 _ _) (below_alloc1 _ _)) (below_alloc1 _ _)) (below_alloc1 _ _)) (below_alloc1 _ _)) (below_alloc1 _ _)
  have k0 : Blk5 w1 w.heap.size 29 (.int .i64 0) (.int .i64 0) (.string { data := #[] }) (.slice none 0 0) (.slice none 0 0) := by
    rw [hw1]
    refine Blk5.other ?_ _ (by show w.heap.size ≠ w.heap.size + 1; omega)
    exact (((((Blk5.new w 29 _ _ _ _ _).alloc _).alloc _).alloc _).alloc _).alloc _
  have HB := hide hB
  clear hw1 hB hcall
  obtain ⟨y0, y1, y2, y3, y4⟩ := k0.cell
  have yf := k0.frozen
  have hend : Hid (∀ wF, wF = set5 w1 w.heap.size 0 (.int .i64 0) (.int .i64 0) (.string { data := #[] }) (.slice none 0 0) (.slice none 0 0) → Below w.heap.size w wF) := by
    intro wF hF
    rw [hF]
    exact below_set5 HB.out (Nat.le_refl _) _ _ _ _ _ _
  clear k0
  go_wp2_with fail
  refine bodyPost_ret (v := .tuple #[zeroVal, .bool false]) (by simp [results, Tryz.results55, go_sem, zeroVal, y0, y1, y2, y3, y4]; rfl) rfl ⟨_, rfl, zeroVal_own d _ _, hend.out _ rfl⟩

set_option maxRecDepth 100000 in
set_option maxHeartbeats 4000000 in
theorem told_tree (d : Nat) (S : Nat → Prop) (t : Tr (d + 1)) (u : Value) (w : World) (hu : TreeG S w (d + 1) t u) (hS : Within S w) :
    Calls Tryz.prog 55 #[u, .nilIface] w (TellQ d (toldT d t) (okT (d + 1) t) w) := by
  obtain ⟨W0, hW⟩ : ∃ W0, W0 = (w.alloc (.cells #[.int .i64 0, .int .i64 0, .string { data := #[] }, .slice none 0 0, .slice none 0 0] 29)).alloc (.cells #[.string { data := #[] }] 103) := ⟨_, rfl⟩
  have hW0 : Below w.heap.size w W0 := by rw [hW]; exact below_trans (below_alloc1 _ _) (below_alloc1 _ _)
  have k0 : Blk5 W0 w.heap.size 29 (.int .i64 0) (.int .i64 0) (.string { data := #[] }) (.slice none 0 0) (.slice none 0 0) := by
    rw [hW]; exact (Blk5.new w 29 _ _ _ _ _).alloc _
  obtain ⟨v, hm⟩ := val_any (d + 1) S t u W0 (hu.same (hS.same hW0)) (hS.later hW0.size)
  have HW := hide hW
  clear hW hu
  rcases hm with ⟨rfl, hcall⟩ | ⟨rfl, hcall⟩ | ⟨rfl, hcall⟩ | ⟨rfl, hcall⟩ | ⟨rfl, hcall⟩
  all_goals
    have HC := hide hcall
    clear hcall
    go_enter Tryz.func55, Tryz.ntmps55
    go_wp2_with fail
    rw [← HW.out]
    refine (as_nil _ W0).mono ?_
    rintro e w1 ⟨rfl, rfl⟩
    go_wp2_with fail
    refine Calls.mono (R := ValQ (d + 1) t w1) HC.out ?_
    rintro e w2 ⟨x, rfl, hx, hb2⟩
    obtain ⟨v0, v1, v2, v3, v4, v5, v6, v7, v8, rfl⟩ := (ValOwn.at _ _ _ _ hx).shape
    have hB2 := below_trans hW0 hb2
    have k2 := k0.below hb2
    have hA := below_alloc1 w2 (.cells #[.int .i64 v0, .int .i64 v1, .string v2, .slice v3 v4 v5, .slice v6 v7 v8] 29)
    have m2 := Blk5.new w2 29 (.int .i64 v0) (.int .i64 v1) (.string v2) (.slice v3 v4 v5) (.slice v6 v7 v8)
    have hok := hide (implValOk_any (d + 1) (Fresh w1 w2) t _ _ ((ValOwn.at _ _ _ _ hx).same ((Fresh.within w1 w2).same hA)) ((Fresh.within w1 w2).later hA.size))
    have HX := hide hx
    have hlt2 : w.heap.size < w2.heap.size := k2.lt
    clear hx HC
    go_wp2_with fail
    refine hok.out.mono ?_
    rintro e w3 ⟨rfl, hb3⟩
    rw [treeP_okT]
    have hB3 := below_trans hA hb3
    have k3 := k2.below hB3
    have m3 := m2.below hb3
    have hB := below_trans hB2 hB3
    have hz3 := hB3.size
    obtain ⟨y0, y1, y2, y3, y4⟩ := k3.cell
    have yf := k3.frozen
    obtain ⟨x0, x1, x2, x3, x4⟩ := m3.cell
    have HB := hide hB
    have HB3 := hide hB3
    have hz1 : w.heap.size ≤ w1.heap.size := hW0.size
    clear hb3 hB hB3 hA k2 m2 hok
    cases hf : okT (d + 1) t with
    | false =>
      have hT : Hid (toldT d t = zeroT d) := by
        show toldT d t = _
        rw [toldT, hf]
        rfl
      have hend : Hid (∀ wF, wF = set5 w3 w.heap.size 0 (.int .i64 0) (.int .i64 0) (.string { data := #[] }) (.slice none 0 0) (.slice none 0 0) → Below w.heap.size w wF) := by
        intro wF hF
        rw [hF]
        exact below_set5 HB.out (Nat.le_refl _) _ _ _ _ _ _
      clear k3 m3 HX
      go_wp2_with fail
      refine bodyPost_ret (v := .tuple #[zeroVal, .bool false]) (by simp [results, Tryz.results55, go_sem, zeroVal, y0, y1, y2, y3, y4]; rfl) rfl ⟨_, by rw [hf], by rw [hT.out]; exact zeroVal_own d _ _, hend.out _ rfl⟩
    | true =>
      have hT : Hid (toldT d t = t) := by
        show toldT d t = _
        rw [toldT, hf]
        rfl
      have hend : Hid (∀ wF, wF = set5 w3 w.heap.size 0 (.int .i64 v0) (.int .i64 v1) (.string v2) (.slice v3 v4 v5) (.slice v6 v7 v8) → ValOwn wF (d + 1) (Fresh w wF) t (.agg #[.int .i64 v0, .int .i64 v1, .string v2, .slice v3 v4 v5, .slice v6 v7 v8]) ∧ Below w.heap.size w wF) := by
        intro wF hF
        have hzF : wF.heap.size = w3.heap.size := by rw [hF, set5_size]
        have hlt0 := k0.lt
        refine ⟨ValOwn.moved (d + 1) (Fresh w1 w2) _ t _ HX.out (fun b hb => ?_) (fun b hb => ⟨by have := hb.1; omega, by have := hb.2; omega⟩), ?_⟩
        · rw [hF, set5_block _ _ _ _ _ _ _ _ _ (by have := hb.1; omega), HB3.out.block b hb.2]
        · rw [hF]
          exact below_set5 HB.out (Nat.le_refl _) _ _ _ _ _ _
      clear k3 m3 HX
      go_wp2_with fail
      refine bodyPost_ret (v := .tuple #[.agg #[.int .i64 v0, .int .i64 v1, .string v2, .slice v3 v4 v5, .slice v6 v7 v8], .bool true]) (by simp [results, Tryz.results55, go_sem, y0, y1, y2, y3, y4]) rfl ⟨_, by rw [hf], by rw [hT.out]; exact (hend.out _ rfl).1, (hend.out _ rfl).2⟩
end Go.Proofs.YtilgbnnjecpneaaGreatDoor
