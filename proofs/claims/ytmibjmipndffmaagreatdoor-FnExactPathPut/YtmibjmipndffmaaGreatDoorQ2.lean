/- Texts of the proof, put together by program: WImplA, WImplB, WImplC, WImplD. -/
import Derived.Test.YtmibjmipndffmaaGreatDoorQ1
import Derived.Deep.LoopGhost
import Derived.Maps.AppendAt
/- textOk, keysOk, bare, numOk: the program's own looks at texts, keys and bare parts. -/
namespace Go.Proofs.YtmibjmipndffmaaGreatDoor
open Go.RowKit Go.Deep

theorem decode_high (s : ByteArray) (pos : Nat) (h : pos < s.size) (ha : ¬ (s[pos]'h).toNat < 128) : 128 ≤ (Utf8.decode s pos).1 := by
  have e : s.get! (pos + 0) = s[pos]'h := by
    show s.get! pos = _
    simp [ByteArray.get!, getElem!_pos, h]
    rfl
  simp only [Utf8.decode, e, ha, if_false]
  repeat' split
  all_goals first
    | omega
    | (simp only [Utf8.runeError]; omega)
    | (rename_i h1; simp only [Bool.and_eq_true, decide_eq_true_eq, ge_iff_le] at h1; omega)

theorem run_next_any {P : Program} (w : World) (s : ByteArray) (pos : Nat) (ty : TypeId) (h : pos < s.size) :
    (Instr.next (.pointer (some ⟨w.heap.size, 0, none⟩)) true ty).run P (w.iter s pos) =
      .ok (.tuple #[.bool true, .int .i64 pos, .int .i32 (Utf8.decode s pos).1]) (w.iter s (pos + (Utf8.decode s pos).2)) := by
  simp only [Instr.next, getObj, setObj, Sem.run_bind, Sem.run, World.iter_heap, Result.andThen, h, if_true, World.iter_set]
  simp [goInt]

theorem below_iter (w : World) (s : ByteArray) (pos : Nat) : Below w.heap.size w (w.iter s pos) := below_alloc1 _ _

set_option maxHeartbeats 1000000 in
theorem textOk_any (s : ByteArray) (w : World) (hs : s.size < 281474976710656) :
    Calls Tryz.prog 106 #[.string s] w fun e w' => e = .returned (.bool (strOk s)) ∧ Below w.heap.size w w' := by
  by_cases hl : 12 < s.size
  · have hf : Hid (strOk s = false) := by
      show strOk s = false
      rw [strOk, decide_eq_false (by omega), Bool.and_false]
    go_enter Tryz.func106, Tryz.ntmps106
    go_wp2_with fail
    go_ret
    rw [hf.out]
    exact ⟨rfl, Below.refl _ _⟩
  · have hl2 : s.size ≤ 12 := by omega
    go_enter Tryz.func106, Tryz.ntmps106
    go_wp2_with fail
    go_loopg [2] s.size (fun gk v wr => ∃ k : Nat, k + gk = s.size ∧ v = .bool false ∧ Hid (wr = w.iter s k) ∧ Hid ((s.data.toList.take k).all letterB = true))
    case atStart => exact ⟨0, by omega, rfl, rfl, rfl⟩
    case round =>
      obtain ⟨k, hk, rfl, hwr, ha⟩ := hrel
      have hwr2 := hwr.out
      subst hwr2
      have HK : Hid _ := hk
      clear hk hwr
      by_cases hlt : k < s.size
      · by_cases h8 : s[k].toNat < 128
        · have hnx := fun ty => run_next_ascii (P := Tryz.prog) w s k ty hlt h8
          by_cases h1 : (s[k].toNat : Int) < 97
          · have hf : Hid _ := all_fail hlt (letter_lo h1)
            go_wp2_with fail
            go_ret
            rw [hf.out]
            exact ⟨rfl, below_iter _ _ _⟩
          · by_cases h2 : (122 : Int) < s[k].toNat
            · have hf : Hid _ := all_fail hlt (letter_hi h2)
              go_wp2_with fail
              go_ret
              rw [hf.out]
              exact ⟨rfl, below_iter _ _ _⟩
            · have hf : Hid _ := all_step hlt ha.out (letter_in h1 h2)
              go_wp2_with fail
              go_roundg (gk - 1)
              case rel => exact ⟨k + 1, by have := HK.out; omega, rfl, rfl, hf⟩
              case measure => have := HK.out; omega
        · have hnx := fun ty => run_next_any (P := Tryz.prog) w s k ty hlt
          have hh := decode_high s k hlt h8
          have h2 : (122 : Int) < ((Utf8.decode s k).1 : Int) := by omega
          have h1 : ¬ ((Utf8.decode s k).1 : Int) < 97 := by omega
          have hf : Hid _ := all_fail hlt (letter_hi (by omega))
          clear h8 hh
          go_wp2_with fail
          go_ret
          rw [hf.out]
          exact ⟨rfl, below_iter _ _ _⟩
      · have hnx := fun ty => run_next_end (P := Tryz.prog) w s k ty hlt
        have hf : Hid _ := all_done hlt ha.out
        go_wp2_with fail
        go_ret
        rw [hf.out]
        exact ⟨by simp [hl2], below_iter _ _ _⟩

set_option maxHeartbeats 1000000 in
theorem keysOk_any (S : Nat → Prop) (ss : List ByteArray) (v : Value) (w : World) (hv : StrsAt S w v ss) (hS : Within S w) :
    Calls Tryz.prog 133 #[v] w fun e w' => e = .returned (.bool (keysB ss)) ∧ Below w.heap.size w w' := by
  obtain ⟨a, cap, rfl, hlen⟩ := hv.open'
  go_enter Tryz.func133, Tryz.ntmps133
  go_wp2_with fail
  go_loopw [7] (fun i wr => ∃ k : Nat, k ≤ ss.length ∧ i = .int .i64 k ∧ Below w.heap.size w wr ∧ Hid (keysB ss = keysGo (prevOf ss k) (ss.drop k))) (fun i _ => ss.length - (intOf i).toNat)
  case atStart => exact ⟨0, Nat.zero_le _, rfl, Below.refl _ _, rfl⟩
  case round =>
    obtain ⟨k, hk, rfl, hbel, hfin⟩ := hrel
    have hvr := hv.same (hS.same hbel)
    by_cases hkl : k < ss.length
    · obtain ⟨b, o, s, rfl, hSb, hs, hsz, hck⟩ := hvr.cell hkl
      go_wp2_with fail
      refine (textOk_any s _ hsz).mono ?_
      rintro e w1 ⟨rfl, hb1⟩
      have hb2 := below_trans hbel hb1
      cases h1 : strOk s with
      | false =>
        have hf : Hid (keysB ss = false) := hfin.out.trans (keysGo_bad hs h1)
        clear hfin hs hvr hv hbel hb1 hck
        go_wp2_with fail
        go_ret
        rw [hf.out]
        exact ⟨rfl, hb2⟩
      | true =>
        by_cases h0 : k = 0
        · subst h0
          have hf : Hid (keysB ss = keysGo (prevOf ss 1) (ss.drop 1)) := by
            show keysB ss = _
            rw [hfin.out, keysGo_zero hs, h1]
            rfl
          clear hfin hs hvr hv hbel hb1 hck
          go_wp2_with fail
          go_roundw
          case rel => exact ⟨1, by omega, by go_num, hb2, hf⟩
          case measure => simp [intOf]; omega
        · obtain ⟨b2, o2, s2, hbo, _, hs2, _, hck2⟩ := (hv.same (hS.same hb2)).cell (k := k - 1) (by omega)
          cases hbo
          have hst : Hid (_ = _) := keysGo_pos (by omega) hs2 hs
          have hk0 : 0 < k := by omega
          have hk1 : (1 : Int) ≤ (k : Int) := by omega
          have hk2 : (k : Int) - 1 < (ss.length : Int) := by omega
          have hto : ((k : Int) - 1).toNat = k - 1 := by omega
          cases h2 : ltB s2 s with
          | true =>
            have hf : Hid (keysB ss = keysGo (prevOf ss (k + 1)) (ss.drop (k + 1))) := by
              show keysB ss = _
              rw [hfin.out, hst.out, h1, h2]
              rfl
            unfold ltB at h2
            clear hfin hs hvr hst hs2 hv hbel hb1 hck
            go_wp2_with fail
            go_roundw
            case rel => exact ⟨k + 1, by omega, by go_num, hb2, hf⟩
            case measure => simp [intOf]; omega
          | false =>
            have hf : Hid (keysB ss = false) := by
              show keysB ss = _
              rw [hfin.out, hst.out, h1, h2]
              rfl
            unfold ltB at h2
            clear hfin hs hvr hst hs2 hv hbel hb1 hck
            go_wp2_with fail
            go_ret
            rw [hf.out]
            exact ⟨rfl, hb2⟩
    · go_wp2_with fail
      go_ret
      rw [hfin.out, List.drop_eq_nil_of_le (by omega)]
      refine ⟨?_, hbel⟩
      cases prevOf ss k <;> rfl

set_option maxHeartbeats 400000 in
theorem numOk_any (n : Int) (w : World) :
    Calls Tryz.prog 131 #[.int .i64 n] w fun e w' => e = .returned (.bool (decide (-1000000 ≤ n ∧ n ≤ 1000000))) ∧ w' = w := by
  by_cases h1 : -1000000 ≤ n
  · by_cases h2 : n ≤ 1000000
    · go_enter Tryz.func131, Tryz.ntmps131
      go_wp2_with fail
      go_ret
      exact ⟨by simp; omega, rfl⟩
    · go_enter Tryz.func131, Tryz.ntmps131
      go_wp2_with fail
      go_ret
      exact ⟨by simp; omega, rfl⟩
  · go_enter Tryz.func131, Tryz.ntmps131
    go_wp2_with fail
    go_ret
    exact ⟨by simp; omega, rfl⟩

/-- A part has nothing but its kind. -/
def bareB (num : Int) (str : ByteArray) (nk nl : Nat) : Bool := num == 0 && str.toList == [] && nk == 0 && nl == 0

set_option maxHeartbeats 1000000 in
theorem bare_any (kind num : Int) (str : ByteArray) (nk nl : Nat) (ak al : Option Addr) (ck cl : Nat) (w : World) (hkl : nk < 17592186044416) (hll : nl < 3518437208883) :
    Calls Tryz.prog 130 #[.agg #[.int .i64 kind, .int .i64 num, .string str, .slice ak nk ck, .slice al nl cl]] w
      fun e w' => e = .returned (.bool (bareB num str nk nl)) ∧ Below w.heap.size w w' := by
  cases h1 : (num == 0) with
  | false =>
    have hf : Hid (bareB num str nk nl = false) := by show bareB num str nk nl = false; rw [bareB, h1]; rfl
    go_enter Tryz.func130, Tryz.ntmps130
    go_wp2_with fail
    go_ret
    rw [hf.out]
    exact ⟨rfl, below_alloc1 _ _⟩
  | true =>
  cases h2 : (str.toList == []) with
  | false =>
    have hf : Hid (bareB num str nk nl = false) := by show bareB num str nk nl = false; rw [bareB, h1, h2]; rfl
    have h2' : ¬ str.toList = [] := by simpa using h2
    go_enter Tryz.func130, Tryz.ntmps130
    go_wp2_with fail
    go_ret
    rw [hf.out]
    exact ⟨rfl, below_alloc1 _ _⟩
  | true =>
  have h2' : str.toList = [] := by simpa using h2
  cases h3 : (nk == 0) with
  | false =>
    have hf : Hid (bareB num str nk nl = false) := by show bareB num str nk nl = false; rw [bareB, h1, h2, h3]; rfl
    have h3' : ((nk : Int) == 0) = false := by rw [beq_eq_false_iff_ne] at h3 ⊢; omega
    clear h3 h2
    go_enter Tryz.func130, Tryz.ntmps130
    go_wp2_with fail
    go_ret
    rw [hf.out]
    exact ⟨rfl, below_alloc1 _ _⟩
  | true =>
  obtain rfl : nk = 0 := by simpa using h3
  cases h4 : (nl == 0) with
  | false =>
    have hf : Hid (bareB num str 0 nl = false) := by show bareB num str 0 nl = false; rw [bareB, h1, h2, h4]; rfl
    have h4' : ((nl : Int) == 0) = false := by rw [beq_eq_false_iff_ne] at h4 ⊢; omega
    clear h4 h2 h3
    go_enter Tryz.func130, Tryz.ntmps130
    go_wp2_with fail
    go_ret
    rw [hf.out]
    exact ⟨rfl, below_alloc1 _ _⟩
  | true =>
    have hf : Hid (bareB num str 0 nl = true) := by show bareB num str 0 nl = true; rw [bareB, h1, h2, h4]; rfl
    obtain rfl : nl = 0 := by simpa using h4
    clear h4 h2 h3
    go_enter Tryz.func130, Tryz.ntmps130
    go_wp2_with fail
    go_ret
    rw [hf.out]
    exact ⟨rfl, below_alloc1 _ _⟩
end Go.Proofs.YtmibjmipndffmaaGreatDoor

/- The program's own trees: how they lie in memory; take; mapTreeOf. -/
namespace Go.Proofs.YtmibjmipndffmaaGreatDoor
open Go.RowKit Go.Deep

/-- A world that has all that W has, and maybe more. -/
structure Ext (W : World) where
  now : World
  from_ : Below W.heap.size W now

theorem Ext.some (W : World) : Nonempty (Ext W) := ⟨⟨W, Below.refl _ _⟩⟩

/-- A region that draws its order and whose calls give one value in every such world. -/
theorem wp_region_ext {P : Program} {id : Nat} {Q : Exit → Act → World → Prop} {a : Act} {W : World} {l : List Oper} (hm : P.follows .mixedOrders = true) (hB : Region.lexB .any l.toArray = true)
    (h : wpQuiet P l.toArray (fun w' => ∃ n : Ext W, w' = n.now) (fun a' => ∀ w', (∃ n : Ext W, w' = n.now) → Q .normal a' w') l a) : (Code.region id l.toArray true).wp P Q a W :=
  wp_region_quiet (C := fun w' => ∃ n : Ext W, w' = n.now) hm hB ⟨⟨{ W with drawn := W.drawn + 1 }, ⟨rfl, rfl, rfl, Nat.le_refl _, fun _ _ => rfl⟩⟩, rfl⟩ (by simpa using h)
theorem Calls.ext_of {P : Program} {f : FuncId} {args : Array Value} {W : World} {n : Ext W} {v : Value}
    (h : Calls P f args n.now fun e w' => e = .returned v ∧ Below n.now.heap.size n.now w') : Calls P f args n.now fun e w'' => e = .returned v ∧ ∃ m : Ext W, w'' = m.now :=
  h.mono fun _ _ ⟨he, hm⟩ => ⟨he, ⟨_, below_trans n.from_ hm⟩, rfl⟩
theorem Calls.ext_same {P : Program} {f : FuncId} {args : Array Value} {W : World} {n : Ext W} {v : Value}
    (h : Calls P f args n.now fun e w' => e = .returned v ∧ w' = n.now) : Calls P f args n.now fun e w'' => e = .returned v ∧ ∃ m : Ext W, w'' = m.now :=
  h.mono fun _ _ ⟨he, hm⟩ => ⟨he, n, hm⟩

/-- Of what was there only block rb may have turned. -/
abbrev But (rb : Nat) (w w' : World) : Prop := w.grownBy w' (some rb)
theorem But.refl (rb : Nat) (w : World) : But rb w w := ⟨rfl, rfl, rfl, Nat.le_refl _, fun _ _ _ => rfl⟩
theorem But.trans {rb : Nat} {a b c : World} (h : But rb a b) (k : But rb b c) : But rb a c :=
  ⟨k.os.trans h.os, k.tape.trans h.tape, k.output.trans h.output, Nat.le_trans h.size k.size, fun i hi hn => (k.block i (Nat.lt_of_lt_of_le hi h.size) hn).trans (h.block i hi hn)⟩
theorem But.of_below {rb : Nat} {w w' : World} (h : Below w.heap.size w w') : But rb w w' := ⟨h.os, h.tape, h.output, h.size, fun i hi _ => h.block i hi⟩
theorem But.same {rb : Nat} {S : Nat → Prop} {w w' : World} (h : But rb w w') (hS : Within S w) (hn : ¬ S rb) : Same S w w' :=
  fun b hb => h.block b (hS b hb) (fun e => by cases e; exact hn hb)
theorem But.set (rb : Nat) (w : World) (o : Nat) (u : Value) : But rb w (w.setCell ⟨rb, o, none⟩ u) :=
  ⟨rfl, rfl, rfl, by simp [World.setCell], fun i _ hn => Below.heap_setCell _ _ _ _ (fun e => hn (by rw [e]))⟩
theorem But.cell {rb : Nat} {w w' : World} (h : But rb w w') {b o : Nat} (hb : b < w.heap.size) (hn : b ≠ rb) : w'.cell? ⟨b, o, none⟩ = w.cell? ⟨b, o, none⟩ :=
  World.cell?_of_block (w := w) (h.block b hb (fun e => by cases e; exact hn rfl))

/-- How much room is left: one cell of its own. -/
def Room (w : World) (rb : Nat) (left : Int) : Prop := w.heap[rb]? = some (.cells #[.int .i64 left] 135 (0, 0))
theorem Room.cell {w : World} {rb : Nat} {left : Int} (h : Room w rb left) : w.cell? ⟨rb, 0, none⟩ = some (.int .i64 left) := by
  unfold Room at h
  simp [World.cell?, h]
theorem Room.frozen {w : World} {rb : Nat} {left : Int} (h : Room w rb left) (o : Nat) : w.frozen? ⟨rb, o, none⟩ = false := by
  unfold Room at h
  simp [World.frozen?, h]
theorem Room.lt {w : World} {rb : Nat} {left : Int} (h : Room w rb left) : rb < w.heap.size := (Array.getElem?_eq_some_iff.1 h).1
theorem Room.set {w : World} {rb : Nat} {left : Int} (h : Room w rb left) (l : Int) : Room (w.setCell ⟨rb, 0, none⟩ (.int .i64 l)) rb l := by
  unfold Room at h ⊢
  simp [World.setCell, Array.getElem?_modify, h]
theorem Room.below {w w' : World} {rb : Nat} {left : Int} (h : Room w rb left) (hb : Below w.heap.size w w') : Room w' rb left := (hb.block rb h.lt).trans h

/-- Is there room for a part that has so many around it? -/
def takeB (left deep : Int) : Bool := decide (left ≠ 0 ∧ deep ≤ 6)
def leftTo (left deep : Int) : Int := if takeB left deep = true then left - 1 else left

set_option maxHeartbeats 400000 in
theorem take_any (rb : Nat) (left deep : Int) (w : World) (hr : Room w rb left) (h0 : 0 ≤ left) (h1 : left ≤ 1000) :
    Calls Tryz.prog 129 #[.pointer (some ⟨rb, 0, none⟩), .int .i64 deep] w fun e w' =>
      e = .returned (.bool (takeB left deep)) ∧ Room w' rb (leftTo left deep) ∧ But rb w w' ∧ w'.heap.size = w.heap.size := by
  have hc := hr.cell
  have hf := hr.frozen 0
  have HR : Hid (Room w rb left) := hr
  clear hr
  by_cases hz : left = 0
  · subst hz
    have h2 : Hid (takeB 0 deep = false ∧ leftTo 0 deep = 0) := ⟨by simp [takeB], by simp [leftTo, takeB]⟩
    go_enter Tryz.func129, Tryz.ntmps129
    go_wp2_with fail
    go_ret
    rw [h2.out.1, h2.out.2]
    exact ⟨rfl, HR.out, But.refl _ _, rfl⟩
  · have hz' : (left == 0) = false := by simpa using hz
    by_cases hd : deep ≤ 6
    · have HH : Hid (Room (w.setCell ⟨rb, 0, none⟩ (.int .i64 (left - 1))) rb (left - 1) ∧ But rb w (w.setCell ⟨rb, 0, none⟩ (.int .i64 (left - 1)))) :=
        ⟨Room.set HR.out (left - 1), But.set rb w 0 (.int .i64 (left - 1))⟩
      have h2 : Hid (takeB left deep = true ∧ leftTo left deep = left - 1) := ⟨by simp [takeB, hz, hd], by simp [leftTo, takeB, hz, hd]⟩
      go_enter Tryz.func129, Tryz.ntmps129
      go_wp2_with fail
      go_ret
      rw [h2.out.1, h2.out.2]
      exact ⟨rfl, HH.out.1, HH.out.2, by simp [World.setCell]⟩
    · have h2 : Hid (takeB left deep = false ∧ leftTo left deep = left) := ⟨by simp [takeB, hd], by simp [leftTo, takeB, hd]⟩
      go_enter Tryz.func129, Tryz.ntmps129
      go_wp2_with fail
      go_ret
      rw [h2.out.1, h2.out.2]
      exact ⟨rfl, HR.out, But.refl _ _, rfl⟩

/-- A slice of things of one cell each that lies in blocks of S. -/
def Row1At {α : Type} (S : Nat → Prop) (w : World) (At : α → Value → Prop) (v : Value) (xs : List α) : Prop :=
  xs.length < 17592186044416 ∧
  ∃ a cap, v = .slice a xs.length cap ∧
    (xs = [] ∨ ∃ b o, S b ∧ a = some ⟨b, o, none⟩ ∧ ∀ i x, xs[i]? = some x → ∃ u, w.cell? ⟨b, o + i, none⟩ = some u ∧ At x u)
/-- The entries of a map that was filled in order. -/
def MapIs {α : Type} (At : α → Value → Prop) (es : Array MapEntry) (keys : List ByteArray) (xs : List α) : Prop :=
  es.size = keys.length ∧ keys.length = xs.length ∧ ∀ (i : Nat) (k : ByteArray) (x : α), keys[i]? = some k → xs[i]? = some x → ∃ u, es[i]? = some ⟨.string k, u, i⟩ ∧ At x u
/-- One of the program's own trees that lies in blocks of S. -/
def TreeAt (S : Nat → Prop) (w : World) : (d : Nat) → Tr d → Value → Prop
  | 0, _, _ => False
  | d + 1, t, v =>
    ((Nd.kind t = 0 ∨ Nd.kind t = 1 ∨ Nd.kind t = 2) ∧ v = .iface 91 (.agg #[.int .i64 (Nd.kind t)])) ∨
    (Nd.kind t = 3 ∧ v = .iface 157 (.agg #[.int .i64 (Nd.num t)])) ∨
    (Nd.kind t = 4 ∧ v = .iface 155 (.agg #[.string (Nd.str t)])) ∨
    (Nd.kind t = 5 ∧ ∃ sv, v = .iface 148 (.agg #[sv]) ∧ Row1At S w (TreeAt S w d) sv (Nd.list t)) ∨
    (Nd.kind t = 6 ∧ ∃ r es, v = .iface 145 (.agg #[.map (some r)]) ∧ S r ∧ w.heap[r]? = some (.map es (Nd.keys t).length) ∧ MapIs (TreeAt S w d) es (Nd.keys t) (Nd.list t))

theorem Row1At.moved {α : Type} {S S' : Nat → Prop} {w w' : World} {At At' : α → Value → Prop} {v : Value} {xs : List α} (h : Row1At S w At v xs) (hs : Same S w w') (hS : ∀ b, S b → S' b)
    (hi : ∀ x u, At x u → At' x u) : Row1At S' w' At' v xs := by
  obtain ⟨h1, a, cap, hv, h3⟩ := h
  refine ⟨h1, a, cap, hv, ?_⟩
  rcases h3 with h3 | ⟨b, o, hB, ha, hc⟩
  · exact Or.inl h3
  · refine Or.inr ⟨b, o, hS _ hB, ha, fun i x hx => ?_⟩
    obtain ⟨u, e0, e1⟩ := hc i x hx
    exact ⟨u, (hs.cell hB).trans e0, hi _ _ e1⟩
theorem MapIs.moved {α : Type} {At At' : α → Value → Prop} {es : Array MapEntry} {keys : List ByteArray} {xs : List α} (h : MapIs At es keys xs) (hi : ∀ x u, At x u → At' x u) : MapIs At' es keys xs := by
  obtain ⟨h1, h2, h3⟩ := h
  refine ⟨h1, h2, fun i k x hk hx => ?_⟩
  obtain ⟨u, e, hu⟩ := h3 i k x hk hx
  exact ⟨u, e, hi _ _ hu⟩
theorem TreeAt.moved {S S' : Nat → Prop} {w w' : World} (hs : Same S w w') (hS : ∀ b, S b → S' b) : ∀ (d : Nat) (t : Tr d) (v : Value), TreeAt S w d t v → TreeAt S' w' d t v
  | 0, _, _, h => h
  | d + 1, t, v, h => by
    rcases h with h | h | h | ⟨hk, sv, hv, hr⟩ | ⟨hk, r, es, hv, hr, hm, he⟩
    · exact Or.inl h
    · exact Or.inr (Or.inl h)
    · exact Or.inr (Or.inr (Or.inl h))
    · exact Or.inr (Or.inr (Or.inr (Or.inl ⟨hk, sv, hv, hr.moved hs hS (fun x u hx => TreeAt.moved hs hS d x u hx)⟩)))
    · exact Or.inr (Or.inr (Or.inr (Or.inr ⟨hk, r, es, hv, hS _ hr, (hs r hr).trans hm, he.moved (fun x u hx => TreeAt.moved hs hS d x u hx)⟩)))
/-- It is one cell. -/
theorem TreeAt.iface {S : Nat → Prop} {w : World} {d : Nat} {t : Tr d} {v : Value} (h : TreeAt S w d t v) : ∃ T u, v = .iface T u := by
  cases d with
  | zero => exact h.elim
  | succ d =>
    rcases h with h | h | h | ⟨hk, sv, hv, hr⟩ | ⟨hk, r, es, hv, hr⟩
    · exact ⟨_, _, h.2⟩
    · exact ⟨_, _, h.2⟩
    · exact ⟨_, _, h.2⟩
    · exact ⟨_, _, hv⟩
    · exact ⟨_, _, hv⟩
theorem Row1At.open' {α : Type} {S : Nat → Prop} {w : World} {At : α → Value → Prop} {v : Value} {xs : List α} (h : Row1At S w At v xs) : ∃ a cap, v = .slice a xs.length cap ∧ xs.length < 17592186044416 := by
  obtain ⟨h1, a, cap, hv, _⟩ := h
  exact ⟨a, cap, hv, h1⟩
theorem Row1At.cell {α : Type} {S : Nat → Prop} {w : World} {At : α → Value → Prop} {a : Option Addr} {n cap k : Nat} {xs : List α} (h : Row1At S w At (.slice a n cap) xs) (hk : k < xs.length) :
    ∃ b o x u, a = some ⟨b, o, none⟩ ∧ S b ∧ xs[k]? = some x ∧ w.cell? ⟨b, o + k, none⟩ = some u ∧ At x u := by
  obtain ⟨h1, a', cap', hv, h3⟩ := h
  cases hv
  rcases h3 with rfl | ⟨b, o, hB, ha, hc⟩
  · simp at hk
  · obtain ⟨u, e0, e1⟩ := hc k _ (List.getElem?_eq_getElem hk)
    exact ⟨b, o, xs[k], u, ha, hB, List.getElem?_eq_getElem hk, e0, e1⟩

/-- A map that is written out, one block. -/
def withObj (w : World) (r : Nat) (o : Obj) : World := { w with heap := w.heap.setIfInBounds r o }
theorem withObj_block (w : World) (r : Nat) (o : Obj) (k : Nat) (h : k ≠ r) : (withObj w r o).heap[k]? = w.heap[k]? := by
  show (w.heap.setIfInBounds r o)[k]? = _
  rw [Array.getElem?_setIfInBounds, if_neg (fun e => h e.symm)]
theorem withObj_at (w : World) (r : Nat) (o : Obj) (h : r < w.heap.size) : (withObj w r o).heap[r]? = some o := by
  show (w.heap.setIfInBounds r o)[r]? = _
  simp [h]
theorem withObj_size (w : World) (r : Nat) (o : Obj) : (withObj w r o).heap.size = w.heap.size := by
  show (w.heap.setIfInBounds r o).size = _
  simp

theorem findNow_none (s : ByteArray) : ∀ (l : List MapEntry) (i : Nat), (∀ e ∈ l, ∃ k, e.key = .string k ∧ k ≠ s) → Instr.findNow .string (.string s) l i = some none
  | [], _, _ => rfl
  | e :: r, i, h => by
    obtain ⟨k, hk, hn⟩ := h e (by simp)
    have hb : (s == k) = false := by
      cases hb : (s == k)
      · rfl
      · exact absurd ((MapKept.bytes_beq s k).1 hb).symm hn
    simp only [Instr.findNow, hk, Instr.sameNow, hb]
    exact findNow_none s r (i + 1) (fun e he => h e (by simp [he]))

theorem run_mapPush (w : World) (r clock : Nat) (es : Array MapEntry) (s : ByteArray) (u : Value) (hb : w.heap[r]? = some (.map es clock)) (hn : ∀ e ∈ es.toList, ∃ k, e.key = .string k ∧ k ≠ s) :
    (Instr.mapUpdate 87 (.map (some r)) (.string s) u).run Tryz.prog w = .ok () (withObj w r (.map (es.push ⟨.string s, u, clock⟩) (clock + 1))) := by
  have hf := findNow_none s es.toList 0 hn
  have hk : (Instr.checkKey false 10000 9 (.string s)).run Tryz.prog w = .ok () w := by
    exact MapKept.run_checkKey (P := Tryz.prog) (w := w) (k := .string s) Tryz.underlying9 trivial false 9999
  have hfk := MapKept.run_findKey (P := Tryz.prog) (w := w) Tryz.underlying9 hf
  simp [Instr.mapUpdate, run_underlying Tryz.underlying87, getObj, setObj, Sem.run, hb, hk, hfk, withObj]

theorem bytesLess_trans : ∀ a b c : List UInt8, Op.bytesLess a b = true → Op.bytesLess b c = true → Op.bytesLess a c = true
  | _, [], _, h, _ => by cases ‹List UInt8› <;> simp [Op.bytesLess] at h
  | _, _ :: _, [], _, h => by simp [Op.bytesLess] at h
  | [], _ :: _, _ :: _, _, _ => rfl
  | a :: x, b :: y, c :: z, h, k => by
    have ih := bytesLess_trans x y z
    simp only [Op.bytesLess, Bool.or_eq_true, Bool.and_eq_true, decide_eq_true_eq, beq_iff_eq] at h k ⊢
    rcases h with h | ⟨h1, h2⟩
    · rcases k with k | ⟨k1, k2⟩
      · exact Or.inl (by rw [UInt8.lt_iff_toNat_lt] at *; omega)
      · subst k1; exact Or.inl h
    · subst h1
      rcases k with k | ⟨k1, k2⟩
      · exact Or.inl k
      · exact Or.inr ⟨k1, ih h2 k2⟩
theorem keysGo_all : ∀ (ss : List ByteArray) (p : ByteArray), keysGo (some p) ss = true → ∀ s ∈ ss, ltB p s = true
  | [], _, _, _, h => by cases h
  | a :: r, p, h, s, hs => by
    simp only [keysGo, Bool.and_eq_true] at h
    cases hs with
    | head => exact h.2.1
    | tail _ hs => exact bytesLess_trans _ _ _ h.2.1 (keysGo_all r a h.2.2 s hs)
theorem keysGo_pair : ∀ (ss : List ByteArray) (p : Option ByteArray), keysGo p ss = true → ss.Pairwise (fun a b => ltB a b = true)
  | [], _, _ => List.Pairwise.nil
  | a :: r, none, h => by
    simp only [keysGo, Bool.and_eq_true] at h
    exact List.Pairwise.cons (keysGo_all r a h.2) (keysGo_pair r _ h.2)
  | a :: r, some p, h => by
    simp only [keysGo, Bool.and_eq_true] at h
    exact List.Pairwise.cons (keysGo_all r a h.2.2) (keysGo_pair r _ h.2.2)
/-- Keys in order are each once. -/
theorem keysB_ne {ss : List ByteArray} (h : keysB ss = true) {i j : Nat} (hij : i < j) {a b : ByteArray} (ha : ss[i]? = some a) (hb : ss[j]? = some b) : a ≠ b := by
  obtain ⟨hi, ea⟩ := List.getElem?_eq_some_iff.1 ha
  obtain ⟨hj, eb⟩ := List.getElem?_eq_some_iff.1 hb
  have hp := List.pairwise_iff_getElem.1 (keysGo_pair ss none h) i j hi hj hij
  rw [ea, eb] at hp
  intro e
  subst e
  unfold ltB at hp
  rw [bytesLess_irrefl] at hp
  cases hp

/-- The first k entries of a map that is being filled. -/
def MapTo {α : Type} (At : α → Value → Prop) (es : Array MapEntry) (keys : List ByteArray) (xs : List α) (k : Nat) : Prop :=
  es.size = k ∧ ∀ (i : Nat) (s : ByteArray) (x : α), i < k → keys[i]? = some s → xs[i]? = some x → ∃ u, es[i]? = some ⟨.string s, u, i⟩ ∧ At x u
theorem MapTo.step {α : Type} {At : α → Value → Prop} {es : Array MapEntry} {keys : List ByteArray} {xs : List α} {k : Nat} (h : MapTo At es keys xs k) {s : ByteArray} {x : α} {u : Value}
    (hs : keys[k]? = some s) (hx : xs[k]? = some x) (hu : At x u) : MapTo At (es.push ⟨.string s, u, k⟩) keys xs (k + 1) := by
  obtain ⟨h1, h2⟩ := h
  refine ⟨by simp [h1], fun i s' x' hi hs' hx' => ?_⟩
  by_cases e : i = k
  · subst e
    rw [hs] at hs'
    rw [hx] at hx'
    cases hs'
    cases hx'
    exact ⟨u, by simp [← h1], hu⟩
  · obtain ⟨v, hv, ha⟩ := h2 i s' x' (by omega) hs' hx'
    exact ⟨v, by rw [Array.getElem?_push, if_neg (by omega)]; exact hv, ha⟩
theorem MapTo.new {α : Type} {At : α → Value → Prop} {es : Array MapEntry} {keys : List ByteArray} {xs : List α} {k : Nat} (h : MapTo At es keys xs k) (hq : keys.length = xs.length) (hk : keysB keys = true) {s : ByteArray} (hs : keys[k]? = some s) :
    ∀ e ∈ es.toList, ∃ k', e.key = .string k' ∧ k' ≠ s := by
  obtain ⟨h1, h2⟩ := h
  intro e he
  obtain ⟨i, hi, rfl⟩ := List.getElem_of_mem he
  have hi' : i < k := by simpa [h1] using hi
  have hkl := (List.getElem?_eq_some_iff.1 hs).1
  obtain ⟨u, hu, _⟩ := h2 i keys[i] xs[i] hi' (List.getElem?_eq_getElem (by omega)) (List.getElem?_eq_getElem (by omega))
  refine ⟨keys[i], ?_, keysB_ne hk hi' (List.getElem?_eq_getElem (by omega)) hs⟩
  have : es.toList[i]? = some ⟨.string keys[i], u, i⟩ := by rw [Array.getElem?_toList]; exact hu
  rw [List.getElem?_eq_getElem hi] at this
  rw [Option.some.inj this]

set_option maxHeartbeats 1000000 in
theorem mapTreeOf_any {α : Type} (S S' : Nat → Prop) (At : α → Value → Prop) (keys : List ByteArray) (xs : List α) (vk vl : Value) (w : World) (hk : StrsAt S w vk keys) (hl : Row1At S' w At vl xs)
    (hS : Within S w) (hS' : Within S' w) (hq : keys.length = xs.length) (hkb : keysB keys = true) :
    Calls Tryz.prog 134 #[vk, vl] w fun e w' => ∃ es, e = .returned (.iface 145 (.agg #[.map (some w.heap.size)])) ∧ w'.heap[w.heap.size]? = some (.map es keys.length) ∧ MapIs At es keys xs ∧ Below w.heap.size w w' := by
  obtain ⟨ak, ck, rfl, hkl⟩ := hk.open'
  obtain ⟨al, cl, rfl, hll⟩ := hl.open'
  have HQ : Hid (keys.length = xs.length) := hq
  clear hq
  have hmk := fun w => run_makeMap (P := Tryz.prog) 87 w
  have hb0 : Hid (Below w.heap.size w (w.alloc (.map #[] 0))) := below_alloc1 _ _
  have hn0 : Hid ((w.alloc (.map #[] 0)).heap[w.heap.size]? = some (.map #[] 0)) := heap_alloc_new w _
  go_enter Tryz.func134, Tryz.ntmps134
  go_wp2_with fail
  go_loopw [11] (fun i wr => ∃ (k : Nat) (es : Array MapEntry), k ≤ keys.length ∧ i = .int .i64 k ∧ Hid (wr.heap[w.heap.size]? = some (.map es k)) ∧ Hid (MapTo At es keys xs k) ∧ Below w.heap.size w wr) (fun i _ => keys.length - (intOf i).toNat)
  case atStart => exact ⟨0, #[], Nat.zero_le _, rfl, hn0, ⟨rfl, fun i s x hi => by omega⟩, hb0.out⟩
  case round =>
    clear hmk hb0 hn0
    obtain ⟨k, es, hkk, rfl, hobj, hmap, hbel⟩ := hrel
    by_cases hlt : k < keys.length
    · obtain ⟨b, o, s, rfl, _, hs, _, hck⟩ := (hk.same (hS.same hbel)).cell hlt
      obtain ⟨b2, o2, x, u, rfl, _, hx, hcx, hu⟩ := (hl.moved (hS'.same hbel) (fun _ h => h) (fun _ _ h => h)).cell (k := k) (by have := HQ.out; omega)
      have hrun := run_mapPush wr w.heap.size k es s u hobj.out (hmap.out.new HQ.out hkb hs)
      have hxl : k < xs.length := by have := HQ.out; omega
      obtain ⟨W1, hW1⟩ : ∃ W1, W1 = withObj wr w.heap.size (.map (es.push ⟨.string s, u, k⟩) (k + 1)) := ⟨_, rfl⟩
      rw [← hW1] at hrun
      have hobj' : Hid (W1.heap[w.heap.size]? = some (.map (es.push ⟨.string s, u, k⟩) (k + 1))) := by
        show W1.heap[w.heap.size]? = _
        rw [hW1]
        exact withObj_at _ _ _ (Array.getElem?_eq_some_iff.1 hobj.out).1
      have hmap' : Hid (MapTo At (es.push ⟨.string s, u, k⟩) keys xs (k + 1)) := hmap.out.step hs hx hu
      have hbel' : Below w.heap.size w W1 := hbel.trans ⟨by rw [hW1]; rfl, by rw [hW1]; rfl, by rw [hW1]; rfl, by rw [hW1, withObj_size]; exact Nat.le_refl _, fun j hj => by rw [hW1]; exact withObj_block _ _ _ _ (by omega)⟩
      have HB : Hid _ := hbel'
      clear hbel' hW1 hobj hmap hbel hk hl hs hx hu
      go_wp2_with fail
      go_roundw
      case rel => exact ⟨k + 1, _, by omega, by go_num, hobj', hmap', HB.out⟩
      case measure => simp [intOf]; omega
    · obtain rfl : k = keys.length := by omega
      go_wp2_with fail
      go_ret
      exact ⟨es, rfl, hobj.out, ⟨hmap.out.1, HQ.out, fun i s x hs hx => hmap.out.2 i s x (List.getElem?_eq_some_iff.1 hs).1 hs hx⟩, hbel⟩
end Go.Proofs.YtmibjmipndffmaaGreatDoor

/- (*room).trees: a row of the program's own trees. -/
namespace Go.Proofs.YtmibjmipndffmaaGreatDoor
open Go.RowKit Go.Deep

/-- A row of parts, as long as there is room: whether all are right, and the room that is left. -/
def treesP {α : Type} (f : α → Int → Bool × Int) : List α → Int → Bool × Int
  | [], l => (true, l)
  | x :: r, l => if (f x l).1 = true then treesP f r (f x l).2 else (false, (f x l).2)
/-- One part, with all in it. -/
def treeP : (d : Nat) → Tr d → Int → Int → Bool × Int
  | 0, _, l, _ => (false, l)
  | d + 1, t, l, deep =>
    if takeB l deep = false then (false, l)
    else if Nd.kind t = 0 ∨ Nd.kind t = 1 ∨ Nd.kind t = 2 then (bareB (Nd.num t) (Nd.str t) (Nd.keys t).length (Nd.list t).length, l - 1)
    else if Nd.kind t = 3 then (decide (-1000000 ≤ Nd.num t ∧ Nd.num t ≤ 1000000) && bareB 0 (Nd.str t) (Nd.keys t).length (Nd.list t).length, l - 1)
    else if Nd.kind t = 4 then (strOk (Nd.str t) && bareB (Nd.num t) ByteArray.empty (Nd.keys t).length (Nd.list t).length, l - 1)
    else if Nd.kind t = 5 then ((treesP (fun x l => treeP d x l (deep + 1)) (Nd.list t) (l - 1)).1 && bareB (Nd.num t) (Nd.str t) (Nd.keys t).length 0, (treesP (fun x l => treeP d x l (deep + 1)) (Nd.list t) (l - 1)).2)
    else if Nd.kind t = 6 then
      ((treesP (fun x l => treeP d x l (deep + 1)) (Nd.list t) (l - 1)).1 && ((Nd.keys t).length == (Nd.list t).length) && keysB (Nd.keys t) && bareB (Nd.num t) (Nd.str t) 0 0,
        (treesP (fun x l => treeP d x l (deep + 1)) (Nd.list t) (l - 1)).2)
    else (false, l - 1)

theorem treesP_step {α : Type} (f : α → Int → Bool × Int) {xs : List α} {k : Nat} {x : α} (h : xs[k]? = some x) (l : Int) :
    treesP f (xs.drop k) l = if (f x l).1 = true then treesP f (xs.drop (k + 1)) (f x l).2 else (false, (f x l).2) := by
  obtain ⟨hk, e⟩ := List.getElem?_eq_some_iff.1 h
  rw [List.drop_eq_getElem_cons hk, e, treesP]
theorem takeB_pos {l deep : Int} (h : takeB l deep = true) (h0 : 0 ≤ l) : 1 ≤ l := by
  simp [takeB] at h
  omega
theorem treesP_bd {α : Type} {f : α → Int → Bool × Int} (hf : ∀ x l, 0 ≤ l → 0 ≤ (f x l).2 ∧ (f x l).2 ≤ l) : ∀ (xs : List α) (l : Int), 0 ≤ l → 0 ≤ (treesP f xs l).2 ∧ (treesP f xs l).2 ≤ l
  | [], l, h => ⟨h, Int.le_refl _⟩
  | x :: r, l, h => by
    have h1 := hf x l h
    rw [treesP]
    split
    · have h2 := treesP_bd hf r (f x l).2 h1.1
      omega
    · exact h1
theorem treeP_bd : ∀ (d : Nat) (t : Tr d) (l deep : Int), 0 ≤ l → 0 ≤ (treeP d t l deep).2 ∧ (treeP d t l deep).2 ≤ l
  | 0, _, l, _, h => ⟨h, Int.le_refl _⟩
  | d + 1, t, l, deep, h => by
    rw [treeP]
    cases hb : takeB l deep with
    | false => exact ⟨h, Int.le_refl _⟩
    | true =>
      have h1 := takeB_pos hb h
      have h2 := treesP_bd (f := fun x l => treeP d x l (deep + 1)) (fun x l hl => treeP_bd d x l (deep + 1) hl) (Nd.list t) (l - 1) (by omega)
      rw [if_neg (by simp)]
      split
      · exact ⟨by show 0 ≤ l - 1; omega, by show l - 1 ≤ l; omega⟩
      split
      · exact ⟨by show 0 ≤ l - 1; omega, by show l - 1 ≤ l; omega⟩
      split
      · exact ⟨by show 0 ≤ l - 1; omega, by show l - 1 ≤ l; omega⟩
      split
      · exact ⟨h2.1, by have := h2.2; show (treesP _ _ _).2 ≤ l; omega⟩
      split
      · exact ⟨h2.1, by have := h2.2; show (treesP _ _ _).2 ≤ l; omega⟩
      · exact ⟨by show 0 ≤ l - 1; omega, by show l - 1 ≤ l; omega⟩
/-- A row that is right takes as much room as it has parts, at least. -/
theorem treesP_len {α : Type} {f : α → Int → Bool × Int} (hf : ∀ x l, 0 ≤ l → (f x l).1 = true → 0 ≤ (f x l).2 ∧ (f x l).2 ≤ l - 1) : ∀ (xs : List α) (l : Int), 0 ≤ l → (treesP f xs l).1 = true → (xs.length : Int) ≤ l
  | [], l, h, _ => by simpa using h
  | x :: r, l, h, hb => by
    rw [treesP] at hb
    split at hb
    · rename_i h1
      have h2 := hf x l h h1
      have h3 := treesP_len hf r (f x l).2 h2.1 hb
      simp only [List.length_cons]
      omega
    · cases hb

/-- What (*room).tree does with trees of this depth. -/
def TreeC (d : Nat) : Prop := ∀ (S : Nat → Prop) (t : Tr d) (v : Value) (left deep : Int) (rb : Nat) (w : World), ValAt S w d t v → Within S w → ¬ S rb → Room w rb left → 0 ≤ left → left ≤ 1000 → 0 ≤ deep → deep ≤ 1000 →
    Calls Tryz.prog 100 #[.pointer (some ⟨rb, 0, none⟩), v, .int .i64 deep] w fun e w' =>
      ∃ u, e = .returned (.tuple #[u, .bool (treeP d t left deep).1]) ∧ ((treeP d t left deep).1 = true → TreeAt (Fresh w w') w' d t u) ∧ Room w' rb (treeP d t left deep).2 ∧ But rb w w'

/-- The blocks from N on that are in w, but the row of the slice sv. -/
def Aside (N : Nat) (w : World) (sv : Value) (b : Nat) : Prop := N ≤ b ∧ b < w.heap.size ∧ some b ≠ sv.ownBlock

/-- The first k trees of a row that is being made. -/
def TreesTo {d : Nat} (N : Nat) (w : World) (sv : Value) (xs : List (Tr d)) (k : Nat) (vs : List Value) : Prop :=
  w.ownsRow N 70 1 sv k vs ∧ ∀ j x u, j < k → xs[j]? = some x → vs[j]? = some u → TreeAt (Aside N w sv) w d x u

theorem Tryz.infoTree : (Tryz.prog.info? 70).map (fun i => (i.zero, i.size, i.bytes)) = some (some .nilIface, 1, 16) := by kernel_rfl

theorem But.alloc {rb : Nat} {w w' : World} (h : But rb w w') (o : Obj) : But rb w (w'.alloc o) := h.trans (But.of_below (below_alloc1 _ _))
theorem ownsRow_but {N e size n rb : Nat} {w w' : World} {sv : Value} {vs : List Value} (h : w.ownsRow N e size sv n vs) (hb : But rb w w') (hr : rb < N) : w'.ownsRow N e size sv n vs := by
  refine h.kept hb ?_
  cases hv : sv.ownBlock with
  | none => exact Or.inl rfl
  | some g =>
    refine Or.inr (fun e => ?_)
    cases e
    have := (h.lt rb hv).1
    omega

theorem TreesTo.step {d N rb k : Nat} {wr wA w1 w2 : World} {sv sv' u : Value} {xs : List (Tr d)} {vs : List Value} {x : Tr d} {o : Obj} (h : TreesTo N wr sv xs k vs) (hr : rb < N) (hA : Below wr.heap.size wr wA) (hb : But rb wA w1)
    (hx : xs[k]? = some x) (hu : TreeAt (Fresh wA w1) w1 d x u) (hown : w2.ownsRow N 70 1 sv' (k + 1) (vs ++ [u])) (hg : (w1.alloc o).grownBy w2 sv.ownBlock)
    (hw : sv'.ownBlock = sv.ownBlock ∨ sv'.ownBlock = some (w1.alloc o).heap.size) (hN : N ≤ wr.heap.size) : TreesTo N w2 sv' xs (k + 1) (vs ++ [u]) := by
  obtain ⟨h1, h2⟩ := h
  have hlen : vs.length = k := by have := h1.1; omega
  have hs1 := hA.size
  have hs2 := hb.size
  have hs3 := hg.size
  have hz : (w1.alloc o).heap.size = w1.heap.size + 1 := by simp
  rw [hz] at hs3 hw
  -- a block that lay in w1 and is not the row's lies in w2 as it did
  have hlast : ∀ b, b < w1.heap.size → some b ≠ sv.ownBlock → w2.heap[b]? = w1.heap[b]? := fun b hb1 hb2 =>
    (hg.block b (by omega) hb2).trans (Below.heap_alloc _ _ _ hb1)
  have hne : ∀ b, b < w1.heap.size → some b ≠ sv.ownBlock → some b ≠ sv'.ownBlock := fun b hb1 hb2 => by
    rcases hw with e | e
    · rw [e]; exact hb2
    · rw [e]; intro e2; cases e2; omega
  refine ⟨hown, fun j y v hj hy hv => ?_⟩
  by_cases e : j = k
  · subst e
    rw [hx] at hy
    cases hy
    rw [List.getElem?_append_right (by omega), hlen, Nat.sub_self] at hv
    cases hv
    have hoff : ∀ b, Fresh wA w1 b → some b ≠ sv.ownBlock := fun b hb e => by
      have := (h1.lt b e.symm).2
      have := hb.1
      omega
    exact TreeAt.moved (fun b hb => hlast b hb.2 (hoff b hb)) (fun b hb => ⟨by have := hb.1; omega, by have := hb.2; omega, hne b hb.2 (hoff b hb)⟩) d x u hu
  · rw [List.getElem?_append_left (by omega)] at hv
    have h3 := h2 j y v (by omega) hy hv
    refine TreeAt.moved (fun b hB => ?_) (fun b hB => ⟨hB.1, by have := hB.2.1; omega, hne b (by have := hB.2.1; omega) hB.2.2⟩) d y v h3
    have hb2 := hB.2.1
    rw [hlast b (by omega) hB.2.2, hb.block b (by omega) (fun e => by cases e; have := hB.1; omega), hA.block b hb2]

theorem TreesTo.done {d N : Nat} {w w' : World} {sv : Value} {xs : List (Tr d)} {vs : List Value} (h : TreesTo N w' sv xs xs.length vs) (hN : N = w.heap.size) (hl : xs.length < 17592186044416) :
    Row1At (Fresh w w') w' (TreeAt (Fresh w w') w' d) sv xs := by
  obtain ⟨h1, h2⟩ := h
  refine ⟨hl, ?_⟩
  have hlen := h1.1
  rw [Nat.mul_one] at hlen
  rcases h1.2 with ⟨rfl, h0⟩ | ⟨g, cap, cur, rfl, hg, hh, _, _, _, _⟩
  · exact ⟨none, 0, by rw [h0], Or.inl (List.eq_nil_of_length_eq_zero h0)⟩
  · refine ⟨some ⟨g, 0, none⟩, cap, rfl, Or.inr ⟨g, 0, ⟨by omega, (Array.getElem?_eq_some_iff.1 hh).1⟩, rfl, fun i x hx => ?_⟩⟩
    have hi := (List.getElem?_eq_some_iff.1 hx).1
    have hvi : vs[i]? = some vs[i] := List.getElem?_eq_getElem (by omega)
    have hc := h1.cells (g := g) rfl i _ hvi
    have hadd : (⟨g, 0, none⟩ : Addr).add i = ⟨g, 0 + i, none⟩ := by unfold Addr.add; split <;> simp_all
    rw [hadd] at hc
    exact ⟨vs[i], hc, TreeAt.moved (fun _ _ => rfl) (fun b hb => ⟨by have := hb.1; omega, hb.2.1⟩) d x _ (h2 i x _ hi hx hvi)⟩

set_option maxHeartbeats 2000000 in
theorem trees_own (d : Nat) (H : TreeC d) (S : Nat → Prop) (xs : List (Tr d)) (v : Value) (left deep : Int) (rb : Nat) (w : World) (hv : RowAt S w (ValAt S w d) v xs) (hS : Within S w) (hrb : ¬ S rb) (hr : Room w rb left)
    (h0 : 0 ≤ left) (h1 : left ≤ 1000) (g0 : 0 ≤ deep) (g1 : deep ≤ 1000) :
    Calls Tryz.prog 132 #[.pointer (some ⟨rb, 0, none⟩), v, .int .i64 deep] w fun e w' =>
      ∃ a n c, e = .returned (.tuple #[.slice a n c, .bool (treesP (fun x l => treeP d x l deep) xs left).1]) ∧
        ((treesP (fun x l => treeP d x l deep) xs left).1 = true → ∃ vs, TreesTo w.heap.size w' (.slice a n c) xs xs.length vs) ∧ Room w' rb (treesP (fun x l => treeP d x l deep) xs left).2 ∧ But rb w w' := by
  obtain ⟨a, cap, rfl, hlen⟩ := hv.open'
  have hrbN := hr.lt
  go_enter Tryz.func132, Tryz.ntmps132
  go_wp2_with fail
  go_loopw [8, 15] (fun sv i wr => ∃ (k : Nat) (l : Int) (vs : List Value), k ≤ xs.length ∧ i = .int .i64 k ∧ Hid (TreesTo w.heap.size wr sv xs k vs) ∧ 0 ≤ l ∧ l ≤ 1000 ∧ Hid (Room wr rb l) ∧ Hid (But rb w wr) ∧
      Hid (treesP (fun x l => treeP d x l deep) xs left = treesP (fun x l => treeP d x l deep) (xs.drop k) l)) (fun _ i _ => xs.length - (intOf i).toNat)
  case atStart => exact ⟨0, left, [], Nat.zero_le _, rfl, ⟨World.ownsRow_nil _ _ _ _, fun j x u hj => by omega⟩, h0, h1, hr, But.refl _ _, rfl⟩
  case round =>
    clear hr
    obtain ⟨k, l, vs, hk, rfl, htr, hl0, hl1, hroom, hbut, hfin⟩ := hrel
    by_cases hkl : k < xs.length
    · obtain ⟨b, o, x, c0, c1, c2, c3, c4, rfl, hb, hx, e0, e1, e2, e3, e4, hval⟩ := (hv.same (hbut.out.same hS hrb)).cell hkl
      obtain ⟨q0, q1, q2, q3, q4, q5, q6, q7, q8, hq⟩ := hval.shape
      cases hq
      have hst : Hid (_ = _) := treesP_step (fun x l => treeP d x l deep) hx l
      have hbd := treeP_bd d x l deep hl0
      go_wp2_with fail
      have hA := below_alloc1 wr (.cells #[.int .i64 q0, .int .i64 q1, .string q2, .slice q3 q4 q5, .slice q6 q7 q8] 26)
      have hSw := hS.later hbut.out.size
      refine (H S x _ l deep rb _ (hval.same (hSw.same hA)) (hSw.later hA.size) hrb (hroom.out.below hA) hl0 hl1 g0 g1).mono ?_
      rintro e w1 ⟨u, rfl, hu, hroom1, hbut1⟩
      have hroom1' : Hid (Room w1 rb (treeP d x l deep).2) := hroom1
      have hbut2 : Hid (But rb w w1) := (hbut.out.trans (But.of_below hA)).trans hbut1
      cases hf : (treeP d x l deep).1 with
      | false =>
        have hfin2 : Hid (treesP (fun x l => treeP d x l deep) xs left = (false, (treeP d x l deep).2)) := by
          show treesP (fun x l => treeP d x l deep) xs left = _
          rw [hfin.out, hst.out, hf]
          rfl
        clear hfin hst hroom1 hbut1 hu htr hroom hbut hval hv e0 e1 e2 e3 e4 hx hSw hA
        go_wp2_with fail
        go_ret2
        rw [hfin2.out]
        exact ⟨none, 0, 0, rfl, fun h => absurd h (by simp), hroom1'.out, hbut2.out⟩
      | true =>
        have hu1 := hu hf
        obtain ⟨T, u', rfl⟩ := hu1.iface
        have hfin2 : Hid (treesP (fun x l => treeP d x l deep) xs left = treesP (fun x l => treeP d x l deep) (xs.drop (k + 1)) (treeP d x l deep).2) := by
          show treesP (fun x l => treeP d x l deep) xs left = _
          rw [hfin.out, hst.out, hf]
          rfl
        have hown1 := ownsRow_but htr.out.1 ((But.of_below hA).trans hbut1) hrbN
        have hNs : w.heap.size ≤ wr.heap.size := hbut.out.size
        have hN1 : w.heap.size ≤ w1.heap.size := hbut2.out.size
        have hstep : Hid (∀ sv' w2, w2.ownsRow w.heap.size 70 1 sv' (k + 1) (vs ++ [.iface T u']) → (w1.alloc (.cells #[.iface T u'] 70)).grownBy w2 (u8.ownBlock) →
            (sv'.ownBlock = u8.ownBlock ∨ sv'.ownBlock = some (w1.alloc (.cells #[.iface T u'] 70)).heap.size) →
            TreesTo w.heap.size w2 sv' xs (k + 1) (vs ++ [.iface T u']) ∧ Room w2 rb (treeP d x l deep).2 ∧ But rb w w2) := by
          intro sv' w2 o1 o2 o3
          have hrow : ∀ g, u8.ownBlock = some g → w.heap.size ≤ g := fun g hg => (htr.out.1.lt g hg).1
          have hrb2 : w2.heap[rb]? = w1.heap[rb]? := (o2.block rb (by simp; omega) (fun e => by have := hrow rb e.symm; omega)).trans (Below.heap_alloc _ _ _ (by omega))
          refine ⟨htr.out.step hrbN hA hbut1 hx hu1 o1 o2 o3 hNs, hrb2.trans hroom1, ?_⟩
          have hb3 := hbut2.out
          refine ⟨o2.os.trans hb3.os, o2.tape.trans hb3.tape, o2.output.trans hb3.output, Nat.le_trans hb3.size (Nat.le_trans (by simp) o2.size), fun i hi hn => ?_⟩
          exact ((o2.block i (by simp; omega) (fun e => by have := hrow i e.symm; omega)).trans (Below.heap_alloc _ _ _ (by omega))).trans (hb3.block i hi hn)
        obtain ⟨i0, hi, hz0, hz1, hz2⟩ := info_parts Tryz.infoTree
        have hown2 := hown1.alloc (.cells #[.iface T u'] 70)
        have HO : Hid _ := hown2
        clear hown2 hown1 hfin hst hroom1 hbut1 hu hu1 htr hroom hbut hval hv e0 e1 e2 e3 e4 hx hSw hA
        go_wp2_with (at_builtin; refine wpList_append_own_at _ rfl _ _ 92 rfl w.heap.size 70 i0 .nilIface 1 16 Tryz.underlying92 hi hz0 hz1 hz2 rfl (by decide) _ _ _ rfl HO.out ⟨w1.heap.size, 0, none⟩ 1 1 [.iface T u'] rfl rfl (cell_one_new _ _ _) ?c2 ?c3 ?c4 ?c5 ?_)
        case c2 => intro y hy; simp at hy; subst hy; rfl
        case c3 => unfold maxLen; omega
        case c4 => omega
        case c5 => simp; omega
        · intro sv' w2 o1 o2 _ o3
          have HH : Hid _ := hstep.out sv' w2 o1 o2 (by rw [World.size_alloc]; exact o3)
          clear o1 o2 o3 hstep HO
          go_wp2_with fail
          go_roundw
          case rel => exact ⟨k + 1, (treeP d x l deep).2, _, by omega, by go_num, HH.out.1, hbd.1, by omega, HH.out.2.1, HH.out.2.2, hfin2⟩
          case measure => simp [intOf]; omega
    · obtain rfl : k = xs.length := by omega
      have hfin2 : Hid (treesP (fun x l => treeP d x l deep) xs left = (true, l)) := by
        show treesP (fun x l => treeP d x l deep) xs left = _
        rw [hfin.out, List.drop_eq_nil_of_le (Nat.le_refl _)]
        rfl
      have hdone := htr.out.done (w := w) rfl (by omega)
      obtain ⟨sa, sc, hsv, _⟩ := hdone.open'
      subst hsv
      have HD : Hid (∃ vs, TreesTo w.heap.size wr (.slice sa xs.length sc) xs xs.length vs) := ⟨vs, htr.out⟩
      clear hdone htr hfin
      go_wp2_with fail
      go_ret2
      rw [hfin2.out]
      exact ⟨_, _, _, rfl, fun _ => HD.out, hroom.out, hbut.out⟩

theorem trees_any (d : Nat) (H : TreeC d) (S : Nat → Prop) (xs : List (Tr d)) (v : Value) (left deep : Int) (rb : Nat) (w : World) (hv : RowAt S w (ValAt S w d) v xs) (hS : Within S w) (hrb : ¬ S rb) (hr : Room w rb left)
    (h0 : 0 ≤ left) (h1 : left ≤ 1000) (g0 : 0 ≤ deep) (g1 : deep ≤ 1000) :
    Calls Tryz.prog 132 #[.pointer (some ⟨rb, 0, none⟩), v, .int .i64 deep] w fun e w' =>
      ∃ a n c, e = .returned (.tuple #[.slice a n c, .bool (treesP (fun x l => treeP d x l deep) xs left).1]) ∧
        ((treesP (fun x l => treeP d x l deep) xs left).1 = true → Row1At (Fresh w w') w' (TreeAt (Fresh w w') w' d) (.slice a n c) xs) ∧ Room w' rb (treesP (fun x l => treeP d x l deep) xs left).2 ∧ But rb w w' := by
  obtain ⟨_, _, _, hlen⟩ := hv.open'
  refine (trees_own d H S xs v left deep rb w hv hS hrb hr h0 h1 g0 g1).mono ?_
  rintro e w' ⟨a, n, c, he, htr, h1, h2⟩
  exact ⟨a, n, c, he, fun h => by obtain ⟨vs, hvs⟩ := htr h; exact hvs.done rfl (by omega), h1, h2⟩

/-- The row's own memory and its trees, in a world with more in it. -/
theorem TreesTo.moved {d N M k : Nat} {w w' : World} {sv : Value} {xs : List (Tr d)} {vs : List Value} (h : TreesTo N w sv xs k vs) (hb : Below w.heap.size w w') (hM : M ≤ N) : TreesTo M w' sv xs k vs := by
  obtain ⟨h1, h2⟩ := h
  have hz := hb.size
  refine ⟨⟨h1.1, ?_⟩, fun j x u hj hx hu => TreeAt.moved (fun b hb' => hb.block b hb'.2.1) (fun b hb' => ⟨Nat.le_trans hM hb'.1, by have := hb'.2.1; omega, hb'.2.2⟩) d x u (h2 j x u hj hx hu)⟩
  rcases h1.2 with h | ⟨g, cap, cur, hv, hg, hh, hrest⟩
  · exact Or.inl h
  · exact Or.inr ⟨g, cap, cur, hv, Nat.le_trans hM hg, (hb.block g (Array.getElem?_eq_some_iff.1 hh).1).trans hh, hrest⟩
end Go.Proofs.YtmibjmipndffmaaGreatDoor

/- (*room).tree, treeOf, ValOk of the program. -/
namespace Go.Proofs.YtmibjmipndffmaaGreatDoor
open Go.RowKit Go.Deep

/-- What (*room).tree is asked to give. -/
def TreeQ (d : Nat) (t : Tr d) (left deep : Int) (rb : Nat) (w : World) (e : Ending) (w' : World) : Prop :=
  ∃ u, e = .returned (.tuple #[u, .bool (treeP d t left deep).1]) ∧ ((treeP d t left deep).1 = true → TreeAt (Fresh w w') w' d t u) ∧ Room w' rb (treeP d t left deep).2 ∧ But rb w w'

theorem Blk5.but {w w' : World} {b rb : Nat} {T : TypeId} {c0 c1 c2 c3 c4 : Value} (h : Blk5 w b T c0 c1 c2 c3 c4) (e : But rb w w') (hn : b ≠ rb) : Blk5 w' b T c0 c1 c2 c3 c4 :=
  h.of_block (e.block b h.lt (fun q => by cases q; exact hn rfl))
theorem Blk5.ext {W : World} {b : Nat} {T : TypeId} {c0 c1 c2 c3 c4 : Value} (h : Blk5 W b T c0 c1 c2 c3 c4) :
    (∀ n : Ext W, n.now.cell? ⟨b, 0, none⟩ = some c0) ∧ (∀ n : Ext W, n.now.cell? ⟨b, 1, none⟩ = some c1) ∧ (∀ n : Ext W, n.now.cell? ⟨b, 2, none⟩ = some c2) ∧ (∀ n : Ext W, n.now.cell? ⟨b, 3, none⟩ = some c3) ∧ (∀ n : Ext W, n.now.cell? ⟨b, 4, none⟩ = some c4) :=
  ⟨fun n => (h.below n.from_).cell.1, fun n => (h.below n.from_).cell.2.1, fun n => (h.below n.from_).cell.2.2.1, fun n => (h.below n.from_).cell.2.2.2.1, fun n => (h.below n.from_).cell.2.2.2.2⟩

set_option maxHeartbeats 2000000 in
theorem tree_full (d : Nat) (kind num : Int) (str : ByteArray) (keys : List ByteArray) (list : List (Tr d)) (left deep : Int) (rb : Nat) (ak al : Option Addr) (ck cl : Nat) (w : World)
    (hr : Room w rb left) (h0 : 0 ≤ left) (h1 : left ≤ 1000) (hb : takeB left deep = false) :
    Calls Tryz.prog 100 #[.pointer (some ⟨rb, 0, none⟩), .agg #[.int .i64 kind, .int .i64 num, .string str, .slice ak keys.length ck, .slice al list.length cl], .int .i64 deep] w
      (TreeQ (d + 1) (Nd.mk kind num str keys list) left deep rb w) := by
  have hp : Hid (treeP (d + 1) (Nd.mk kind num str keys list) left deep = (false, left)) := if_pos hb
  have hA := below_alloc1 w (.cells #[.int .i64 kind, .int .i64 num, .string str, .slice ak keys.length ck, .slice al list.length cl] 26)
  go_enter Tryz.func100, Tryz.ntmps100
  go_wp2_with fail
  refine (take_any rb left deep _ (hr.below hA) h0 h1).mono ?_
  rintro e w1 ⟨rfl, hr1, hb1, _⟩
  have hl : leftTo left deep = left := by simp [leftTo, hb]
  have HR : Hid (Room w1 rb left) := by rw [← hl]; exact hr1
  have HB : Hid (But rb w w1) := (But.of_below hA).trans hb1
  clear hr1 hb1 hl hA
  rw [hb]
  go_wp2_with fail
  go_ret2
  refine ⟨.nilIface, ?_, ?_, ?_, HB.out⟩
  · rw [hp.out]; rfl
  · rw [hp.out]; exact fun h => absurd h (by simp)
  · rw [hp.out]; exact HR.out

set_option maxHeartbeats 2000000 in
theorem tree_k0 (d : Nat) (num : Int) (str : ByteArray) (keys : List ByteArray) (list : List (Tr d)) (left deep : Int) (rb : Nat) (ak al : Option Addr) (ck cl : Nat) (w : World)
    (hr : Room w rb left) (h0 : 0 ≤ left) (h1 : left ≤ 1000) (hb : takeB left deep = true) (hkl : keys.length < 17592186044416) (hll : list.length < 3518437208883) :
    Calls Tryz.prog 100 #[.pointer (some ⟨rb, 0, none⟩), .agg #[.int .i64 0, .int .i64 num, .string str, .slice ak keys.length ck, .slice al list.length cl], .int .i64 deep] w
      (TreeQ (d + 1) (Nd.mk 0 num str keys list) left deep rb w) := by
  have hp : Hid (treeP (d + 1) (Nd.mk 0 num str keys list) left deep = (bareB num str keys.length list.length, left - 1)) := by
    show (if takeB left deep = false then (false, left) else _) = _
    rw [hb]
    rfl
  have hA := below_alloc1 w (.cells #[.int .i64 0, .int .i64 num, .string str, .slice ak keys.length ck, .slice al list.length cl] 26)
  have k0 := Blk5.new w 26 (.int .i64 0) (.int .i64 num) (.string str) (.slice ak keys.length ck) (.slice al list.length cl)
  have hrN := hr.lt
  go_enter Tryz.func100, Tryz.ntmps100
  go_wp2_with fail
  refine (take_any rb left deep _ (hr.below hA) h0 h1).mono ?_
  rintro e w1 ⟨rfl, hr1, hb1, hsz1⟩
  have hl : leftTo left deep = left - 1 := by simp [leftTo, hb]
  have HR : Hid (Room w1 rb (left - 1)) := by rw [← hl]; exact hr1
  have HB : Hid (But rb w w1) := (But.of_below hA).trans hb1
  replace k0 := k0.but hb1 (by omega)
  clear hr1 hb1 hl hA hsz1
  rw [hb]
  obtain ⟨x0, x1, x2, x3, x4⟩ := k0.cell
  obtain ⟨y0, y1, y2, y3, y4⟩ := k0.ext
  have hne := Ext.some w1
  clear k0
  go_wp2_with fail
  refine wp_region_ext (by kernel_rfl) (by kernel_rfl) ?_
  repeat (first | go_big_quiet_step ((go_at_call 130; exact Calls.ext_of (bare_any _ _ _ _ _ _ _ _ _ _ hkl hll))) | quiet_step ((go_at_call 130; exact Calls.ext_of (bare_any _ _ _ _ _ _ _ _ _ _ hkl hll))))
  refine wpQuiet_nil ?_
  rintro _ ⟨n, rfl⟩
  clear y0 y1 y2 y3 y4
  go_wp2_with fail
  go_ret2
  refine ⟨_, by rw [hp.out]; rfl, fun _ => Or.inl ⟨by simp, rfl⟩, by rw [hp.out]; exact HR.out.below n.from_, HB.out.trans (But.of_below n.from_)⟩

set_option maxHeartbeats 2000000 in
theorem tree_k1 (d : Nat) (num : Int) (str : ByteArray) (keys : List ByteArray) (list : List (Tr d)) (left deep : Int) (rb : Nat) (ak al : Option Addr) (ck cl : Nat) (w : World)
    (hr : Room w rb left) (h0 : 0 ≤ left) (h1 : left ≤ 1000) (hb : takeB left deep = true) (hkl : keys.length < 17592186044416) (hll : list.length < 3518437208883) :
    Calls Tryz.prog 100 #[.pointer (some ⟨rb, 0, none⟩), .agg #[.int .i64 1, .int .i64 num, .string str, .slice ak keys.length ck, .slice al list.length cl], .int .i64 deep] w
      (TreeQ (d + 1) (Nd.mk 1 num str keys list) left deep rb w) := by
  have hp : Hid (treeP (d + 1) (Nd.mk 1 num str keys list) left deep = (bareB num str keys.length list.length, left - 1)) := by
    show (if takeB left deep = false then (false, left) else _) = _
    rw [hb]
    rfl
  have hA := below_alloc1 w (.cells #[.int .i64 1, .int .i64 num, .string str, .slice ak keys.length ck, .slice al list.length cl] 26)
  have k0 := Blk5.new w 26 (.int .i64 1) (.int .i64 num) (.string str) (.slice ak keys.length ck) (.slice al list.length cl)
  have hrN := hr.lt
  go_enter Tryz.func100, Tryz.ntmps100
  go_wp2_with fail
  refine (take_any rb left deep _ (hr.below hA) h0 h1).mono ?_
  rintro e w1 ⟨rfl, hr1, hb1, hsz1⟩
  have hl : leftTo left deep = left - 1 := by simp [leftTo, hb]
  have HR : Hid (Room w1 rb (left - 1)) := by rw [← hl]; exact hr1
  have HB : Hid (But rb w w1) := (But.of_below hA).trans hb1
  replace k0 := k0.but hb1 (by omega)
  clear hr1 hb1 hl hA hsz1
  rw [hb]
  obtain ⟨x0, x1, x2, x3, x4⟩ := k0.cell
  obtain ⟨y0, y1, y2, y3, y4⟩ := k0.ext
  have hne := Ext.some w1
  clear k0
  go_wp2_with fail
  refine wp_region_ext (by kernel_rfl) (by kernel_rfl) ?_
  repeat (first | go_big_quiet_step ((go_at_call 130; exact Calls.ext_of (bare_any _ _ _ _ _ _ _ _ _ _ hkl hll))) | quiet_step ((go_at_call 130; exact Calls.ext_of (bare_any _ _ _ _ _ _ _ _ _ _ hkl hll))))
  refine wpQuiet_nil ?_
  rintro _ ⟨n, rfl⟩
  clear y0 y1 y2 y3 y4
  go_wp2_with fail
  go_ret2
  refine ⟨_, by rw [hp.out]; rfl, fun _ => Or.inl ⟨by simp, rfl⟩, by rw [hp.out]; exact HR.out.below n.from_, HB.out.trans (But.of_below n.from_)⟩

set_option maxHeartbeats 2000000 in
theorem tree_k2 (d : Nat) (num : Int) (str : ByteArray) (keys : List ByteArray) (list : List (Tr d)) (left deep : Int) (rb : Nat) (ak al : Option Addr) (ck cl : Nat) (w : World)
    (hr : Room w rb left) (h0 : 0 ≤ left) (h1 : left ≤ 1000) (hb : takeB left deep = true) (hkl : keys.length < 17592186044416) (hll : list.length < 3518437208883) :
    Calls Tryz.prog 100 #[.pointer (some ⟨rb, 0, none⟩), .agg #[.int .i64 2, .int .i64 num, .string str, .slice ak keys.length ck, .slice al list.length cl], .int .i64 deep] w
      (TreeQ (d + 1) (Nd.mk 2 num str keys list) left deep rb w) := by
  have hp : Hid (treeP (d + 1) (Nd.mk 2 num str keys list) left deep = (bareB num str keys.length list.length, left - 1)) := by
    show (if takeB left deep = false then (false, left) else _) = _
    rw [hb]
    rfl
  have hA := below_alloc1 w (.cells #[.int .i64 2, .int .i64 num, .string str, .slice ak keys.length ck, .slice al list.length cl] 26)
  have k0 := Blk5.new w 26 (.int .i64 2) (.int .i64 num) (.string str) (.slice ak keys.length ck) (.slice al list.length cl)
  have hrN := hr.lt
  go_enter Tryz.func100, Tryz.ntmps100
  go_wp2_with fail
  refine (take_any rb left deep _ (hr.below hA) h0 h1).mono ?_
  rintro e w1 ⟨rfl, hr1, hb1, hsz1⟩
  have hl : leftTo left deep = left - 1 := by simp [leftTo, hb]
  have HR : Hid (Room w1 rb (left - 1)) := by rw [← hl]; exact hr1
  have HB : Hid (But rb w w1) := (But.of_below hA).trans hb1
  replace k0 := k0.but hb1 (by omega)
  clear hr1 hb1 hl hA hsz1
  rw [hb]
  obtain ⟨x0, x1, x2, x3, x4⟩ := k0.cell
  obtain ⟨y0, y1, y2, y3, y4⟩ := k0.ext
  have hne := Ext.some w1
  clear k0
  go_wp2_with fail
  refine wp_region_ext (by kernel_rfl) (by kernel_rfl) ?_
  repeat (first | go_big_quiet_step ((go_at_call 130; exact Calls.ext_of (bare_any _ _ _ _ _ _ _ _ _ _ hkl hll))) | quiet_step ((go_at_call 130; exact Calls.ext_of (bare_any _ _ _ _ _ _ _ _ _ _ hkl hll))))
  refine wpQuiet_nil ?_
  rintro _ ⟨n, rfl⟩
  clear y0 y1 y2 y3 y4
  go_wp2_with fail
  go_ret2
  refine ⟨_, by rw [hp.out]; rfl, fun _ => Or.inl ⟨by simp, rfl⟩, by rw [hp.out]; exact HR.out.below n.from_, HB.out.trans (But.of_below n.from_)⟩

set_option maxHeartbeats 2000000 in
theorem tree_num (d : Nat) (num : Int) (str : ByteArray) (keys : List ByteArray) (list : List (Tr d)) (left deep : Int) (rb : Nat) (ak al : Option Addr) (ck cl : Nat) (w : World)
    (hr : Room w rb left) (h0 : 0 ≤ left) (h1 : left ≤ 1000) (hb : takeB left deep = true) (hkl : keys.length < 17592186044416) (hll : list.length < 3518437208883) :
    Calls Tryz.prog 100 #[.pointer (some ⟨rb, 0, none⟩), .agg #[.int .i64 3, .int .i64 num, .string str, .slice ak keys.length ck, .slice al list.length cl], .int .i64 deep] w
      (TreeQ (d + 1) (Nd.mk 3 num str keys list) left deep rb w) := by
  have hp : Hid (treeP (d + 1) (Nd.mk 3 num str keys list) left deep = (decide (-1000000 ≤ num ∧ num ≤ 1000000) && bareB 0 str keys.length list.length, left - 1)) := by
    show (if takeB left deep = false then (false, left) else _) = _
    rw [hb]
    rfl
  have hA := below_alloc1 w (.cells #[.int .i64 3, .int .i64 num, .string str, .slice ak keys.length ck, .slice al list.length cl] 26)
  have k0 := Blk5.new w 26 (.int .i64 3) (.int .i64 num) (.string str) (.slice ak keys.length ck) (.slice al list.length cl)
  have hrN := hr.lt
  go_enter Tryz.func100, Tryz.ntmps100
  go_wp2_with fail
  refine (take_any rb left deep _ (hr.below hA) h0 h1).mono ?_
  rintro e w1 ⟨rfl, hr1, hb1, hsz1⟩
  have hl : leftTo left deep = left - 1 := by simp [leftTo, hb]
  have HR : Hid (Room w1 rb (left - 1)) := by rw [← hl]; exact hr1
  have HB : Hid (But rb w w1) := (But.of_below hA).trans hb1
  replace k0 := k0.but hb1 (by omega)
  clear hr1 hb1 hl hA hsz1
  rw [hb]
  obtain ⟨x0, x1, x2, x3, x4⟩ := k0.cell
  by_cases hnum : -1000000 ≤ num ∧ num ≤ 1000000
  · have hnd : decide (-1000000 ≤ num ∧ num ≤ 1000000) = true := decide_eq_true hnum
    clear hnum
    obtain ⟨y0, y1, y2, y3, y4⟩ := k0.ext
    have hne := Ext.some w1
    clear k0
    go_wp2_with fail
    refine wp_region_ext (by kernel_rfl) (by kernel_rfl) ?_
    repeat (first | go_big_quiet_step ((first | (go_at_call 131; exact Calls.ext_same (numOk_any _ _)) | (go_at_call 130; exact Calls.ext_of (bare_any _ _ _ _ _ _ _ _ _ _ hkl hll)))) | quiet_step ((first | (go_at_call 131; exact Calls.ext_same (numOk_any _ _)) | (go_at_call 130; exact Calls.ext_of (bare_any _ _ _ _ _ _ _ _ _ _ hkl hll)))))
    refine wpQuiet_nil ?_
    rintro _ ⟨n, rfl⟩
    clear y0 y1 y2 y3 y4
    go_wp2_with fail
    go_ret2
    refine ⟨_, by rw [hp.out, hnd]; rfl, fun _ => Or.inr (Or.inl ⟨rfl, rfl⟩), by rw [hp.out]; exact HR.out.below n.from_, HB.out.trans (But.of_below n.from_)⟩
  · have hnd : decide (-1000000 ≤ num ∧ num ≤ 1000000) = false := decide_eq_false hnum
    clear hnum
    obtain ⟨y0, y1, y2, y3, y4⟩ := k0.ext
    have hne := Ext.some w1
    clear k0
    go_wp2_with fail
    refine wp_region_ext (by kernel_rfl) (by kernel_rfl) ?_
    repeat (first | go_big_quiet_step ((first | (go_at_call 131; exact Calls.ext_same (numOk_any _ _)) | (go_at_call 130; exact Calls.ext_of (bare_any _ _ _ _ _ _ _ _ _ _ hkl hll)))) | quiet_step ((first | (go_at_call 131; exact Calls.ext_same (numOk_any _ _)) | (go_at_call 130; exact Calls.ext_of (bare_any _ _ _ _ _ _ _ _ _ _ hkl hll)))))
    refine wpQuiet_nil ?_
    rintro _ ⟨n, rfl⟩
    clear y0 y1 y2 y3 y4
    go_wp2_with fail
    go_ret2
    refine ⟨_, by rw [hp.out, hnd]; rfl, by rw [hp.out, hnd]; exact fun h => absurd h (by simp), by rw [hp.out]; exact HR.out.below n.from_, HB.out.trans (But.of_below n.from_)⟩

set_option maxHeartbeats 2000000 in
theorem tree_str (d : Nat) (num : Int) (str : ByteArray) (keys : List ByteArray) (list : List (Tr d)) (left deep : Int) (rb : Nat) (ak al : Option Addr) (ck cl : Nat) (w : World)
    (hr : Room w rb left) (h0 : 0 ≤ left) (h1 : left ≤ 1000) (hb : takeB left deep = true) (hkl : keys.length < 17592186044416) (hll : list.length < 3518437208883) (hstr : str.size < 281474976710656) :
    Calls Tryz.prog 100 #[.pointer (some ⟨rb, 0, none⟩), .agg #[.int .i64 4, .int .i64 num, .string str, .slice ak keys.length ck, .slice al list.length cl], .int .i64 deep] w
      (TreeQ (d + 1) (Nd.mk 4 num str keys list) left deep rb w) := by
  have hp : Hid (treeP (d + 1) (Nd.mk 4 num str keys list) left deep = (strOk str && bareB num ByteArray.empty keys.length list.length, left - 1)) := by
    show (if takeB left deep = false then (false, left) else _) = _
    rw [hb]
    rfl
  have hA := below_alloc1 w (.cells #[.int .i64 4, .int .i64 num, .string str, .slice ak keys.length ck, .slice al list.length cl] 26)
  have k0 := Blk5.new w 26 (.int .i64 4) (.int .i64 num) (.string str) (.slice ak keys.length ck) (.slice al list.length cl)
  have hrN := hr.lt
  go_enter Tryz.func100, Tryz.ntmps100
  go_wp2_with fail
  refine (take_any rb left deep _ (hr.below hA) h0 h1).mono ?_
  rintro e w1 ⟨rfl, hr1, hb1, hsz1⟩
  have hl : leftTo left deep = left - 1 := by simp [leftTo, hb]
  have HR : Hid (Room w1 rb (left - 1)) := by rw [← hl]; exact hr1
  have HB : Hid (But rb w w1) := (But.of_below hA).trans hb1
  replace k0 := k0.but hb1 (by omega)
  clear hr1 hb1 hl hA hsz1
  rw [hb]
  obtain ⟨x0, x1, x2, x3, x4⟩ := k0.cell
  cases hsk : strOk str with
  | true =>
    obtain ⟨y0, y1, y2, y3, y4⟩ := k0.ext
    have hne := Ext.some w1
    clear k0
    go_wp2_with fail
    refine wp_region_ext (by kernel_rfl) (by kernel_rfl) ?_
    repeat (first | go_big_quiet_step ((first | (go_at_call 106; exact Calls.ext_of (textOk_any _ _ hstr)) | (go_at_call 130; exact Calls.ext_of (bare_any _ _ _ _ _ _ _ _ _ _ hkl hll)))) | quiet_step ((first | (go_at_call 106; exact Calls.ext_of (textOk_any _ _ hstr)) | (go_at_call 130; exact Calls.ext_of (bare_any _ _ _ _ _ _ _ _ _ _ hkl hll)))))
    refine wpQuiet_nil ?_
    rintro _ ⟨n, rfl⟩
    clear y0 y1 y2 y3 y4
    go_wp2_with fail
    go_ret2
    refine ⟨_, by rw [hp.out, hsk]; rfl, fun _ => Or.inr (Or.inr (Or.inl ⟨rfl, rfl⟩)), by rw [hp.out]; exact HR.out.below n.from_, HB.out.trans (But.of_below n.from_)⟩
  | false =>
    obtain ⟨y0, y1, y2, y3, y4⟩ := k0.ext
    have hne := Ext.some w1
    clear k0
    go_wp2_with fail
    refine wp_region_ext (by kernel_rfl) (by kernel_rfl) ?_
    repeat (first | go_big_quiet_step ((first | (go_at_call 106; exact Calls.ext_of (textOk_any _ _ hstr)) | (go_at_call 130; exact Calls.ext_of (bare_any _ _ _ _ _ _ _ _ _ _ hkl hll)))) | quiet_step ((first | (go_at_call 106; exact Calls.ext_of (textOk_any _ _ hstr)) | (go_at_call 130; exact Calls.ext_of (bare_any _ _ _ _ _ _ _ _ _ _ hkl hll)))))
    refine wpQuiet_nil ?_
    rintro _ ⟨n, rfl⟩
    clear y0 y1 y2 y3 y4
    go_wp2_with fail
    go_ret2
    refine ⟨_, by rw [hp.out, hsk]; rfl, by rw [hp.out, hsk]; exact fun h => absurd h (by simp), by rw [hp.out]; exact HR.out.below n.from_, HB.out.trans (But.of_below n.from_)⟩

set_option maxHeartbeats 2000000 in
theorem tree_other (d : Nat) (kind : Int) (num : Int) (str : ByteArray) (keys : List ByteArray) (list : List (Tr d)) (left deep : Int) (rb : Nat) (ak al : Option Addr) (ck cl : Nat) (w : World)
    (hr : Room w rb left) (h0 : 0 ≤ left) (h1 : left ≤ 1000) (hb : takeB left deep = true) (hk : ¬ kind = 0 ∧ ¬ kind = 1 ∧ ¬ kind = 2 ∧ ¬ kind = 3 ∧ ¬ kind = 4 ∧ ¬ kind = 5 ∧ ¬ kind = 6) :
    Calls Tryz.prog 100 #[.pointer (some ⟨rb, 0, none⟩), .agg #[.int .i64 kind, .int .i64 num, .string str, .slice ak keys.length ck, .slice al list.length cl], .int .i64 deep] w
      (TreeQ (d + 1) (Nd.mk kind num str keys list) left deep rb w) := by
  obtain ⟨k_0, k_1, k_2, k_3, k_4, k_5, k_6⟩ := hk
  have hp : Hid (treeP (d + 1) (Nd.mk kind num str keys list) left deep = (false, left - 1)) := by
    show (if takeB left deep = false then (false, left) else _) = _
    rw [hb]
    show (if kind = 0 ∨ kind = 1 ∨ kind = 2 then _ else if kind = 3 then _ else if kind = 4 then _ else if kind = 5 then _ else if kind = 6 then _ else _) = _
    rw [if_neg (by omega), if_neg k_3, if_neg k_4, if_neg k_5, if_neg k_6]
  have hA := below_alloc1 w (.cells #[.int .i64 kind, .int .i64 num, .string str, .slice ak keys.length ck, .slice al list.length cl] 26)
  have k0 := Blk5.new w 26 (.int .i64 kind) (.int .i64 num) (.string str) (.slice ak keys.length ck) (.slice al list.length cl)
  have hrN := hr.lt
  go_enter Tryz.func100, Tryz.ntmps100
  go_wp2_with fail
  refine (take_any rb left deep _ (hr.below hA) h0 h1).mono ?_
  rintro e w1 ⟨rfl, hr1, hb1, hsz1⟩
  have hl : leftTo left deep = left - 1 := by simp [leftTo, hb]
  have HR : Hid (Room w1 rb (left - 1)) := by rw [← hl]; exact hr1
  have HB : Hid (But rb w w1) := (But.of_below hA).trans hb1
  replace k0 := k0.but hb1 (by omega)
  clear hr1 hb1 hl hA hsz1
  rw [hb]
  obtain ⟨x0, x1, x2, x3, x4⟩ := k0.cell
  have b0 : (kind == 0) = false := by simpa using k_0
  have b1 : (kind == 1) = false := by simpa using k_1
  have b2 : (kind == 2) = false := by simpa using k_2
  have b3 : (kind == 3) = false := by simpa using k_3
  have b4 : (kind == 4) = false := by simpa using k_4
  have b5 : (kind == 5) = false := by simpa using k_5
  have b6 : (kind == 6) = false := by simpa using k_6
  clear k0
  go_wp2_with fail
  go_ret2
  refine ⟨_, by rw [hp.out]; rfl, by rw [hp.out]; exact fun h => absurd h (by simp), by rw [hp.out]; exact HR.out, HB.out⟩
end Go.Proofs.YtmibjmipndffmaaGreatDoor
