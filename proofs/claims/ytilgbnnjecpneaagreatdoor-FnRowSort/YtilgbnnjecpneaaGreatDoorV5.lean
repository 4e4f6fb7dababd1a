/- Texts of the proof, put together by program: WImplD, WImplE. -/
import Derived.Test.YtilgbnnjecpneaaGreatDoorV4
import Derived.Deep.RegionHeld
/- (*room).tree, treeOf, ValOk of the program. -/
namespace Go.Proofs.YtilgbnnjecpneaaGreatDoor
open Go.RowKit Go.Deep

/-- What (*room).tree is asked to give. -/
def TreeQ (d : Nat) (t : Tr d) (left deep : Int) (rb : Nat) (w : World) (e : Ending) (w' : World) : Prop :=
  ∃ u, e = .returned (.tuple #[u, .bool (treeP d t left deep).1]) ∧ ((treeP d t left deep).1 = true → TreeAt (Fresh w w') w' d t u) ∧ Room w' rb (treeP d t left deep).2 ∧ But rb w w'

theorem Blk5.but {w w' : World} {b rb : Nat} {T : TypeId} {c0 c1 c2 c3 c4 : Value} (h : Blk5 w b T c0 c1 c2 c3 c4) (e : But rb w w') (hn : b ≠ rb) : Blk5 w' b T c0 c1 c2 c3 c4 :=
  h.of_block (e.block b h.lt (fun q => by cases q; exact hn rfl))
theorem Blk5.ext {W : World} {b : Nat} {T : TypeId} {c0 c1 c2 c3 c4 : Value} (h : Blk5 W b T c0 c1 c2 c3 c4) :
    (∀ n : Ext W, n.now.cell? ⟨b, 0, none⟩ = some c0) ∧ (∀ n : Ext W, n.now.cell? ⟨b, 1, none⟩ = some c1) ∧ (∀ n : Ext W, n.now.cell? ⟨b, 2, none⟩ = some c2) ∧ (∀ n : Ext W, n.now.cell? ⟨b, 3, none⟩ = some c3) ∧ (∀ n : Ext W, n.now.cell? ⟨b, 4, none⟩ = some c4) :=
  ⟨fun n => (h.below n.from_).cell.1, fun n => (h.below n.from_).cell.2.1, fun n => (h.below n.from_).cell.2.2.1, fun n => (h.below n.from_).cell.2.2.2.1, fun n => (h.below n.from_).cell.2.2.2.2⟩

set_option maxHeartbeats 2000000 in
theorem tree_full (d : Nat) (kind num : Int) (str : ByteArray) (keys : List ByteArray) (list : List (Tr d)) (left deep : Int) (rb : Nat) (ak al : Option Addr) (ck cl : Nat) (w : World)
    (hr : Room w rb left) (h0 : 0 ≤ left) (h1 : left ≤ 1000) (hb : takeB left deep = false) :
    Calls Tryz.prog 94 #[.pointer (some ⟨rb, 0, none⟩), .agg #[.int .i64 kind, .int .i64 num, .string str, .slice ak keys.length ck, .slice al list.length cl], .int .i64 deep] w
      (TreeQ (d + 1) (Nd.mk kind num str keys list) left deep rb w) := by
  have hp : Hid (treeP (d + 1) (Nd.mk kind num str keys list) left deep = (false, left)) := if_pos hb
  have hA := below_alloc1 w (.cells #[.int .i64 kind, .int .i64 num, .string str, .slice ak keys.length ck, .slice al list.length cl] 29)
  go_enter Tryz.func94, Tryz.ntmps94
  go_wp2_with fail
  refine (take_any rb left deep _ (hr.below hA) h0 h1).mono ?_
  rintro e w1 ⟨rfl, hr1, hb1, _⟩
  have hl : leftTo left deep = left := by simp [leftTo, hb]
  have HR : Hid (Room w1 rb left) := by rw [← hl]; exact hr1
  have HB : Hid (But rb w w1) := (But.of_below hA).trans hb1
  clear hr1 hb1 hl hA
  rw [hb]
  go_wp2_with fail
  go_ret2
  refine ⟨.nilIface, ?_, ?_, ?_, HB.out⟩
  · rw [hp.out]; rfl
  · rw [hp.out]; exact fun h => absurd h (by simp)
  · rw [hp.out]; exact HR.out

set_option maxHeartbeats 2000000 in
theorem tree_k0 (d : Nat) (num : Int) (str : ByteArray) (keys : List ByteArray) (list : List (Tr d)) (left deep : Int) (rb : Nat) (ak al : Option Addr) (ck cl : Nat) (w : World)
    (hr : Room w rb left) (h0 : 0 ≤ left) (h1 : left ≤ 1000) (hb : takeB left deep = true) (hkl : keys.length < 17592186044416) (hll : list.length < 3518437208883) :
    Calls Tryz.prog 94 #[.pointer (some ⟨rb, 0, none⟩), .agg #[.int .i64 0, .int .i64 num, .string str, .slice ak keys.length ck, .slice al list.length cl], .int .i64 deep] w
      (TreeQ (d + 1) (Nd.mk 0 num str keys list) left deep rb w) := by
  have hp : Hid (treeP (d + 1) (Nd.mk 0 num str keys list) left deep = (bareB num str keys.length list.length, left - 1)) := by
    show (if takeB left deep = false then (false, left) else _) = _
    rw [hb]
    rfl
  have hA := below_alloc1 w (.cells #[.int .i64 0, .int .i64 num, .string str, .slice ak keys.length ck, .slice al list.length cl] 29)
  have k0 := Blk5.new w 29 (.int .i64 0) (.int .i64 num) (.string str) (.slice ak keys.length ck) (.slice al list.length cl)
  have hrN := hr.lt
  go_enter Tryz.func94, Tryz.ntmps94
  go_wp2_with fail
  refine (take_any rb left deep _ (hr.below hA) h0 h1).mono ?_
  rintro e w1 ⟨rfl, hr1, hb1, hsz1⟩
  have hl : leftTo left deep = left - 1 := by simp [leftTo, hb]
  have HR : Hid (Room w1 rb (left - 1)) := by rw [← hl]; exact hr1
  have HB : Hid (But rb w w1) := (But.of_below hA).trans hb1
  replace k0 := k0.but hb1 (by omega)
  clear hr1 hb1 hl hA hsz1
  rw [hb]
  obtain ⟨x0, x1, x2, x3, x4⟩ := k0.cell
  obtain ⟨y0, y1, y2, y3, y4⟩ := k0.ext
  have hne := Ext.some w1
  clear k0
  go_wp2_with fail
  refine wp_region_ext (by kernel_rfl) (by kernel_rfl) ?_
  repeat (first | go_big_quiet_step ((go_at_call 107; exact Calls.ext_of (bare_any _ _ _ _ _ _ _ _ _ _ hkl hll))) | quiet_step ((go_at_call 107; exact Calls.ext_of (bare_any _ _ _ _ _ _ _ _ _ _ hkl hll))))
  refine wpQuiet_nil ?_
  rintro _ ⟨n, rfl⟩
  clear y0 y1 y2 y3 y4
  go_wp2_with fail
  go_ret2
  refine ⟨_, by rw [hp.out]; rfl, fun _ => Or.inl ⟨by simp, rfl⟩, by rw [hp.out]; exact HR.out.below n.from_, HB.out.trans (But.of_below n.from_)⟩

set_option maxHeartbeats 2000000 in
theorem tree_k1 (d : Nat) (num : Int) (str : ByteArray) (keys : List ByteArray) (list : List (Tr d)) (left deep : Int) (rb : Nat) (ak al : Option Addr) (ck cl : Nat) (w : World)
    (hr : Room w rb left) (h0 : 0 ≤ left) (h1 : left ≤ 1000) (hb : takeB left deep = true) (hkl : keys.length < 17592186044416) (hll : list.length < 3518437208883) :
    Calls Tryz.prog 94 #[.pointer (some ⟨rb, 0, none⟩), .agg #[.int .i64 1, .int .i64 num, .string str, .slice ak keys.length ck, .slice al list.length cl], .int .i64 deep] w
      (TreeQ (d + 1) (Nd.mk 1 num str keys list) left deep rb w) := by
  have hp : Hid (treeP (d + 1) (Nd.mk 1 num str keys list) left deep = (bareB num str keys.length list.length, left - 1)) := by
    show (if takeB left deep = false then (false, left) else _) = _
    rw [hb]
    rfl
  have hA := below_alloc1 w (.cells #[.int .i64 1, .int .i64 num, .string str, .slice ak keys.length ck, .slice al list.length cl] 29)
  have k0 := Blk5.new w 29 (.int .i64 1) (.int .i64 num) (.string str) (.slice ak keys.length ck) (.slice al list.length cl)
  have hrN := hr.lt
  go_enter Tryz.func94, Tryz.ntmps94
  go_wp2_with fail
  refine (take_any rb left deep _ (hr.below hA) h0 h1).mono ?_
  rintro e w1 ⟨rfl, hr1, hb1, hsz1⟩
  have hl : leftTo left deep = left - 1 := by simp [leftTo, hb]
  have HR : Hid (Room w1 rb (left - 1)) := by rw [← hl]; exact hr1
  have HB : Hid (But rb w w1) := (But.of_below hA).trans hb1
  replace k0 := k0.but hb1 (by omega)
  clear hr1 hb1 hl hA hsz1
  rw [hb]
  obtain ⟨x0, x1, x2, x3, x4⟩ := k0.cell
  obtain ⟨y0, y1, y2, y3, y4⟩ := k0.ext
  have hne := Ext.some w1
  clear k0
  go_wp2_with fail
  refine wp_region_ext (by kernel_rfl) (by kernel_rfl) ?_
  repeat (first | go_big_quiet_step ((go_at_call 107; exact Calls.ext_of (bare_any _ _ _ _ _ _ _ _ _ _ hkl hll))) | quiet_step ((go_at_call 107; exact Calls.ext_of (bare_any _ _ _ _ _ _ _ _ _ _ hkl hll))))
  refine wpQuiet_nil ?_
  rintro _ ⟨n, rfl⟩
  clear y0 y1 y2 y3 y4
  go_wp2_with fail
  go_ret2
  refine ⟨_, by rw [hp.out]; rfl, fun _ => Or.inl ⟨by simp, rfl⟩, by rw [hp.out]; exact HR.out.below n.from_, HB.out.trans (But.of_below n.from_)⟩

set_option maxHeartbeats 2000000 in
theorem tree_k2 (d : Nat) (num : Int) (str : ByteArray) (keys : List ByteArray) (list : List (Tr d)) (left deep : Int) (rb : Nat) (ak al : Option Addr) (ck cl : Nat) (w : World)
    (hr : Room w rb left) (h0 : 0 ≤ left) (h1 : left ≤ 1000) (hb : takeB left deep = true) (hkl : keys.length < 17592186044416) (hll : list.length < 3518437208883) :
    Calls Tryz.prog 94 #[.pointer (some ⟨rb, 0, none⟩), .agg #[.int .i64 2, .int .i64 num, .string str, .slice ak keys.length ck, .slice al list.length cl], .int .i64 deep] w
      (TreeQ (d + 1) (Nd.mk 2 num str keys list) left deep rb w) := by
  have hp : Hid (treeP (d + 1) (Nd.mk 2 num str keys list) left deep = (bareB num str keys.length list.length, left - 1)) := by
    show (if takeB left deep = false then (false, left) else _) = _
    rw [hb]
    rfl
  have hA := below_alloc1 w (.cells #[.int .i64 2, .int .i64 num, .string str, .slice ak keys.length ck, .slice al list.length cl] 29)
  have k0 := Blk5.new w 29 (.int .i64 2) (.int .i64 num) (.string str) (.slice ak keys.length ck) (.slice al list.length cl)
  have hrN := hr.lt
  go_enter Tryz.func94, Tryz.ntmps94
  go_wp2_with fail
  refine (take_any rb left deep _ (hr.below hA) h0 h1).mono ?_
  rintro e w1 ⟨rfl, hr1, hb1, hsz1⟩
  have hl : leftTo left deep = left - 1 := by simp [leftTo, hb]
  have HR : Hid (Room w1 rb (left - 1)) := by rw [← hl]; exact hr1
  have HB : Hid (But rb w w1) := (But.of_below hA).trans hb1
  replace k0 := k0.but hb1 (by omega)
  clear hr1 hb1 hl hA hsz1
  rw [hb]
  obtain ⟨x0, x1, x2, x3, x4⟩ := k0.cell
  obtain ⟨y0, y1, y2, y3, y4⟩ := k0.ext
  have hne := Ext.some w1
  clear k0
  go_wp2_with fail
  refine wp_region_ext (by kernel_rfl) (by kernel_rfl) ?_
  repeat (first | go_big_quiet_step ((go_at_call 107; exact Calls.ext_of (bare_any _ _ _ _ _ _ _ _ _ _ hkl hll))) | quiet_step ((go_at_call 107; exact Calls.ext_of (bare_any _ _ _ _ _ _ _ _ _ _ hkl hll))))
  refine wpQuiet_nil ?_
  rintro _ ⟨n, rfl⟩
  clear y0 y1 y2 y3 y4
  go_wp2_with fail
  go_ret2
  refine ⟨_, by rw [hp.out]; rfl, fun _ => Or.inl ⟨by simp, rfl⟩, by rw [hp.out]; exact HR.out.below n.from_, HB.out.trans (But.of_below n.from_)⟩

set_option maxHeartbeats 2000000 in
theorem tree_num (d : Nat) (num : Int) (str : ByteArray) (keys : List ByteArray) (list : List (Tr d)) (left deep : Int) (rb : Nat) (ak al : Option Addr) (ck cl : Nat) (w : World)
    (hr : Room w rb left) (h0 : 0 ≤ left) (h1 : left ≤ 1000) (hb : takeB left deep = true) (hkl : keys.length < 17592186044416) (hll : list.length < 3518437208883) :
    Calls Tryz.prog 94 #[.pointer (some ⟨rb, 0, none⟩), .agg #[.int .i64 3, .int .i64 num, .string str, .slice ak keys.length ck, .slice al list.length cl], .int .i64 deep] w
      (TreeQ (d + 1) (Nd.mk 3 num str keys list) left deep rb w) := by
  have hp : Hid (treeP (d + 1) (Nd.mk 3 num str keys list) left deep = (decide (-1000000 ≤ num ∧ num ≤ 1000000) && bareB 0 str keys.length list.length, left - 1)) := by
    show (if takeB left deep = false then (false, left) else _) = _
    rw [hb]
    rfl
  have hA := below_alloc1 w (.cells #[.int .i64 3, .int .i64 num, .string str, .slice ak keys.length ck, .slice al list.length cl] 29)
  have k0 := Blk5.new w 29 (.int .i64 3) (.int .i64 num) (.string str) (.slice ak keys.length ck) (.slice al list.length cl)
  have hrN := hr.lt
  go_enter Tryz.func94, Tryz.ntmps94
  go_wp2_with fail
  refine (take_any rb left deep _ (hr.below hA) h0 h1).mono ?_
  rintro e w1 ⟨rfl, hr1, hb1, hsz1⟩
  have hl : leftTo left deep = left - 1 := by simp [leftTo, hb]
  have HR : Hid (Room w1 rb (left - 1)) := by rw [← hl]; exact hr1
  have HB : Hid (But rb w w1) := (But.of_below hA).trans hb1
  replace k0 := k0.but hb1 (by omega)
  clear hr1 hb1 hl hA hsz1
  rw [hb]
  obtain ⟨x0, x1, x2, x3, x4⟩ := k0.cell
  by_cases hnum : -1000000 ≤ num ∧ num ≤ 1000000
  · have hnd : decide (-1000000 ≤ num ∧ num ≤ 1000000) = true := decide_eq_true hnum
    clear hnum
    obtain ⟨y0, y1, y2, y3, y4⟩ := k0.ext
    have hne := Ext.some w1
    clear k0
    go_wp2_with fail
    refine wp_region_ext (by kernel_rfl) (by kernel_rfl) ?_
    repeat (first | go_big_quiet_step ((first | (go_at_call 108; exact Calls.ext_same (numOk_any _ _)) | (go_at_call 107; exact Calls.ext_of (bare_any _ _ _ _ _ _ _ _ _ _ hkl hll)))) | quiet_step ((first | (go_at_call 108; exact Calls.ext_same (numOk_any _ _)) | (go_at_call 107; exact Calls.ext_of (bare_any _ _ _ _ _ _ _ _ _ _ hkl hll)))))
    refine wpQuiet_nil ?_
    rintro _ ⟨n, rfl⟩
    clear y0 y1 y2 y3 y4
    go_wp2_with fail
    go_ret2
    refine ⟨_, by rw [hp.out, hnd]; rfl, fun _ => Or.inr (Or.inl ⟨rfl, rfl⟩), by rw [hp.out]; exact HR.out.below n.from_, HB.out.trans (But.of_below n.from_)⟩
  · have hnd : decide (-1000000 ≤ num ∧ num ≤ 1000000) = false := decide_eq_false hnum
    clear hnum
    obtain ⟨y0, y1, y2, y3, y4⟩ := k0.ext
    have hne := Ext.some w1
    clear k0
    go_wp2_with fail
    refine wp_region_ext (by kernel_rfl) (by kernel_rfl) ?_
    repeat (first | go_big_quiet_step ((first | (go_at_call 108; exact Calls.ext_same (numOk_any _ _)) | (go_at_call 107; exact Calls.ext_of (bare_any _ _ _ _ _ _ _ _ _ _ hkl hll)))) | quiet_step ((first | (go_at_call 108; exact Calls.ext_same (numOk_any _ _)) | (go_at_call 107; exact Calls.ext_of (bare_any _ _ _ _ _ _ _ _ _ _ hkl hll)))))
    refine wpQuiet_nil ?_
    rintro _ ⟨n, rfl⟩
    clear y0 y1 y2 y3 y4
    go_wp2_with fail
    go_ret2
    refine ⟨_, by rw [hp.out, hnd]; rfl, by rw [hp.out, hnd]; exact fun h => absurd h (by simp), by rw [hp.out]; exact HR.out.below n.from_, HB.out.trans (But.of_below n.from_)⟩

set_option maxHeartbeats 2000000 in
theorem tree_str (d : Nat) (num : Int) (str : ByteArray) (keys : List ByteArray) (list : List (Tr d)) (left deep : Int) (rb : Nat) (ak al : Option Addr) (ck cl : Nat) (w : World)
    (hr : Room w rb left) (h0 : 0 ≤ left) (h1 : left ≤ 1000) (hb : takeB left deep = true) (hkl : keys.length < 17592186044416) (hll : list.length < 3518437208883) (hstr : str.size < 281474976710656) :
    Calls Tryz.prog 94 #[.pointer (some ⟨rb, 0, none⟩), .agg #[.int .i64 4, .int .i64 num, .string str, .slice ak keys.length ck, .slice al list.length cl], .int .i64 deep] w
      (TreeQ (d + 1) (Nd.mk 4 num str keys list) left deep rb w) := by
  have hp : Hid (treeP (d + 1) (Nd.mk 4 num str keys list) left deep = (strOk str && bareB num ByteArray.empty keys.length list.length, left - 1)) := by
    show (if takeB left deep = false then (false, left) else _) = _
    rw [hb]
    rfl
  have hA := below_alloc1 w (.cells #[.int .i64 4, .int .i64 num, .string str, .slice ak keys.length ck, .slice al list.length cl] 29)
  have k0 := Blk5.new w 29 (.int .i64 4) (.int .i64 num) (.string str) (.slice ak keys.length ck) (.slice al list.length cl)
  have hrN := hr.lt
  go_enter Tryz.func94, Tryz.ntmps94
  go_wp2_with fail
  refine (take_any rb left deep _ (hr.below hA) h0 h1).mono ?_
  rintro e w1 ⟨rfl, hr1, hb1, hsz1⟩
  have hl : leftTo left deep = left - 1 := by simp [leftTo, hb]
  have HR : Hid (Room w1 rb (left - 1)) := by rw [← hl]; exact hr1
  have HB : Hid (But rb w w1) := (But.of_below hA).trans hb1
  replace k0 := k0.but hb1 (by omega)
  clear hr1 hb1 hl hA hsz1
  rw [hb]
  obtain ⟨x0, x1, x2, x3, x4⟩ := k0.cell
  cases hsk : strOk str with
  | true =>
    obtain ⟨y0, y1, y2, y3, y4⟩ := k0.ext
    have hne := Ext.some w1
    clear k0
    go_wp2_with fail
    refine wp_region_ext (by kernel_rfl) (by kernel_rfl) ?_
    repeat (first | go_big_quiet_step ((first | (go_at_call 109; exact Calls.ext_of (textOk_any _ _ hstr)) | (go_at_call 107; exact Calls.ext_of (bare_any _ _ _ _ _ _ _ _ _ _ hkl hll)))) | quiet_step ((first | (go_at_call 109; exact Calls.ext_of (textOk_any _ _ hstr)) | (go_at_call 107; exact Calls.ext_of (bare_any _ _ _ _ _ _ _ _ _ _ hkl hll)))))
    refine wpQuiet_nil ?_
    rintro _ ⟨n, rfl⟩
    clear y0 y1 y2 y3 y4
    go_wp2_with fail
    go_ret2
    refine ⟨_, by rw [hp.out, hsk]; rfl, fun _ => Or.inr (Or.inr (Or.inl ⟨rfl, rfl⟩)), by rw [hp.out]; exact HR.out.below n.from_, HB.out.trans (But.of_below n.from_)⟩
  | false =>
    obtain ⟨y0, y1, y2, y3, y4⟩ := k0.ext
    have hne := Ext.some w1
    clear k0
    go_wp2_with fail
    refine wp_region_ext (by kernel_rfl) (by kernel_rfl) ?_
    repeat (first | go_big_quiet_step ((first | (go_at_call 109; exact Calls.ext_of (textOk_any _ _ hstr)) | (go_at_call 107; exact Calls.ext_of (bare_any _ _ _ _ _ _ _ _ _ _ hkl hll)))) | quiet_step ((first | (go_at_call 109; exact Calls.ext_of (textOk_any _ _ hstr)) | (go_at_call 107; exact Calls.ext_of (bare_any _ _ _ _ _ _ _ _ _ _ hkl hll)))))
    refine wpQuiet_nil ?_
    rintro _ ⟨n, rfl⟩
    clear y0 y1 y2 y3 y4
    go_wp2_with fail
    go_ret2
    refine ⟨_, by rw [hp.out, hsk]; rfl, by rw [hp.out, hsk]; exact fun h => absurd h (by simp), by rw [hp.out]; exact HR.out.below n.from_, HB.out.trans (But.of_below n.from_)⟩

set_option maxHeartbeats 2000000 in
theorem tree_other (d : Nat) (kind : Int) (num : Int) (str : ByteArray) (keys : List ByteArray) (list : List (Tr d)) (left deep : Int) (rb : Nat) (ak al : Option Addr) (ck cl : Nat) (w : World)
    (hr : Room w rb left) (h0 : 0 ≤ left) (h1 : left ≤ 1000) (hb : takeB left deep = true) (hk : ¬ kind = 0 ∧ ¬ kind = 1 ∧ ¬ kind = 2 ∧ ¬ kind = 3 ∧ ¬ kind = 4 ∧ ¬ kind = 5 ∧ ¬ kind = 6) :
    Calls Tryz.prog 94 #[.pointer (some ⟨rb, 0, none⟩), .agg #[.int .i64 kind, .int .i64 num, .string str, .slice ak keys.length ck, .slice al list.length cl], .int .i64 deep] w
      (TreeQ (d + 1) (Nd.mk kind num str keys list) left deep rb w) := by
  obtain ⟨k_0, k_1, k_2, k_3, k_4, k_5, k_6⟩ := hk
  have hp : Hid (treeP (d + 1) (Nd.mk kind num str keys list) left deep = (false, left - 1)) := by
    show (if takeB left deep = false then (false, left) else _) = _
    rw [hb]
    show (if kind = 0 ∨ kind = 1 ∨ kind = 2 then _ else if kind = 3 then _ else if kind = 4 then _ else if kind = 5 then _ else if kind = 6 then _ else _) = _
    rw [if_neg (by omega), if_neg k_3, if_neg k_4, if_neg k_5, if_neg k_6]
  have hA := below_alloc1 w (.cells #[.int .i64 kind, .int .i64 num, .string str, .slice ak keys.length ck, .slice al list.length cl] 29)
  have k0 := Blk5.new w 29 (.int .i64 kind) (.int .i64 num) (.string str) (.slice ak keys.length ck) (.slice al list.length cl)
  have hrN := hr.lt
  go_enter Tryz.func94, Tryz.ntmps94
  go_wp2_with fail
  refine (take_any rb left deep _ (hr.below hA) h0 h1).mono ?_
  rintro e w1 ⟨rfl, hr1, hb1, hsz1⟩
  have hl : leftTo left deep = left - 1 := by simp [leftTo, hb]
  have HR : Hid (Room w1 rb (left - 1)) := by rw [← hl]; exact hr1
  have HB : Hid (But rb w w1) := (But.of_below hA).trans hb1
  replace k0 := k0.but hb1 (by omega)
  clear hr1 hb1 hl hA hsz1
  rw [hb]
  obtain ⟨x0, x1, x2, x3, x4⟩ := k0.cell
  have b0 : (kind == 0) = false := by simpa using k_0
  have b1 : (kind == 1) = false := by simpa using k_1
  have b2 : (kind == 2) = false := by simpa using k_2
  have b3 : (kind == 3) = false := by simpa using k_3
  have b4 : (kind == 4) = false := by simpa using k_4
  have b5 : (kind == 5) = false := by simpa using k_5
  have b6 : (kind == 6) = false := by simpa using k_6
  clear k0
  go_wp2_with fail
  go_ret2
  refine ⟨_, by rw [hp.out]; rfl, by rw [hp.out]; exact fun h => absurd h (by simp), by rw [hp.out]; exact HR.out, HB.out⟩
end Go.Proofs.YtilgbnnjecpneaaGreatDoor

/- (*room).tree: rows and maps; treeOf, ValOk of the program. -/
namespace Go.Proofs.YtilgbnnjecpneaaGreatDoor
open Go.RowKit Go.Deep

/-- The topmost list, or map, of one of the program's own trees lies in blocks that nothing in it lies in. -/
def TopOwn {d : Nat} (N : Nat) (w : World) (t : Nd (Tr d)) (u : Value) : Prop :=
  (t.kind = 5 → ∃ sv vs, u = .iface 80 (.agg #[sv]) ∧ TreesTo N w sv t.list t.list.length vs) ∧
  (t.kind = 6 → ∃ r es, u = .iface 120 (.agg #[.map (some r)]) ∧ N ≤ r ∧ r < w.heap.size ∧ w.heap[r]? = some (.map es t.keys.length) ∧ MapIs (TreeAt (fun b => N ≤ b ∧ b < w.heap.size ∧ b ≠ r) w d) es t.keys t.list)

/-- What is asked of tree, with what is topmost. -/
def TreeQO (d : Nat) (t : Nd (Tr d)) (left deep : Int) (rb : Nat) (w : World) (e : Ending) (w' : World) : Prop :=
  ∃ u, e = .returned (.tuple #[u, .bool (treeP (d + 1) t left deep).1]) ∧ ((treeP (d + 1) t left deep).1 = true → TreeAt (Fresh w w') w' (d + 1) t u ∧ TopOwn w.heap.size w' t u) ∧ Room w' rb (treeP (d + 1) t left deep).2 ∧ But rb w w'

theorem TreeQO.plain {d : Nat} {t : Nd (Tr d)} {left deep : Int} {rb : Nat} {w w' : World} {e : Ending} (h : TreeQO d t left deep rb w e w') : TreeQ (d + 1) t left deep rb w e w' := by
  obtain ⟨u, h1, h2, h3⟩ := h
  exact ⟨u, h1, fun k => (h2 k).1, h3⟩
theorem TreeQ.top {d : Nat} {t : Nd (Tr d)} {left deep : Int} {rb : Nat} {w w' : World} {e : Ending} (h : TreeQ (d + 1) t left deep rb w e w') (n5 : t.kind ≠ 5) (n6 : t.kind ≠ 6) : TreeQO d t left deep rb w e w' := by
  obtain ⟨u, h1, h2, h3⟩ := h
  exact ⟨u, h1, fun k => ⟨h2 k, fun h => absurd h n5, fun h => absurd h n6⟩, h3⟩

set_option maxHeartbeats 2000000 in
theorem tree_row (d : Nat) (H : TreeC d) (S : Nat → Prop) (num : Int) (str : ByteArray) (keys : List ByteArray) (list : List (Tr d)) (left deep : Int) (rb : Nat) (ak al : Option Addr) (ck cl : Nat) (w : World)
    (hr : Room w rb left) (h0 : 0 ≤ left) (h1 : left ≤ 1000) (g0 : 0 ≤ deep) (g1 : deep ≤ 999) (hb : takeB left deep = true) (hkl : keys.length < 17592186044416) (hl : RowAt S w (ValAt S w d) (.slice al list.length cl) list) (hS : Within S w) (hSr : ¬ S rb) :
    Calls Tryz.prog 94 #[.pointer (some ⟨rb, 0, none⟩), .agg #[.int .i64 5, .int .i64 num, .string str, .slice ak keys.length ck, .slice al list.length cl], .int .i64 deep] w
      (TreeQO d (Nd.mk 5 num str keys list) left deep rb w) := by
  have hp : Hid (treeP (d + 1) (Nd.mk 5 num str keys list) left deep = ((treesP (fun x l => treeP d x l (deep + 1)) list (left - 1)).1 && bareB num str keys.length 0, (treesP (fun x l => treeP d x l (deep + 1)) list (left - 1)).2)) := by
    show (if takeB left deep = false then (false, left) else _) = _
    rw [hb]
    rfl
  have hllt : list.length < 17592186044416 := by obtain ⟨_, _, _, h⟩ := hl.open'; omega
  have hA := below_alloc1 w (.cells #[.int .i64 5, .int .i64 num, .string str, .slice ak keys.length ck, .slice al list.length cl] 29)
  have k0 := Blk5.new w 29 (.int .i64 5) (.int .i64 num) (.string str) (.slice ak keys.length ck) (.slice al list.length cl)
  have hrN := hr.lt
  have hlp := takeB_pos hb h0
  go_enter Tryz.func94, Tryz.ntmps94
  go_wp2_with fail
  refine (take_any rb left deep _ (hr.below hA) h0 h1).mono ?_
  rintro e w1 ⟨rfl, hr1, hb1, hsz1⟩
  have hle : leftTo left deep = left - 1 := by simp [leftTo, hb]
  have HR : Hid (Room w1 rb (left - 1)) := by rw [← hle]; exact hr1
  have HB : Hid (But rb w w1) := (But.of_below hA).trans hb1
  replace k0 := k0.but hb1 (by omega)
  clear hr1 hb1 hle hA hsz1
  rw [hb]
  obtain ⟨x0, x1, x2, x3, x4⟩ := k0.cell
  go_wp2_with fail
  refine (trees_own d H S list _ (left - 1) (deep + 1) rb w1 (hl.same (HB.out.same hS hSr)) (hS.later HB.out.size) hSr HR.out (by omega) (by omega) (by omega) (by omega)).mono ?_
  rintro e w2 ⟨sa, sn, sc, rfl, htr, hroom2, hbut2⟩
  have HR2 : Hid (Room w2 rb (treesP (fun x l => treeP d x l (deep + 1)) list (left - 1)).2) := hroom2
  have HB2 : Hid (But rb w w2) := HB.out.trans hbut2
  have HT : Hid _ := htr
  have hsw : w.heap.size ≤ w1.heap.size := HB.out.size
  replace k0 := k0.but hbut2 (by omega)
  clear hroom2 hbut2 htr x0 x1 x2 x3 x4 HR HB hl
  obtain ⟨x0, x1, x2, x3, x4⟩ := k0.cell
  clear k0
  generalize hg : treesP (fun x l => treeP d x l (deep + 1)) list (left - 1) = R at *
  clear hg
  obtain ⟨ok, l2⟩ := R
  cases ok with
  | false =>
    go_wp2_with fail
    go_ret2
    refine ⟨_, by rw [hp.out]; rfl, by rw [hp.out]; exact fun h => absurd h (by simp), by rw [hp.out]; exact HR2.out, HB2.out⟩
  | true =>
    go_wp2_with fail
    refine (bare_any 0 num str keys.length 0 ak none ck 0 _ hkl (by omega)).mono ?_
    rintro e w3 ⟨rfl, hb3⟩
    have HB3 : Hid _ := hb3
    clear hb3 x0 x1 x2 x3 x4
    go_wp2_with fail
    go_ret2
    obtain ⟨vs, hvs⟩ := HT.out (by first | rfl | trivial)
    have hrow := hvs.done (w := w1) rfl hllt
    refine ⟨_, by rw [hp.out]; rfl, fun _ => ⟨Or.inr (Or.inr (Or.inr (Or.inl ⟨rfl, _, rfl, ?_⟩))), fun _ => ⟨_, vs, rfl, hvs.moved HB3.out hsw⟩, fun h => absurd h (show ¬ ((5 : Int) = 6) by decide)⟩, by rw [hp.out]; exact HR2.out.below HB3.out, HB2.out.trans (But.of_below HB3.out)⟩
    have hsm := HB3.out.size
    have hin : ∀ b, Fresh w1 w2 b → Fresh w w3 b := fun b hb => ⟨by have := hb.1; omega, by have := hb.2; omega⟩
    have hsame : Same (Fresh w1 w2) w2 w3 := fun b hb => HB3.out.block b hb.2
    exact hrow.moved hsame hin (fun x u hx => TreeAt.moved hsame hin d x u hx)

set_option maxHeartbeats 2000000 in
theorem tree_map (d : Nat) (H : TreeC d) (S : Nat → Prop) (num : Int) (str : ByteArray) (keys : List ByteArray) (list : List (Tr d)) (left deep : Int) (rb : Nat) (ak al : Option Addr) (ck cl : Nat) (w : World)
    (hr : Room w rb left) (h0 : 0 ≤ left) (h1 : left ≤ 1000) (g0 : 0 ≤ deep) (g1 : deep ≤ 999) (hb : takeB left deep = true) (hk : StrsAt S w (.slice ak keys.length ck) keys) (hl : RowAt S w (ValAt S w d) (.slice al list.length cl) list) (hS : Within S w) (hSr : ¬ S rb) :
    Calls Tryz.prog 94 #[.pointer (some ⟨rb, 0, none⟩), .agg #[.int .i64 6, .int .i64 num, .string str, .slice ak keys.length ck, .slice al list.length cl], .int .i64 deep] w
      (TreeQO d (Nd.mk 6 num str keys list) left deep rb w) := by
  have hp : Hid (treeP (d + 1) (Nd.mk 6 num str keys list) left deep = ((treesP (fun x l => treeP d x l (deep + 1)) list (left - 1)).1 && (keys.length == list.length) && keysB keys && bareB num str 0 0, (treesP (fun x l => treeP d x l (deep + 1)) list (left - 1)).2)) := by
    show (if takeB left deep = false then (false, left) else _) = _
    rw [hb]
    rfl
  have hA := below_alloc1 w (.cells #[.int .i64 6, .int .i64 num, .string str, .slice ak keys.length ck, .slice al list.length cl] 29)
  have k0 := Blk5.new w 29 (.int .i64 6) (.int .i64 num) (.string str) (.slice ak keys.length ck) (.slice al list.length cl)
  have hrN := hr.lt
  have hlp := takeB_pos hb h0
  go_enter Tryz.func94, Tryz.ntmps94
  go_wp2_with fail
  refine (take_any rb left deep _ (hr.below hA) h0 h1).mono ?_
  rintro e w1 ⟨rfl, hr1, hb1, hsz1⟩
  have hle : leftTo left deep = left - 1 := by simp [leftTo, hb]
  have HR : Hid (Room w1 rb (left - 1)) := by rw [← hle]; exact hr1
  have HB : Hid (But rb w w1) := (But.of_below hA).trans hb1
  replace k0 := k0.but hb1 (by omega)
  clear hr1 hb1 hle hA hsz1
  rw [hb]
  obtain ⟨x0, x1, x2, x3, x4⟩ := k0.cell
  go_wp2_with fail
  refine (trees_any d H S list _ (left - 1) (deep + 1) rb w1 (hl.same (HB.out.same hS hSr)) (hS.later HB.out.size) hSr HR.out (by omega) (by omega) (by omega) (by omega)).mono ?_
  rintro e w2 ⟨sa, sn, sc, rfl, htr, hroom2, hbut2⟩
  have HR2 : Hid (Room w2 rb (treesP (fun x l => treeP d x l (deep + 1)) list (left - 1)).2) := hroom2
  have HB2 : Hid (But rb w w2) := HB.out.trans hbut2
  have HT : Hid _ := htr
  have hsw : w.heap.size ≤ w1.heap.size := HB.out.size
  have hsw2 : w1.heap.size ≤ w2.heap.size := hbut2.size
  replace k0 := k0.but hbut2 (by omega)
  clear hroom2 hbut2 htr x0 x1 x2 x3 x4 HR HB hl
  obtain ⟨x0, x1, x2, x3, x4⟩ := k0.cell
  generalize hg : treesP (fun x l => treeP d x l (deep + 1)) list (left - 1) = R at *
  clear hg
  obtain ⟨ok, l2⟩ := R
  cases ok with
  | false =>
    clear k0
    go_wp2_with fail
    go_ret2
    refine ⟨_, by rw [hp.out]; rfl, by rw [hp.out]; exact fun h => absurd h (by simp), by rw [hp.out]; exact HR2.out, HB2.out⟩
  | true =>
  have hrow : Row1At (Fresh w1 w2) w2 (TreeAt (Fresh w1 w2) w2 d) (.slice sa sn sc) list := HT.out (by first | rfl | trivial)
  obtain ⟨qa, qc, hq, _⟩ := hrow.open'
  cases hq
  clear HT
  cases hql : (keys.length == list.length) with
  | false =>
    have hq2 : ((keys.length : Int) != (list.length : Int)) = true := by
      rw [bne_iff_ne]
      have := beq_eq_false_iff_ne.1 hql
      omega
    have hp2 : Hid (treeP (d + 1) (Nd.mk 6 num str keys list) left deep = (false, l2)) := by
      show treeP (d + 1) (Nd.mk 6 num str keys list) left deep = _
      rw [hp.out, hql]
      rfl
    clear k0 hrow hql hp
    go_wp2_with fail
    go_ret2
    refine ⟨_, by rw [hp2.out]; rfl, by rw [hp2.out]; exact fun h => absurd h (by simp), by rw [hp2.out]; exact HR2.out, HB2.out⟩
  | true =>
  have hq2 : ((keys.length : Int) != (list.length : Int)) = false := by
    rw [bne_eq_false_iff_eq]
    have := beq_iff_eq.1 hql
    omega
  have HQ : Hid (keys.length = list.length) := beq_iff_eq.1 hql
  have hp2 : Hid (treeP (d + 1) (Nd.mk 6 num str keys list) left deep = (keysB keys && bareB num str 0 0, l2)) := by
    show treeP (d + 1) (Nd.mk 6 num str keys list) left deep = _
    rw [hp.out, hql]
    rfl
  have HROW : Hid (Row1At (Fresh w1 w2) w2 (TreeAt (Fresh w1 w2) w2 d) (.slice sa list.length sc) list) := hrow
  clear hrow hql hp
  go_wp2_with fail
  have hk2 := hk.same (HB2.out.same hS hSr)
  refine (keysOk_any S keys _ _ hk2 (hS.later HB2.out.size)).mono ?_
  rintro e w3 ⟨rfl, hb3⟩
  have HB3 : Hid _ := hb3
  replace k0 := k0.below hb3
  have hk3 := hk2.same ((hS.later HB2.out.size).same hb3)
  have hS3 := (hS.later HB2.out.size).later hb3.size
  clear hb3 hk2 hk x0 x1 x2 x3 x4
  cases hkb : keysB keys with
  | false =>
    clear k0 hk3
    go_wp2_with fail
    go_ret2
    refine ⟨_, by rw [hp2.out, hkb]; rfl, by rw [hp2.out, hkb]; exact fun h => absurd h (by simp), by rw [hp2.out]; exact HR2.out.below HB3.out, HB2.out.trans (But.of_below HB3.out)⟩
  | true =>
  obtain ⟨x0, x1, x2, x3, x4⟩ := k0.cell
  have hrow3 : Row1At (Fresh w1 w2) w3 (TreeAt (Fresh w1 w2) w3 d) (.slice sa list.length sc) list :=
    HROW.out.moved (fun b hb => HB3.out.block b hb.2) (fun _ h => h) (fun x u hx => TreeAt.moved (fun b hb => HB3.out.block b hb.2) (fun _ h => h) d x u hx)
  have hS4 : Within (Fresh w1 w2) w3 := fun b hb => Nat.lt_of_lt_of_le hb.2 HB3.out.size
  have hN3 : w.heap.size < w3.heap.size := k0.lt
  clear x0 x4
  go_wp2_with fail
  go_region_held (fun w' => w'.cell? ⟨w.heap.size, 1, none⟩ = some (.int .i64 num) ∧ w'.cell? ⟨w.heap.size, 2, none⟩ = some (.string str) ∧ w'.cell? ⟨w.heap.size, 3, none⟩ = some (.slice ak keys.length ck))
    (first | go_keep | exact ⟨k4.cell.2.1, k4.cell.2.2.1, k4.cell.2.2.2.1⟩ | exact ⟨k5.cell.2.1, k5.cell.2.2.1, k5.cell.2.2.2.1⟩)
    (first
      | (go_at_call 112; refine (mapTreeOf_any S (Fresh w1 w2) (TreeAt (Fresh w1 w2) w3 d) keys list _ _ _ ?_ ?_ ?_ ?_ ?_ ?_).mono ?_; exact hk3.same (fun _ _ => rfl); exact hrow3.moved (fun _ _ => rfl) (fun _ h => h) (fun _ _ h => h); exact hS3; exact hS4; exact HQ.out; exact hkb; rintro e w4 ⟨es, rfl, hobj, hmap, hb4⟩; have k4 := k0.of_block (hb4.block _ hN3))
      | (go_at_call 107; refine (bare_any 0 num str 0 0 none none 0 0 _ (by omega) (by omega)).mono ?_; rintro e w5 ⟨rfl, hb5⟩; have k5 := k4.of_block (hb5.block _ k4.lt)))
  have hz5 : w3.heap.size < w4.heap.size := (Array.getElem?_eq_some_iff.1 hobj).1
  have hs5 := hb5.size
  have hsm3 := HB3.out.size
  have hsame : Same (Fresh w1 w2) w3 w5 := fun b hb => (hb5.block b (by have := hb.2; omega)).trans (hb4.block b (by have := hb.2; show b < w3.heap.size; omega))
  have hin : ∀ b, Fresh w1 w2 b → Fresh w w5 b := fun b hb => ⟨by have := hb.1; omega, by have := hb.2; omega⟩
  have HM : Hid (w5.heap[w3.heap.size]? = some (.map es keys.length) ∧ MapIs (TreeAt (Fresh w w5) w5 d) es keys list) :=
    ⟨(hb5.block _ hz5).trans hobj, hmap.moved (fun x u hx => TreeAt.moved hsame hin d x u hx)⟩
  have HM2 : Hid (MapIs (TreeAt (fun b => w.heap.size ≤ b ∧ b < w5.heap.size ∧ b ≠ w3.heap.size) w5 d) es keys list) :=
    hmap.moved (fun x u hx => TreeAt.moved hsame (fun b hb => ⟨(hin b hb).1, (hin b hb).2, by have := hb.2; omega⟩) d x u hx)
  have HB5 : Hid (Below w3.heap.size w3 w5) := ⟨hb5.os.trans hb4.os, hb5.tape.trans hb4.tape, hb5.output.trans hb4.output, by omega, fun k hk => (hb5.block k (by omega)).trans (hb4.block k hk)⟩
  clear hobj hmap hb4 hb5 k4 k5 hsame hin x1 x2 x3 hrow3 hk3 k0
  go_wp2_with fail
  go_ret2
  have hB : Below w2.heap.size w2 w5 := below_trans HB3.out HB5.out
  refine ⟨_, by rw [hp2.out, hkb]; rfl, fun _ => ⟨Or.inr (Or.inr (Or.inr (Or.inr ⟨rfl, _, es, rfl, ⟨by show w.heap.size ≤ w3.heap.size; omega, by show w3.heap.size < w5.heap.size; omega⟩, HM.out.1, HM.out.2⟩))), fun h => absurd h (show ¬ ((6 : Int) = 5) by decide), fun _ => ⟨_, es, rfl, by omega, by omega, HM.out.1, HM2.out⟩⟩, by rw [hp2.out]; exact HR2.out.below hB, HB2.out.trans (But.of_below hB)⟩

theorem tree_any : ∀ (d : Nat), TreeC d
  | 0 => fun _ _ _ _ _ _ _ h => h.elim
  | d + 1 => by
    intro S t v left deep rb w hv hS hSr hr h0 h1 g0 g1
    have ih := tree_any d
    obtain ⟨kind, num, str, keys, list⟩ := t
    obtain ⟨vk, vl, rfl, i1, i2, i3, hk, hl⟩ := hv
    obtain ⟨ak, ck, rfl, hkl⟩ := hk.open'
    obtain ⟨al, cl, rfl, hll⟩ := hl.open'
    cases hb : takeB left deep with
    | false => exact tree_full d kind num str keys list left deep rb ak al ck cl w hr h0 h1 hb
    | true =>
      have hd6 : deep ≤ 6 := by simp [takeB] at hb; omega
      by_cases k0 : kind = 0
      · subst k0; exact tree_k0 d num str keys list left deep rb ak al ck cl w hr h0 h1 hb hkl hll
      by_cases k1 : kind = 1
      · subst k1; exact tree_k1 d num str keys list left deep rb ak al ck cl w hr h0 h1 hb hkl hll
      by_cases k2 : kind = 2
      · subst k2; exact tree_k2 d num str keys list left deep rb ak al ck cl w hr h0 h1 hb hkl hll
      by_cases k3 : kind = 3
      · subst k3; exact tree_num d num str keys list left deep rb ak al ck cl w hr h0 h1 hb hkl hll
      by_cases k4 : kind = 4
      · subst k4; exact tree_str d num str keys list left deep rb ak al ck cl w hr h0 h1 hb hkl hll i3
      by_cases k5 : kind = 5
      · subst k5; exact (tree_row d ih S num str keys list left deep rb ak al ck cl w hr h0 h1 g0 (by omega) hb hkl hl hS hSr).mono fun _ _ h => h.plain
      by_cases k6 : kind = 6
      · subst k6; exact (tree_map d ih S num str keys list left deep rb ak al ck cl w hr h0 h1 g0 (by omega) hb hk hl hS hSr).mono fun _ _ h => h.plain
      exact tree_other d kind num str keys list left deep rb ak al ck cl w hr h0 h1 hb ⟨k0, k1, k2, k3, k4, k5, k6⟩

theorem tree_own (d : Nat) (S : Nat → Prop) (t : Nd (Tr d)) (v : Value) (left deep : Int) (rb : Nat) (w : World) (hv : ValAt S w (d + 1) t v) (hS : Within S w) (hSr : ¬ S rb) (hr : Room w rb left) (h0 : 0 ≤ left) (h1 : left ≤ 1000) (g0 : 0 ≤ deep) (g1 : deep ≤ 1000) :
    Calls Tryz.prog 94 #[.pointer (some ⟨rb, 0, none⟩), v, .int .i64 deep] w (TreeQO d t left deep rb w) := by
  have ih := tree_any d
  obtain ⟨kind, num, str, keys, list⟩ := t
  obtain ⟨vk, vl, rfl, i1, i2, i3, hk, hl⟩ := hv
  obtain ⟨ak, ck, rfl, hkl⟩ := hk.open'
  obtain ⟨al, cl, rfl, hll⟩ := hl.open'
  cases hb : takeB left deep with
  | false => exact (tree_full d kind num str keys list left deep rb ak al ck cl w hr h0 h1 hb).mono fun _ _ h => by obtain ⟨u, e1, e2, e3⟩ := h; exact ⟨u, e1, fun k => absurd k (by show ¬ ((if takeB left deep = false then (false, left) else _ : Bool × Int).1 = true); rw [hb]; simp), e3⟩
  | true =>
    have hd6 : deep ≤ 6 := by simp [takeB] at hb; omega
    by_cases k0 : kind = 0
    · subst k0; exact (tree_k0 d num str keys list left deep rb ak al ck cl w hr h0 h1 hb hkl hll).mono fun _ _ h => h.top (show ¬ ((0 : Int) = 5) by decide) (show ¬ ((0 : Int) = 6) by decide)
    by_cases k1 : kind = 1
    · subst k1; exact (tree_k1 d num str keys list left deep rb ak al ck cl w hr h0 h1 hb hkl hll).mono fun _ _ h => h.top (show ¬ ((1 : Int) = 5) by decide) (show ¬ ((1 : Int) = 6) by decide)
    by_cases k2 : kind = 2
    · subst k2; exact (tree_k2 d num str keys list left deep rb ak al ck cl w hr h0 h1 hb hkl hll).mono fun _ _ h => h.top (show ¬ ((2 : Int) = 5) by decide) (show ¬ ((2 : Int) = 6) by decide)
    by_cases k3 : kind = 3
    · subst k3; exact (tree_num d num str keys list left deep rb ak al ck cl w hr h0 h1 hb hkl hll).mono fun _ _ h => h.top (show ¬ ((3 : Int) = 5) by decide) (show ¬ ((3 : Int) = 6) by decide)
    by_cases k4 : kind = 4
    · subst k4; exact (tree_str d num str keys list left deep rb ak al ck cl w hr h0 h1 hb hkl hll i3).mono fun _ _ h => h.top (show ¬ ((4 : Int) = 5) by decide) (show ¬ ((4 : Int) = 6) by decide)
    by_cases k5 : kind = 5
    · subst k5; exact tree_row d ih S num str keys list left deep rb ak al ck cl w hr h0 h1 g0 (by omega) hb hkl hl hS hSr
    by_cases k6 : kind = 6
    · subst k6; exact tree_map d ih S num str keys list left deep rb ak al ck cl w hr h0 h1 g0 (by omega) hb hk hl hS hSr
    exact (tree_other d kind num str keys list left deep rb ak al ck cl w hr h0 h1 hb ⟨k0, k1, k2, k3, k4, k5, k6⟩).mono fun _ _ h => h.top k5 k6

set_option maxHeartbeats 1000000 in
theorem treeOf_any (d : Nat) (S : Nat → Prop) (t : Tr d) (v : Value) (w : World) (hv : ValAt S w d t v) (hS : Within S w) :
    Calls Tryz.prog 77 #[v] w fun e w' => ∃ u, e = .returned (.tuple #[u, .bool (treeP d t 60 1).1]) ∧ ((treeP d t 60 1).1 = true → TreeAt (Fresh w w') w' d t u) ∧ Below w.heap.size w w' := by
  obtain ⟨k, n, s, ak, lk, ck, al, ll, cl, rfl⟩ := hv.shape
  have hA : Below w.heap.size w ((w.alloc (.cells #[.int .i64 k, .int .i64 n, .string s, .slice ak lk ck, .slice al ll cl] 29)).alloc (.cells #[.int .i64 60] 136)) := below_trans (below_alloc1 _ _) (below_alloc1 _ _)
  have hr : Room ((w.alloc (.cells #[.int .i64 k, .int .i64 n, .string s, .slice ak lk ck, .slice al ll cl] 29)).alloc (.cells #[.int .i64 60] 136)) (w.heap.size + 1) 60 := by
    have := heap_alloc_new (w.alloc (.cells #[.int .i64 k, .int .i64 n, .string s, .slice ak lk ck, .slice al ll cl] 29)) (.cells #[.int .i64 60] 136)
    simpa [Room] using this
  go_enter Tryz.func77, Tryz.ntmps77
  go_wp2_with fail
  refine (tree_any d S t _ 60 1 (w.heap.size + 1) _ (hv.same (hS.same hA)) (hS.later hA.size) (fun h => by have := hS _ h; omega) hr (by omega) (by omega) (by omega) (by omega)).mono ?_
  rintro e w1 ⟨u, rfl, hu, _, hb1⟩
  have HB : Hid (Below w.heap.size w w1) := by
    refine ⟨hb1.os.trans hA.os, hb1.tape.trans hA.tape, hb1.output.trans hA.output, Nat.le_trans hA.size hb1.size, fun i hi => ?_⟩
    exact (hb1.block i (Nat.lt_of_lt_of_le hi hA.size) (fun e => by cases e; omega)).trans (hA.block i hi)
  have hin : ∀ b, Fresh ((w.alloc (.cells #[.int .i64 k, .int .i64 n, .string s, .slice ak lk ck, .slice al ll cl] 29)).alloc (.cells #[.int .i64 60] 136)) w1 b → Fresh w w1 b := fun b hb => ⟨Nat.le_trans hA.size hb.1, hb.2⟩
  have HU : Hid ((treeP d t 60 1).1 = true → TreeAt (Fresh w w1) w1 d t u) := fun h => TreeAt.moved (Same.refl _ _) hin d t u (hu h)
  clear hu hb1 hr hA hv hin
  go_wp2_with fail
  go_ret2
  exact ⟨u, rfl, HU.out, HB.out⟩

end Go.Proofs.YtilgbnnjecpneaaGreatDoor
