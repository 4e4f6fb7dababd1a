/- Texts of the proof, put together by program: WImplD. -/
import Derived.Test.YthbpfiandjggcaaV7
/- (*room).tree, treeOf, ValOk of the program. -/
namespace Go.Proofs.Ythbpfiandjggcaa
open Go.RowKit Go.Deep

/-- What (*room).tree is asked to give. -/
def TreeQ (d : Nat) (t : Tr d) (left deep : Int) (rb : Nat) (w : World) (e : Ending) (w' : World) : Prop :=
  ∃ u, e = .returned (.tuple #[u, .bool (treeP d t left deep).1]) ∧ ((treeP d t left deep).1 = true → TreeAt (Fresh w w') w' d t u) ∧ Room w' rb (treeP d t left deep).2 ∧ But rb w w'

theorem Blk5.but {w w' : World} {b rb : Nat} {T : TypeId} {c0 c1 c2 c3 c4 : Value} (h : Blk5 w b T c0 c1 c2 c3 c4) (e : But rb w w') (hn : b ≠ rb) : Blk5 w' b T c0 c1 c2 c3 c4 :=
  h.of_block (e.block b h.lt (fun q => by cases q; exact hn rfl))
theorem Blk5.ext {W : World} {b : Nat} {T : TypeId} {c0 c1 c2 c3 c4 : Value} (h : Blk5 W b T c0 c1 c2 c3 c4) :
    (∀ n : Ext W, n.now.cell? ⟨b, 0, none⟩ = some c0) ∧ (∀ n : Ext W, n.now.cell? ⟨b, 1, none⟩ = some c1) ∧ (∀ n : Ext W, n.now.cell? ⟨b, 2, none⟩ = some c2) ∧ (∀ n : Ext W, n.now.cell? ⟨b, 3, none⟩ = some c3) ∧ (∀ n : Ext W, n.now.cell? ⟨b, 4, none⟩ = some c4) :=
  ⟨fun n => (h.below n.from_).cell.1, fun n => (h.below n.from_).cell.2.1, fun n => (h.below n.from_).cell.2.2.1, fun n => (h.below n.from_).cell.2.2.2.1, fun n => (h.below n.from_).cell.2.2.2.2⟩

set_option maxHeartbeats 2000000 in
theorem tree_full (d : Nat) (kind num : Int) (str : ByteArray) (keys : List ByteArray) (list : List (Tr d)) (left deep : Int) (rb : Nat) (ak al : Option Addr) (ck cl : Nat) (w : World)
    (hr : Room w rb left) (h0 : 0 ≤ left) (h1 : left ≤ 1000) (hb : takeB left deep = false) :
    Calls Try.prog 41 #[.pointer (some ⟨rb, 0, none⟩), .agg #[.int .i64 kind, .int .i64 num, .string str, .slice ak keys.length ck, .slice al list.length cl], .int .i64 deep] w
      (TreeQ (d + 1) (Nd.mk kind num str keys list) left deep rb w) := by
  have hp : Hid (treeP (d + 1) (Nd.mk kind num str keys list) left deep = (false, left)) := if_pos hb
  have hA := below_alloc1 w (.cells #[.int .i64 kind, .int .i64 num, .string str, .slice ak keys.length ck, .slice al list.length cl] 26)
  go_enter Try.func41, Try.ntmps41
  go_wp2_with fail
  refine (take_any rb left deep _ (hr.below hA) h0 h1).mono ?_
  rintro e w1 ⟨rfl, hr1, hb1, _⟩
  have hl : leftTo left deep = left := by simp [leftTo, hb]
  have HR : Hid (Room w1 rb left) := by rw [← hl]; exact hr1
  have HB : Hid (But rb w w1) := (But.of_below hA).trans hb1
  clear hr1 hb1 hl hA
  rw [hb]
  go_wp2_with fail
  go_ret2
  refine ⟨.nilIface, ?_, ?_, ?_, HB.out⟩
  · rw [hp.out]; rfl
  · rw [hp.out]; exact fun h => absurd h (by simp)
  · rw [hp.out]; exact HR.out

set_option maxHeartbeats 2000000 in
theorem tree_k0 (d : Nat) (num : Int) (str : ByteArray) (keys : List ByteArray) (list : List (Tr d)) (left deep : Int) (rb : Nat) (ak al : Option Addr) (ck cl : Nat) (w : World)
    (hr : Room w rb left) (h0 : 0 ≤ left) (h1 : left ≤ 1000) (hb : takeB left deep = true) (hkl : keys.length < 17592186044416) (hll : list.length < 3518437208883) :
    Calls Try.prog 41 #[.pointer (some ⟨rb, 0, none⟩), .agg #[.int .i64 0, .int .i64 num, .string str, .slice ak keys.length ck, .slice al list.length cl], .int .i64 deep] w
      (TreeQ (d + 1) (Nd.mk 0 num str keys list) left deep rb w) := by
  have hp : Hid (treeP (d + 1) (Nd.mk 0 num str keys list) left deep = (bareB num str keys.length list.length, left - 1)) := by
    show (if takeB left deep = false then (false, left) else _) = _
    rw [hb]
    rfl
  have hA := below_alloc1 w (.cells #[.int .i64 0, .int .i64 num, .string str, .slice ak keys.length ck, .slice al list.length cl] 26)
  have k0 := Blk5.new w 26 (.int .i64 0) (.int .i64 num) (.string str) (.slice ak keys.length ck) (.slice al list.length cl)
  have hrN := hr.lt
  go_enter Try.func41, Try.ntmps41
  go_wp2_with fail
  refine (take_any rb left deep _ (hr.below hA) h0 h1).mono ?_
  rintro e w1 ⟨rfl, hr1, hb1, hsz1⟩
  have hl : leftTo left deep = left - 1 := by simp [leftTo, hb]
  have HR : Hid (Room w1 rb (left - 1)) := by rw [← hl]; exact hr1
  have HB : Hid (But rb w w1) := (But.of_below hA).trans hb1
  replace k0 := k0.but hb1 (by omega)
  clear hr1 hb1 hl hA hsz1
  rw [hb]
  obtain ⟨x0, x1, x2, x3, x4⟩ := k0.cell
  obtain ⟨y0, y1, y2, y3, y4⟩ := k0.ext
  have hne := Ext.some w1
  clear k0
  go_wp2_with fail
  refine wp_region_ext (by kernel_rfl) (by kernel_rfl) ?_
  repeat (first | go_big_quiet_step ((go_at_call 48; exact Calls.ext_of (bare_any _ _ _ _ _ _ _ _ _ _ hkl hll))) | quiet_step ((go_at_call 48; exact Calls.ext_of (bare_any _ _ _ _ _ _ _ _ _ _ hkl hll))))
  refine wpQuiet_nil ?_
  rintro _ ⟨n, rfl⟩
  clear y0 y1 y2 y3 y4
  go_wp2_with fail
  go_ret2
  refine ⟨_, by rw [hp.out]; rfl, fun _ => Or.inl ⟨by simp, rfl⟩, by rw [hp.out]; exact HR.out.below n.from_, HB.out.trans (But.of_below n.from_)⟩

set_option maxHeartbeats 2000000 in
theorem tree_k1 (d : Nat) (num : Int) (str : ByteArray) (keys : List ByteArray) (list : List (Tr d)) (left deep : Int) (rb : Nat) (ak al : Option Addr) (ck cl : Nat) (w : World)
    (hr : Room w rb left) (h0 : 0 ≤ left) (h1 : left ≤ 1000) (hb : takeB left deep = true) (hkl : keys.length < 17592186044416) (hll : list.length < 3518437208883) :
    Calls Try.prog 41 #[.pointer (some ⟨rb, 0, none⟩), .agg #[.int .i64 1, .int .i64 num, .string str, .slice ak keys.length ck, .slice al list.length cl], .int .i64 deep] w
      (TreeQ (d + 1) (Nd.mk 1 num str keys list) left deep rb w) := by
  have hp : Hid (treeP (d + 1) (Nd.mk 1 num str keys list) left deep = (bareB num str keys.length list.length, left - 1)) := by
    show (if takeB left deep = false then (false, left) else _) = _
    rw [hb]
    rfl
  have hA := below_alloc1 w (.cells #[.int .i64 1, .int .i64 num, .string str, .slice ak keys.length ck, .slice al list.length cl] 26)
  have k0 := Blk5.new w 26 (.int .i64 1) (.int .i64 num) (.string str) (.slice ak keys.length ck) (.slice al list.length cl)
  have hrN := hr.lt
  go_enter Try.func41, Try.ntmps41
  go_wp2_with fail
  refine (take_any rb left deep _ (hr.below hA) h0 h1).mono ?_
  rintro e w1 ⟨rfl, hr1, hb1, hsz1⟩
  have hl : leftTo left deep = left - 1 := by simp [leftTo, hb]
  have HR : Hid (Room w1 rb (left - 1)) := by rw [← hl]; exact hr1
  have HB : Hid (But rb w w1) := (But.of_below hA).trans hb1
  replace k0 := k0.but hb1 (by omega)
  clear hr1 hb1 hl hA hsz1
  rw [hb]
  obtain ⟨x0, x1, x2, x3, x4⟩ := k0.cell
  obtain ⟨y0, y1, y2, y3, y4⟩ := k0.ext
  have hne := Ext.some w1
  clear k0
  go_wp2_with fail
  refine wp_region_ext (by kernel_rfl) (by kernel_rfl) ?_
  repeat (first | go_big_quiet_step ((go_at_call 48; exact Calls.ext_of (bare_any _ _ _ _ _ _ _ _ _ _ hkl hll))) | quiet_step ((go_at_call 48; exact Calls.ext_of (bare_any _ _ _ _ _ _ _ _ _ _ hkl hll))))
  refine wpQuiet_nil ?_
  rintro _ ⟨n, rfl⟩
  clear y0 y1 y2 y3 y4
  go_wp2_with fail
  go_ret2
  refine ⟨_, by rw [hp.out]; rfl, fun _ => Or.inl ⟨by simp, rfl⟩, by rw [hp.out]; exact HR.out.below n.from_, HB.out.trans (But.of_below n.from_)⟩

set_option maxHeartbeats 2000000 in
theorem tree_k2 (d : Nat) (num : Int) (str : ByteArray) (keys : List ByteArray) (list : List (Tr d)) (left deep : Int) (rb : Nat) (ak al : Option Addr) (ck cl : Nat) (w : World)
    (hr : Room w rb left) (h0 : 0 ≤ left) (h1 : left ≤ 1000) (hb : takeB left deep = true) (hkl : keys.length < 17592186044416) (hll : list.length < 3518437208883) :
    Calls Try.prog 41 #[.pointer (some ⟨rb, 0, none⟩), .agg #[.int .i64 2, .int .i64 num, .string str, .slice ak keys.length ck, .slice al list.length cl], .int .i64 deep] w
      (TreeQ (d + 1) (Nd.mk 2 num str keys list) left deep rb w) := by
  have hp : Hid (treeP (d + 1) (Nd.mk 2 num str keys list) left deep = (bareB num str keys.length list.length, left - 1)) := by
    show (if takeB left deep = false then (false, left) else _) = _
    rw [hb]
    rfl
  have hA := below_alloc1 w (.cells #[.int .i64 2, .int .i64 num, .string str, .slice ak keys.length ck, .slice al list.length cl] 26)
  have k0 := Blk5.new w 26 (.int .i64 2) (.int .i64 num) (.string str) (.slice ak keys.length ck) (.slice al list.length cl)
  have hrN := hr.lt
  go_enter Try.func41, Try.ntmps41
  go_wp2_with fail
  refine (take_any rb left deep _ (hr.below hA) h0 h1).mono ?_
  rintro e w1 ⟨rfl, hr1, hb1, hsz1⟩
  have hl : leftTo left deep = left - 1 := by simp [leftTo, hb]
  have HR : Hid (Room w1 rb (left - 1)) := by rw [← hl]; exact hr1
  have HB : Hid (But rb w w1) := (But.of_below hA).trans hb1
  replace k0 := k0.but hb1 (by omega)
  clear hr1 hb1 hl hA hsz1
  rw [hb]
  obtain ⟨x0, x1, x2, x3, x4⟩ := k0.cell
  obtain ⟨y0, y1, y2, y3, y4⟩ := k0.ext
  have hne := Ext.some w1
  clear k0
  go_wp2_with fail
  refine wp_region_ext (by kernel_rfl) (by kernel_rfl) ?_
  repeat (first | go_big_quiet_step ((go_at_call 48; exact Calls.ext_of (bare_any _ _ _ _ _ _ _ _ _ _ hkl hll))) | quiet_step ((go_at_call 48; exact Calls.ext_of (bare_any _ _ _ _ _ _ _ _ _ _ hkl hll))))
  refine wpQuiet_nil ?_
  rintro _ ⟨n, rfl⟩
  clear y0 y1 y2 y3 y4
  go_wp2_with fail
  go_ret2
  refine ⟨_, by rw [hp.out]; rfl, fun _ => Or.inl ⟨by simp, rfl⟩, by rw [hp.out]; exact HR.out.below n.from_, HB.out.trans (But.of_below n.from_)⟩

set_option maxHeartbeats 2000000 in
theorem tree_num (d : Nat) (num : Int) (str : ByteArray) (keys : List ByteArray) (list : List (Tr d)) (left deep : Int) (rb : Nat) (ak al : Option Addr) (ck cl : Nat) (w : World)
    (hr : Room w rb left) (h0 : 0 ≤ left) (h1 : left ≤ 1000) (hb : takeB left deep = true) (hkl : keys.length < 17592186044416) (hll : list.length < 3518437208883) :
    Calls Try.prog 41 #[.pointer (some ⟨rb, 0, none⟩), .agg #[.int .i64 3, .int .i64 num, .string str, .slice ak keys.length ck, .slice al list.length cl], .int .i64 deep] w
      (TreeQ (d + 1) (Nd.mk 3 num str keys list) left deep rb w) := by
  have hp : Hid (treeP (d + 1) (Nd.mk 3 num str keys list) left deep = (decide (-1000000 ≤ num ∧ num ≤ 1000000) && bareB 0 str keys.length list.length, left - 1)) := by
    show (if takeB left deep = false then (false, left) else _) = _
    rw [hb]
    rfl
  have hA := below_alloc1 w (.cells #[.int .i64 3, .int .i64 num, .string str, .slice ak keys.length ck, .slice al list.length cl] 26)
  have k0 := Blk5.new w 26 (.int .i64 3) (.int .i64 num) (.string str) (.slice ak keys.length ck) (.slice al list.length cl)
  have hrN := hr.lt
  go_enter Try.func41, Try.ntmps41
  go_wp2_with fail
  refine (take_any rb left deep _ (hr.below hA) h0 h1).mono ?_
  rintro e w1 ⟨rfl, hr1, hb1, hsz1⟩
  have hl : leftTo left deep = left - 1 := by simp [leftTo, hb]
  have HR : Hid (Room w1 rb (left - 1)) := by rw [← hl]; exact hr1
  have HB : Hid (But rb w w1) := (But.of_below hA).trans hb1
  replace k0 := k0.but hb1 (by omega)
  clear hr1 hb1 hl hA hsz1
  rw [hb]
  obtain ⟨x0, x1, x2, x3, x4⟩ := k0.cell
  by_cases hnum : -1000000 ≤ num ∧ num ≤ 1000000
  · have hnd : decide (-1000000 ≤ num ∧ num ≤ 1000000) = true := decide_eq_true hnum
    clear hnum
    obtain ⟨y0, y1, y2, y3, y4⟩ := k0.ext
    have hne := Ext.some w1
    clear k0
    go_wp2_with fail
    refine wp_region_ext (by kernel_rfl) (by kernel_rfl) ?_
    repeat (first | go_big_quiet_step ((first | (go_at_call 49; exact Calls.ext_same (numOk_any _ _)) | (go_at_call 48; exact Calls.ext_of (bare_any _ _ _ _ _ _ _ _ _ _ hkl hll)))) | quiet_step ((first | (go_at_call 49; exact Calls.ext_same (numOk_any _ _)) | (go_at_call 48; exact Calls.ext_of (bare_any _ _ _ _ _ _ _ _ _ _ hkl hll)))))
    refine wpQuiet_nil ?_
    rintro _ ⟨n, rfl⟩
    clear y0 y1 y2 y3 y4
    go_wp2_with fail
    go_ret2
    refine ⟨_, by rw [hp.out, hnd]; rfl, fun _ => Or.inr (Or.inl ⟨rfl, rfl⟩), by rw [hp.out]; exact HR.out.below n.from_, HB.out.trans (But.of_below n.from_)⟩
  · have hnd : decide (-1000000 ≤ num ∧ num ≤ 1000000) = false := decide_eq_false hnum
    clear hnum
    obtain ⟨y0, y1, y2, y3, y4⟩ := k0.ext
    have hne := Ext.some w1
    clear k0
    go_wp2_with fail
    refine wp_region_ext (by kernel_rfl) (by kernel_rfl) ?_
    repeat (first | go_big_quiet_step ((first | (go_at_call 49; exact Calls.ext_same (numOk_any _ _)) | (go_at_call 48; exact Calls.ext_of (bare_any _ _ _ _ _ _ _ _ _ _ hkl hll)))) | quiet_step ((first | (go_at_call 49; exact Calls.ext_same (numOk_any _ _)) | (go_at_call 48; exact Calls.ext_of (bare_any _ _ _ _ _ _ _ _ _ _ hkl hll)))))
    refine wpQuiet_nil ?_
    rintro _ ⟨n, rfl⟩
    clear y0 y1 y2 y3 y4
    go_wp2_with fail
    go_ret2
    refine ⟨_, by rw [hp.out, hnd]; rfl, by rw [hp.out, hnd]; exact fun h => absurd h (by simp), by rw [hp.out]; exact HR.out.below n.from_, HB.out.trans (But.of_below n.from_)⟩

set_option maxHeartbeats 2000000 in
theorem tree_str (d : Nat) (num : Int) (str : ByteArray) (keys : List ByteArray) (list : List (Tr d)) (left deep : Int) (rb : Nat) (ak al : Option Addr) (ck cl : Nat) (w : World)
    (hr : Room w rb left) (h0 : 0 ≤ left) (h1 : left ≤ 1000) (hb : takeB left deep = true) (hkl : keys.length < 17592186044416) (hll : list.length < 3518437208883) (hstr : str.size < 281474976710656) :
    Calls Try.prog 41 #[.pointer (some ⟨rb, 0, none⟩), .agg #[.int .i64 4, .int .i64 num, .string str, .slice ak keys.length ck, .slice al list.length cl], .int .i64 deep] w
      (TreeQ (d + 1) (Nd.mk 4 num str keys list) left deep rb w) := by
  have hp : Hid (treeP (d + 1) (Nd.mk 4 num str keys list) left deep = (strOk str && bareB num ByteArray.empty keys.length list.length, left - 1)) := by
    show (if takeB left deep = false then (false, left) else _) = _
    rw [hb]
    rfl
  have hA := below_alloc1 w (.cells #[.int .i64 4, .int .i64 num, .string str, .slice ak keys.length ck, .slice al list.length cl] 26)
  have k0 := Blk5.new w 26 (.int .i64 4) (.int .i64 num) (.string str) (.slice ak keys.length ck) (.slice al list.length cl)
  have hrN := hr.lt
  go_enter Try.func41, Try.ntmps41
  go_wp2_with fail
  refine (take_any rb left deep _ (hr.below hA) h0 h1).mono ?_
  rintro e w1 ⟨rfl, hr1, hb1, hsz1⟩
  have hl : leftTo left deep = left - 1 := by simp [leftTo, hb]
  have HR : Hid (Room w1 rb (left - 1)) := by rw [← hl]; exact hr1
  have HB : Hid (But rb w w1) := (But.of_below hA).trans hb1
  replace k0 := k0.but hb1 (by omega)
  clear hr1 hb1 hl hA hsz1
  rw [hb]
  obtain ⟨x0, x1, x2, x3, x4⟩ := k0.cell
  cases hsk : strOk str with
  | true =>
    obtain ⟨y0, y1, y2, y3, y4⟩ := k0.ext
    have hne := Ext.some w1
    clear k0
    go_wp2_with fail
    refine wp_region_ext (by kernel_rfl) (by kernel_rfl) ?_
    repeat (first | go_big_quiet_step ((first | (go_at_call 50; exact Calls.ext_of (textOk_any _ _ hstr)) | (go_at_call 48; exact Calls.ext_of (bare_any _ _ _ _ _ _ _ _ _ _ hkl hll)))) | quiet_step ((first | (go_at_call 50; exact Calls.ext_of (textOk_any _ _ hstr)) | (go_at_call 48; exact Calls.ext_of (bare_any _ _ _ _ _ _ _ _ _ _ hkl hll)))))
    refine wpQuiet_nil ?_
    rintro _ ⟨n, rfl⟩
    clear y0 y1 y2 y3 y4
    go_wp2_with fail
    go_ret2
    refine ⟨_, by rw [hp.out, hsk]; rfl, fun _ => Or.inr (Or.inr (Or.inl ⟨rfl, rfl⟩)), by rw [hp.out]; exact HR.out.below n.from_, HB.out.trans (But.of_below n.from_)⟩
  | false =>
    obtain ⟨y0, y1, y2, y3, y4⟩ := k0.ext
    have hne := Ext.some w1
    clear k0
    go_wp2_with fail
    refine wp_region_ext (by kernel_rfl) (by kernel_rfl) ?_
    repeat (first | go_big_quiet_step ((first | (go_at_call 50; exact Calls.ext_of (textOk_any _ _ hstr)) | (go_at_call 48; exact Calls.ext_of (bare_any _ _ _ _ _ _ _ _ _ _ hkl hll)))) | quiet_step ((first | (go_at_call 50; exact Calls.ext_of (textOk_any _ _ hstr)) | (go_at_call 48; exact Calls.ext_of (bare_any _ _ _ _ _ _ _ _ _ _ hkl hll)))))
    refine wpQuiet_nil ?_
    rintro _ ⟨n, rfl⟩
    clear y0 y1 y2 y3 y4
    go_wp2_with fail
    go_ret2
    refine ⟨_, by rw [hp.out, hsk]; rfl, by rw [hp.out, hsk]; exact fun h => absurd h (by simp), by rw [hp.out]; exact HR.out.below n.from_, HB.out.trans (But.of_below n.from_)⟩

set_option maxHeartbeats 2000000 in
theorem tree_other (d : Nat) (kind : Int) (num : Int) (str : ByteArray) (keys : List ByteArray) (list : List (Tr d)) (left deep : Int) (rb : Nat) (ak al : Option Addr) (ck cl : Nat) (w : World)
    (hr : Room w rb left) (h0 : 0 ≤ left) (h1 : left ≤ 1000) (hb : takeB left deep = true) (hk : ¬ kind = 0 ∧ ¬ kind = 1 ∧ ¬ kind = 2 ∧ ¬ kind = 3 ∧ ¬ kind = 4 ∧ ¬ kind = 5 ∧ ¬ kind = 6) :
    Calls Try.prog 41 #[.pointer (some ⟨rb, 0, none⟩), .agg #[.int .i64 kind, .int .i64 num, .string str, .slice ak keys.length ck, .slice al list.length cl], .int .i64 deep] w
      (TreeQ (d + 1) (Nd.mk kind num str keys list) left deep rb w) := by
  obtain ⟨k_0, k_1, k_2, k_3, k_4, k_5, k_6⟩ := hk
  have hp : Hid (treeP (d + 1) (Nd.mk kind num str keys list) left deep = (false, left - 1)) := by
    show (if takeB left deep = false then (false, left) else _) = _
    rw [hb]
    show (if kind = 0 ∨ kind = 1 ∨ kind = 2 then _ else if kind = 3 then _ else if kind = 4 then _ else if kind = 5 then _ else if kind = 6 then _ else _) = _
    rw [if_neg (by omega), if_neg k_3, if_neg k_4, if_neg k_5, if_neg k_6]
  have hA := below_alloc1 w (.cells #[.int .i64 kind, .int .i64 num, .string str, .slice ak keys.length ck, .slice al list.length cl] 26)
  have k0 := Blk5.new w 26 (.int .i64 kind) (.int .i64 num) (.string str) (.slice ak keys.length ck) (.slice al list.length cl)
  have hrN := hr.lt
  go_enter Try.func41, Try.ntmps41
  go_wp2_with fail
  refine (take_any rb left deep _ (hr.below hA) h0 h1).mono ?_
  rintro e w1 ⟨rfl, hr1, hb1, hsz1⟩
  have hl : leftTo left deep = left - 1 := by simp [leftTo, hb]
  have HR : Hid (Room w1 rb (left - 1)) := by rw [← hl]; exact hr1
  have HB : Hid (But rb w w1) := (But.of_below hA).trans hb1
  replace k0 := k0.but hb1 (by omega)
  clear hr1 hb1 hl hA hsz1
  rw [hb]
  obtain ⟨x0, x1, x2, x3, x4⟩ := k0.cell
  have b0 : (kind == 0) = false := by simpa using k_0
  have b1 : (kind == 1) = false := by simpa using k_1
  have b2 : (kind == 2) = false := by simpa using k_2
  have b3 : (kind == 3) = false := by simpa using k_3
  have b4 : (kind == 4) = false := by simpa using k_4
  have b5 : (kind == 5) = false := by simpa using k_5
  have b6 : (kind == 6) = false := by simpa using k_6
  clear k0
  go_wp2_with fail
  go_ret2
  refine ⟨_, by rw [hp.out]; rfl, by rw [hp.out]; exact fun h => absurd h (by simp), by rw [hp.out]; exact HR.out, HB.out⟩
end Go.Proofs.Ythbpfiandjggcaa
