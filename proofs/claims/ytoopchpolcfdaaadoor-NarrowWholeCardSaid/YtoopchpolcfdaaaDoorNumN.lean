/- What the functions of narrow and of its reference on one number hand back: the walk of each, for every number. -/
import Derived.Test.YtoopchpolcfdaaaDoorNumW
namespace Go.Proofs.YtoopchpolcfdaaaDoor
open Go.RowKit

def illNB (c : Int) : Bool := decide (1114240 ≤ c ∧ c ≤ 1114367)
/-- How many bytes a code has. -/
def sizeN (c : Int) : Int := if illNB c = true then 1 else if wholeB c = true then (if c < 128 then 1 else if c < 2048 then 2 else if c < 65536 then 3 else 4) else 0
theorem sizeN_ill {c : Int} (h : 1114240 ≤ c) (h' : c ≤ 1114367) : sizeN c = 1 := by
  have : illNB c = true := decide_eq_true ⟨h, h'⟩
  simp [sizeN, this]
theorem sizeN_0 {c : Int} (h : ¬ (1114240 ≤ c ∧ c ≤ 1114367)) (h' : ¬ (0 ≤ c ∧ c ≤ 1114111 ∧ (c < 55296 ∨ 57343 < c))) : sizeN c = 0 := by
  have h1 : illNB c = false := decide_eq_false h
  have h2 : wholeB c = false := decide_eq_false h'
  simp [sizeN, h1, h2]
theorem sizeN_w {c : Int} (h' : 0 ≤ c ∧ c ≤ 1114111 ∧ (c < 55296 ∨ 57343 < c)) : sizeN c = if c < 128 then 1 else if c < 2048 then 2 else if c < 65536 then 3 else 4 := by
  have h1 : illNB c = false := decide_eq_false (by omega)
  have h2 : wholeB c = true := decide_eq_true h'
  simp [sizeN, h1, h2]
theorem sizeN_1 {c : Int} (h : 0 ≤ c) (h' : c < 128) : sizeN c = 1 := by rw [sizeN_w (by omega), if_pos h']
theorem sizeN_2 {c : Int} (h : 128 ≤ c) (h' : c < 2048) : sizeN c = 2 := by rw [sizeN_w (by omega), if_neg (by omega), if_pos h']
theorem sizeN_3 {c : Int} (h : 2048 ≤ c) (h' : c < 65536) (hs : c < 55296 ∨ 57343 < c) : sizeN c = 3 := by rw [sizeN_w (by omega), if_neg (by omega), if_neg (by omega), if_pos h']
theorem sizeN_4 {c : Int} (h : 65536 ≤ c) (h' : c ≤ 1114111) : sizeN c = 4 := by rw [sizeN_w (by omega), if_neg (by omega), if_neg (by omega), if_neg (by omega)]
theorem partsN (c : Int) : (1114240 ≤ c ∧ c ≤ 1114367) ∨ (¬ (1114240 ≤ c ∧ c ≤ 1114367) ∧ ¬ (0 ≤ c ∧ c ≤ 1114111 ∧ (c < 55296 ∨ 57343 < c))) ∨ (0 ≤ c ∧ c < 128) ∨ (128 ≤ c ∧ c < 2048) ∨ (2048 ≤ c ∧ c < 65536 ∧ (c < 55296 ∨ 57343 < c)) ∨ (65536 ≤ c ∧ c ≤ 1114111) := by omega

theorem refIllN_any (c : Int) (w : World) :
    Calls Tryd.prog 50 #[.int .i64 c] w fun e w' => e = .returned (.bool (illNB c)) ∧ w = w' := by
  have hc : c < 1114240 ∨ (1114240 ≤ c ∧ c ≤ 1114367) ∨ 1114367 < c := by omega
  rcases hc with h | ⟨h, h'⟩ | h <;>
    (go_enter Tryd.func50, Tryd.ntmps50
     go_wp2
     go_ret
     refine ⟨retB ?_, rfl⟩
     simp [illNB]
     try omega)
theorem isIllN_any (c : Int) (w : World) :
    Calls Tryd.prog 49 #[.int .i64 c] w fun e w' => e = .returned (.bool (illNB c)) ∧ w = w' := by
  have hc : c < 1114240 ∨ (1114240 ≤ c ∧ c ≤ 1114367) ∨ 1114367 < c := by omega
  rcases hc with h | ⟨h, h'⟩ | h <;>
    (go_enter Tryd.func49, Tryd.ntmps49
     go_wp2
     go_ret
     refine ⟨retB ?_, rfl⟩
     simp [illNB]
     try omega)

/-- The arrays of narrow, as the program's text lays them. -/
def Lasts (w : World) : Prop :=
  w.cell? ⟨1, 0, none⟩ = some (.int .i64 127) ∧ w.cell? ⟨1, 1, none⟩ = some (.int .i64 2047) ∧ w.cell? ⟨1, 2, none⟩ = some (.int .i64 65535) ∧ w.cell? ⟨1, 3, none⟩ = some (.int .i64 1114111)
def Marks (w : World) : Prop :=
  w.cell? ⟨3, 0, none⟩ = some (.int .i64 0) ∧ w.cell? ⟨3, 1, none⟩ = some (.int .i64 0) ∧ w.cell? ⟨3, 2, none⟩ = some (.int .i64 192) ∧ w.cell? ⟨3, 3, none⟩ = some (.int .i64 224) ∧ w.cell? ⟨3, 4, none⟩ = some (.int .i64 240)
def lengthN : Nat → Int
  | 0 | 1 | 2 | 3 | 4 | 5 | 6 | 7 => 1
  | 12 | 13 => 2
  | 14 => 3
  | 15 => 4
  | _ => 0
def Lengths (w : World) : Prop := ∀ i, i < 16 → w.cell? ⟨2, i, none⟩ = some (.int .i64 (lengthN i))
structure TabN (w : World) : Prop where
  lasts : Lasts w
  marks : Marks w
  lengths : Lengths w
theorem TabN.below {w w' : World} (h : TabN w) (hb : Below w.heap.size w w') : TabN w' := by
  obtain ⟨⟨a0, a1, a2, a3⟩, ⟨b0, b1, b2, b3, b4⟩, hl⟩ := h
  exact ⟨⟨cell_below hb a0, cell_below hb a1, cell_below hb a2, cell_below hb a3⟩, ⟨cell_below hb b0, cell_below hb b1, cell_below hb b2, cell_below hb b3, cell_below hb b4⟩, fun i hi => cell_below hb (hl i hi)⟩

set_option maxHeartbeats 1000000 in
theorem refSizeN_any (c : Int) (w : World) :
    Calls Tryd.prog 37 #[.int .i64 c] w fun e w' => e = .returned (.int .i64 (sizeN c)) ∧ w = w' := by
  rcases partsN c with ⟨h, h'⟩ | ⟨h, h'⟩ | ⟨h, h'⟩ | ⟨h, h'⟩ | ⟨h, h', h''⟩ | ⟨h, h'⟩
  · have hi : illNB c = true := decide_eq_true ⟨h, h'⟩
    have HS := Lib.hid (sizeN_ill h h')
    go_enter Tryd.func37, Tryd.ntmps37
    go_wp2_with (first | (go_at_call 50; refine (refIllN_any c _).mono ?_; rintro e w' ⟨rfl, rfl⟩) | (go_at_call 24; refine (refWhole_any c _).mono ?_; rintro e w' ⟨rfl, rfl⟩))
    go_ret
    exact ⟨retI HS.out.symm, rfl⟩
  · have hi : illNB c = false := decide_eq_false h
    have hw : wholeB c = false := decide_eq_false h'
    have HS := Lib.hid (sizeN_0 h h')
    clear h h'
    go_enter Tryd.func37, Tryd.ntmps37
    go_wp2_with (first | (go_at_call 50; refine (refIllN_any c _).mono ?_; rintro e w' ⟨rfl, rfl⟩) | (go_at_call 24; refine (refWhole_any c _).mono ?_; rintro e w' ⟨rfl, rfl⟩))
    go_ret
    exact ⟨retI HS.out.symm, rfl⟩
  · have hi : illNB c = false := decide_eq_false (by omega)
    have hw : wholeB c = true := decide_eq_true (by omega)
    have HS := Lib.hid (sizeN_1 h h')
    go_enter Tryd.func37, Tryd.ntmps37
    go_wp2_with (first | (go_at_call 50; refine (refIllN_any c _).mono ?_; rintro e w' ⟨rfl, rfl⟩) | (go_at_call 24; refine (refWhole_any c _).mono ?_; rintro e w' ⟨rfl, rfl⟩))
    go_ret
    exact ⟨retI HS.out.symm, rfl⟩
  · have hi : illNB c = false := decide_eq_false (by omega)
    have hw : wholeB c = true := decide_eq_true (by omega)
    have HS := Lib.hid (sizeN_2 h h')
    go_enter Tryd.func37, Tryd.ntmps37
    go_wp2_with (first | (go_at_call 50; refine (refIllN_any c _).mono ?_; rintro e w' ⟨rfl, rfl⟩) | (go_at_call 24; refine (refWhole_any c _).mono ?_; rintro e w' ⟨rfl, rfl⟩))
    go_ret
    exact ⟨retI HS.out.symm, rfl⟩
  · have hi : illNB c = false := decide_eq_false (by omega)
    have hw : wholeB c = true := decide_eq_true (by omega)
    have HS := Lib.hid (sizeN_3 h h' h'')
    clear h''
    go_enter Tryd.func37, Tryd.ntmps37
    go_wp2_with (first | (go_at_call 50; refine (refIllN_any c _).mono ?_; rintro e w' ⟨rfl, rfl⟩) | (go_at_call 24; refine (refWhole_any c _).mono ?_; rintro e w' ⟨rfl, rfl⟩))
    go_ret
    exact ⟨retI HS.out.symm, rfl⟩
  · have hi : illNB c = false := decide_eq_false (by omega)
    have hw : wholeB c = true := decide_eq_true (by omega)
    have HS := Lib.hid (sizeN_4 h h')
    go_enter Tryd.func37, Tryd.ntmps37
    go_wp2_with (first | (go_at_call 50; refine (refIllN_any c _).mono ?_; rintro e w' ⟨rfl, rfl⟩) | (go_at_call 24; refine (refWhole_any c _).mono ?_; rintro e w' ⟨rfl, rfl⟩))
    go_ret
    exact ⟨retI HS.out.symm, rfl⟩

set_option maxHeartbeats 1000000 in
theorem sizeN_any (c : Int) (w : World) (hs : Lasts w) :
    Calls Tryd.prog 36 #[.int .i64 c] w fun e w' => e = .returned (.int .i64 (sizeN c)) ∧ w = w' := by
  obtain ⟨s0, s1, s2, s3⟩ := hs
  rcases partsN c with ⟨h, h'⟩ | ⟨h, h'⟩ | ⟨h, h'⟩ | ⟨h, h'⟩ | ⟨h, h', h''⟩ | ⟨h, h'⟩
  · have hi : illNB c = true := decide_eq_true ⟨h, h'⟩
    have HS := Lib.hid (sizeN_ill h h')
    go_enter Tryd.func36, Tryd.ntmps36
    go_wp2_with (first | (go_at_call 49; refine (isIllN_any c _).mono ?_; rintro e w' ⟨rfl, rfl⟩) | (go_at_call 23; refine (whole_any c _).mono ?_; rintro e w' ⟨rfl, rfl⟩))
    go_ret
    exact ⟨retI HS.out.symm, rfl⟩
  · have hi : illNB c = false := decide_eq_false h
    have hw : wholeB c = false := decide_eq_false h'
    have HS := Lib.hid (sizeN_0 h h')
    clear h h'
    go_enter Tryd.func36, Tryd.ntmps36
    go_wp2_with (first | (go_at_call 49; refine (isIllN_any c _).mono ?_; rintro e w' ⟨rfl, rfl⟩) | (go_at_call 23; refine (whole_any c _).mono ?_; rintro e w' ⟨rfl, rfl⟩))
    go_ret
    exact ⟨retI HS.out.symm, rfl⟩
  · have hi : illNB c = false := decide_eq_false (by omega)
    have hw : wholeB c = true := decide_eq_true (by omega)
    have HS := Lib.hid (sizeN_1 h h')
    go_enter Tryd.func36, Tryd.ntmps36
    go_wp2_with (first | (go_at_call 49; refine (isIllN_any c _).mono ?_; rintro e w' ⟨rfl, rfl⟩) | (go_at_call 23; refine (whole_any c _).mono ?_; rintro e w' ⟨rfl, rfl⟩))
    refine wp_loop_rounds 5 ?_
    repeat (rw [rounds_succ]; go_wp2)
    go_ret
    exact ⟨retI HS.out.symm, rfl⟩
  · have hi : illNB c = false := decide_eq_false (by omega)
    have hw : wholeB c = true := decide_eq_true (by omega)
    have HS := Lib.hid (sizeN_2 h h')
    go_enter Tryd.func36, Tryd.ntmps36
    go_wp2_with (first | (go_at_call 49; refine (isIllN_any c _).mono ?_; rintro e w' ⟨rfl, rfl⟩) | (go_at_call 23; refine (whole_any c _).mono ?_; rintro e w' ⟨rfl, rfl⟩))
    refine wp_loop_rounds 5 ?_
    repeat (rw [rounds_succ]; go_wp2)
    go_ret
    exact ⟨retI HS.out.symm, rfl⟩
  · have hi : illNB c = false := decide_eq_false (by omega)
    have hw : wholeB c = true := decide_eq_true (by omega)
    have HS := Lib.hid (sizeN_3 h h' h'')
    clear h''
    go_enter Tryd.func36, Tryd.ntmps36
    go_wp2_with (first | (go_at_call 49; refine (isIllN_any c _).mono ?_; rintro e w' ⟨rfl, rfl⟩) | (go_at_call 23; refine (whole_any c _).mono ?_; rintro e w' ⟨rfl, rfl⟩))
    refine wp_loop_rounds 5 ?_
    repeat (rw [rounds_succ]; go_wp2)
    go_ret
    exact ⟨retI HS.out.symm, rfl⟩
  · have hi : illNB c = false := decide_eq_false (by omega)
    have hw : wholeB c = true := decide_eq_true (by omega)
    have HS := Lib.hid (sizeN_4 h h')
    go_enter Tryd.func36, Tryd.ntmps36
    go_wp2_with (first | (go_at_call 49; refine (isIllN_any c _).mono ?_; rintro e w' ⟨rfl, rfl⟩) | (go_at_call 23; refine (whole_any c _).mono ?_; rintro e w' ⟨rfl, rfl⟩))
    refine wp_loop_rounds 5 ?_
    repeat (rw [rounds_succ]; go_wp2)
    go_ret
    exact ⟨retI HS.out.symm, rfl⟩
theorem sizeN_range (c : Int) : 0 ≤ sizeN c ∧ sizeN c ≤ 4 := by
  unfold sizeN
  split
  · omega
  · split
    · split
      · omega
      · split
        · omega
        · split <;> omega
    · omega
end Go.Proofs.YtoopchpolcfdaaaDoor
