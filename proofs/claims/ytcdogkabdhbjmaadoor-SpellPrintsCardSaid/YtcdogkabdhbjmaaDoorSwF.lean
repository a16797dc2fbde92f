/- Options as words: FieldsFunc at blanks. -/
import Derived.Test.YtcdogkabdhbjmaaDoorSwT
import Derived.Test.YtcdogkabdhbjmaaDoorLayFF
namespace Go.Proofs.YtcdogkabdhbjmaaDoor
open Go.RowKit Go.Shelf

theorem isBlank_any (x : Nat) (hx : x ≤ 1114111) (w : World) : Calls Tryd.prog 46 #[.int .i32 (x : Int)] w fun e w' => e = .returned (.bool (isB x)) ∧ w = w' := by
  obtain ⟨y, hy⟩ : ∃ y, isB x = y := ⟨_, rfl⟩
  have h1 : ((x : Int) == 32) = y := by
    rw [← hy]
    unfold isB
    rw [Bool.eq_iff_iff]
    simp only [beq_iff_eq]
    omega
  rw [hy]
  clear hy
  go_enter Tryd.func46, Tryd.ntmps46
  go_wp2
  go_ret
  exact ⟨rfl, rfl⟩
theorem blank_pays (w : World) : PredGrows Tryd.prog 46 #[] isB w := fun W x hx _ =>
  (isBlank_any x hx W).mono fun _ _ h => ⟨h.1, h.2 ▸ Below.refl _ _⟩
theorem fields_any (s : ByteArray) (hs : s.size ≤ 1000) (w : World) :
    Calls Tryd.prog 45 #[.string s, .func (.func 46) #[] #[]] w fun e w' => ∃ A c, e = .returned (.slice A (wordsF s).length c) ∧ Rd w' 1 A (wordsF s).length ((wordsF s).map Value.string) ∧ Below w.heap.size w w' := by
  refine (Any.strings_FieldsFunc_grows ff_lays 46 #[] (enters_of Tryd.func46 (by kernel_rfl) rfl) isB s w (by omega) (blank_pays w) (by kernel_rfl) (by kernel_rfl)).mono ?_
  rintro e w' ⟨A, he, hA, hown, hb⟩
  exact ⟨_, _, he, Rd.of_own hown, hb⟩
end Go.Proofs.YtcdogkabdhbjmaaDoor
