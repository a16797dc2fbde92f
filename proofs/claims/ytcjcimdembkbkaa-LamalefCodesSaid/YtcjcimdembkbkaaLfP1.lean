/- lamalef's Alef and the reference's. -/
import Derived.Test.YtcjcimdembkbkaaLgC
import Derived.Test.YtcjcimdembkbkaaLgR
import Derived.Test.YtcjcimdembkbkaaJnG
namespace Go.Proofs.Ytcjcimdembkbkaa
open Go.RowKit

def alefB (c : Int) : Bool := (ligF c 1).2
theorem lfAlef_any (c : Int) (w : World) : Calls Try.prog 32 #[.int .i64 c] w fun e w' => e = .returned (.bool (alefB c)) ∧ Below w.heap.size w w' := by
  obtain ⟨x, ok, h⟩ : ∃ x ok, ligF c 1 = (x, ok) := ⟨_, _, rfl⟩
  have HL := Lib.hid (fun w => fmLigate_any c 1 x ok h (by omega) (by omega) w)
  rw [show alefB c = ok by unfold alefB; rw [h]]
  clear h
  go_enter Try.func32, Try.ntmps32
  go_wp2_with fail
  refine (HL.out _).mono ?_
  rintro e w1 ⟨rfl, hb1⟩
  go_wp2
  go_ret
  exact ⟨rfl, hb1⟩
theorem refAlef_any (c : Int) (w : World) : Calls Try.prog 33 #[.int .i64 c] w fun e w' => e = .returned (.bool (alefB c)) ∧ Below w.heap.size w w' := by
  obtain ⟨x, ok, h⟩ : ∃ x ok, ligF c 1 = (x, ok) := ⟨_, _, rfl⟩
  have HL := Lib.hid (fun w => refLigate_any c 1 x ok h w)
  rw [show alefB c = ok by unfold alefB; rw [h]]
  clear h
  go_enter Try.func33, Try.ntmps33
  go_wp2_with fail
  refine (HL.out _).mono ?_
  rintro e w1 ⟨rfl, hb1⟩
  go_wp2
  go_ret
  exact ⟨rfl, hb1⟩
end Go.Proofs.Ytcjcimdembkbkaa
