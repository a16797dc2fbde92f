/- What New made is made. -/
import Derived.Test.YtcbiaeeifclieaaPpD
namespace Go.Proofs.Ytcbiaeeifclieaa
open Go.RowKit
theorem ppMade_any (b : Nat) (w : World) (h : PropAt w b) : Calls Try.prog 91 #[.pointer (some ⟨b, 0, none⟩)] w fun e w' => e = .returned (.bool true) ∧ w = w' := by
  obtain ⟨b1, b2, n1, n2, h1, _, _, _⟩ := h
  go_enter Try.func91, Try.ntmps91
  go_wp2
  go_ret
  exact ⟨rfl, rfl⟩
end Go.Proofs.Ytcbiaeeifclieaa
