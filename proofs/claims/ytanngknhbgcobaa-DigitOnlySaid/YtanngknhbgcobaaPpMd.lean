/- What New made is made. -/
import Derived.Test.YtanngknhbgcobaaPpD
namespace Go.Proofs.Ytanngknhbgcobaa
open Go.RowKit
theorem ppMade_any (b : Nat) (w : World) (h : PropAt w b) : Calls Try.prog 24 #[.pointer (some ⟨b, 0, none⟩)] w fun e w' => e = .returned (.bool true) ∧ w = w' := by
  obtain ⟨b1, b2, n1, n2, h1, _, _, _⟩ := h
  go_enter Try.func24, Try.ntmps24
  go_wp2
  go_ret
  exact ⟨rfl, rfl⟩
end Go.Proofs.Ytanngknhbgcobaa
