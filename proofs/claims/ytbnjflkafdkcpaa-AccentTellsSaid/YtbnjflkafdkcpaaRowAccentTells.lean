/- The row of naskhlaw31.AccentTells: for every two slices of numbers and every slice of bools the call returns true and the arguments read as they did. No condition. -/
import Derived.Test.YtbnjflkafdkcpaaRows
import Derived.Test.YtbnjflkafdkcpaaAcL1
import Derived.Test.YtbnjflkafdkcpaaOpenI
import Derived.Test.YtbnjflkafdkcpaaOpenB
import Derived.Test.YtbnjflkafdkcpaaLawP
import Derived.OpenShut
import Derived.Lib.SmallJoins
namespace Go.Proofs.Ytbnjflkafdkcpaa
open Go.ChangeShapes Go.WideShapes Go.ChangeAt Go.RowKit Go.Joins

set_option maxRecDepth 100000 in
theorem accentTells_walk {H : Type} {enc : TypeId × Value → H} : LawWalkP H enc 3 Try.f3 := by
  intro W base args ds p hval hA
  rw [Try.params3] at hA hval
  obtain ⟨v0, v1, v2, d0, d1, d2, p0, p1, p2, rfl, rfl, rfl, h0, h1, h2⟩ := trodAll_three hA
  have k0 := hval 0 22 v0 rfl rfl
  have k1 := hval 1 22 v1 rfl rfl
  have k2 := hval 2 23 v2 rfl rfl
  obtain ⟨A, n, c, l, rfl, hnc, hc, hr, _, _⟩ := open_ints_ k0 h0
  obtain ⟨B, m, d, k, rfl, hmd, hd, hs, _, _⟩ := open_ints_ k1 h1
  obtain ⟨C, q, r, j, rfl, hqr, hr2, ht, _⟩ := open_bools_ k2 h2
  exact accentTells_any A B C n c m d q r l k j W hr hs ht

set_option maxRecDepth 100000 in
theorem accentTells_lifted (os : Os) (started : os.Started) (H : Type) (enc : TypeId × Value → H) :
    ReturnsInHanded {} Try.checked os 3 .any (Rows.accentTellsSpec.pre6 enc Try.checked.prog Try.f3 [] false) (Rows.accentTellsSpec.post enc Try.prog Try.f3 false true false false) :=
  law_lifted_p started Rows.accentTellsSpec 3 Try.f3 4 rfl (fun ds h => by rw [Try.params3] at h; match ds, h with | [d0, d1, d2], _ => rfl) Try.func3 (by kernel_rfl) rfl Try.underlying4
    (fun t ht => by
      rw [Try.params3] at ht
      have hall : ([22, 22, 23].all fun u => Try.prog.readableRec u && decide (u < Try.prog.types.size)) = true := by kernel_rfl
      have := List.all_eq_true.1 hall t (by simpa using ht)
      simpa using this)
    (ChangeSpec.witness6 (enc := enc) (C := Try.checked) (os := os) false ⟨#[], #[.slice none 0 0, .slice none 0 0, .slice none 0 0], []⟩ 8 (by kernel_rfl) (by kernel_rfl) (by kernel_rfl) (by kernel_rfl)) accentTells_walk

theorem accentTells_holds : Rows.AccentTellsSaid :=
  OpenClaim.holds_of_wide 3 Try.f3 rfl rfl rfl rfl rfl rfl rfl ⟨rfl, rfl, rfl, rfl, rfl⟩ rfl rfl rfl rfl rfl (by kernel_rfl) Try.func3 (by kernel_rfl)
    (of_decide_eq_true (by kernel_rfl)) (by unfold Func.isWrapper; first | (rw [if_pos (by decide +kernel)]; kernel_rfl) | (rw [if_neg (by decide +kernel)]; exact ⟨rfl, rfl⟩))
    (fun os started H enc _ => accentTells_lifted os started H enc)
#print axioms accentTells_holds
end Go.Proofs.Ytbnjflkafdkcpaa
