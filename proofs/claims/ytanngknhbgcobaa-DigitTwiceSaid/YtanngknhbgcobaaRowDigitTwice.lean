/- The row of naskhlaw17.DigitTwice: for every slice of codes, any mode and either kind of digits the call returns true and the arguments read as they did. No condition. -/
import Derived.Test.YtanngknhbgcobaaRows
import Derived.Test.YtanngknhbgcobaaDgL
import Derived.Test.YtanngknhbgcobaaOpenI
import Derived.Test.YtanngknhbgcobaaLawP
import Derived.OpenShut
import Derived.Lib.SmallJoins
namespace Go.Proofs.Ytanngknhbgcobaa
open Go.ChangeShapes Go.WideShapes Go.ChangeAt Go.RowKit Go.Joins

set_option maxRecDepth 100000 in
theorem digitTwice_walk {H : Type} {enc : TypeId × Value → H} : LawWalkP H enc 4 Try.f4 := by
  intro W base args ds p hval hA
  rw [Try.params4] at hA hval
  obtain ⟨v0, v1, v2, d0, d1, d2, p0, p1, p2, rfl, rfl, rfl, h0, h1, h2⟩ := trodAll_three hA
  have k0 := hval 0 22 v0 rfl rfl
  have k1 := hval 1 3 v1 rfl rfl
  have k2 := hval 2 4 v2 rfl rfl
  obtain ⟨A, n, c, l, rfl, hnc, hc, hr, _, _⟩ := open_ints_ k0 h0
  obtain ⟨m, rfl, rfl, rfl, _⟩ := open_int Try.underlying3 k1 h1
  obtain ⟨ea, rfl, rfl, rfl⟩ := open_bool Try.underlying4 k2 h2
  exact digitTwice_any A n c l m ea W hr (Nat.le_trans hnc hc)

set_option maxRecDepth 100000 in
theorem digitTwice_lifted (os : Os) (started : os.Started) (H : Type) (enc : TypeId × Value → H) :
    ReturnsInHanded {} Try.checked os 4 .any (Rows.digitTwiceSpec.pre6 enc Try.checked.prog Try.f4 [] false) (Rows.digitTwiceSpec.post enc Try.prog Try.f4 false true false false) :=
  law_lifted_p started Rows.digitTwiceSpec 4 Try.f4 4 rfl (fun ds h => by rw [Try.params4] at h; match ds, h with | [d0, d1, d2], _ => rfl) Try.func4 (by kernel_rfl) rfl Try.underlying4
    (fun t ht => by
      rw [Try.params4] at ht
      have hall : ([22, 3, 4].all fun u => Try.prog.readableRec u && decide (u < Try.prog.types.size)) = true := by kernel_rfl
      have := List.all_eq_true.1 hall t (by simpa using ht)
      simpa using this)
    (ChangeSpec.witness6 (enc := enc) (C := Try.checked) (os := os) false ⟨#[], #[.slice none 0 0, .int .i64 0, .bool false], []⟩ 8 (by kernel_rfl) (by kernel_rfl) (by kernel_rfl) (by kernel_rfl)) digitTwice_walk

theorem digitTwice_holds : Rows.DigitTwiceSaid :=
  OpenClaim.holds_of_wide 4 Try.f4 rfl rfl rfl rfl rfl rfl rfl ⟨rfl, rfl, rfl, rfl, rfl⟩ rfl rfl rfl rfl rfl (by kernel_rfl) Try.func4 (by kernel_rfl)
    (of_decide_eq_true (by kernel_rfl)) (by unfold Func.isWrapper; first | (rw [if_pos (by decide +kernel)]; kernel_rfl) | (rw [if_neg (by decide +kernel)]; exact ⟨rfl, rfl⟩))
    (fun os started H enc _ => digitTwice_lifted os started H enc)
#print axioms digitTwice_holds
end Go.Proofs.Ytanngknhbgcobaa
