/- The row of naskhlaw17.DigitOnly: for every slice of codes, any mode and either kind of digits the call returns true and the arguments read as they did. No condition. -/
import Derived.Test.YtanngknhbgcobaaRows
import Derived.Test.YtanngknhbgcobaaDgL
import Derived.Test.YtanngknhbgcobaaOpenI
import Derived.Test.YtanngknhbgcobaaLawP
import Derived.OpenShut
import Derived.Lib.SmallJoins
namespace Go.Proofs.Ytanngknhbgcobaa
open Go.ChangeShapes Go.WideShapes Go.ChangeAt Go.RowKit Go.Joins

set_option maxRecDepth 100000 in
theorem digitOnly_walk {H : Type} {enc : TypeId × Value → H} : LawWalkP H enc 3 Try.f3 := by
  intro W base args ds p hval hA
  rw [Try.params3] at hA hval
  obtain ⟨v0, v1, v2, d0, d1, d2, p0, p1, p2, rfl, rfl, rfl, h0, h1, h2⟩ := trodAll_three hA
  have k0 := hval 0 22 v0 rfl rfl
  have k1 := hval 1 3 v1 rfl rfl
  have k2 := hval 2 4 v2 rfl rfl
  obtain ⟨A, n, c, l, rfl, hnc, hc, hr, _, _⟩ := open_ints_ k0 h0
  obtain ⟨m, rfl, rfl, rfl, _⟩ := open_int Try.underlying3 k1 h1
  obtain ⟨ea, rfl, rfl, rfl⟩ := open_bool Try.underlying4 k2 h2
  exact digitOnly_any A n c l m ea W hr (Nat.le_trans hnc hc)

set_option maxRecDepth 100000 in
theorem digitOnly_lifted (os : Os) (started : os.Started) (H : Type) (enc : TypeId × Value → H) :
    ReturnsInHanded {} Try.checked os 3 .any (Rows.digitOnlySpec.pre6 enc Try.checked.prog Try.f3 [] false) (Rows.digitOnlySpec.post enc Try.prog Try.f3 false true false false) :=
  law_lifted_p started Rows.digitOnlySpec 3 Try.f3 4 rfl (fun ds h => by rw [Try.params3] at h; match ds, h with | [d0, d1, d2], _ => rfl) Try.func3 (by kernel_rfl) rfl Try.underlying4
    (fun t ht => by
      rw [Try.params3] at ht
      have hall : ([22, 3, 4].all fun u => Try.prog.readableRec u && decide (u < Try.prog.types.size)) = true := by kernel_rfl
      have := List.all_eq_true.1 hall t (by simpa using ht)
      simpa using this)
    (ChangeSpec.witness6 (enc := enc) (C := Try.checked) (os := os) false ⟨#[], #[.slice none 0 0, .int .i64 0, .bool false], []⟩ 8 (by kernel_rfl) (by kernel_rfl) (by kernel_rfl) (by kernel_rfl)) digitOnly_walk

theorem digitOnly_holds : Rows.DigitOnlySaid :=
  OpenClaim.holds_of_wide 3 Try.f3 rfl rfl rfl rfl rfl rfl rfl ⟨rfl, rfl, rfl, rfl, rfl⟩ rfl rfl rfl rfl rfl (by kernel_rfl) Try.func3 (by kernel_rfl)
    (of_decide_eq_true (by kernel_rfl)) (by unfold Func.isWrapper; first | (rw [if_pos (by decide +kernel)]; kernel_rfl) | (rw [if_neg (by decide +kernel)]; exact ⟨rfl, rfl⟩))
    (fun os started H enc _ => digitOnly_lifted os started H enc)
#print axioms digitOnly_holds
end Go.Proofs.Ytanngknhbgcobaa
