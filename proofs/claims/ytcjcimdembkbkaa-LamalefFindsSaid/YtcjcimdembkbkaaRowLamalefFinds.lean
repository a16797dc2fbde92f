/- The row of naskhlaw14.LamalefFinds: for every text, all types and either through the call returns true and the arguments read as they did. No condition. -/
import Derived.Test.YtcjcimdembkbkaaRows
import Derived.Test.YtcjcimdembkbkaaLfL1
import Derived.Test.YtcjcimdembkbkaaOpenI
import Derived.Test.YtcjcimdembkbkaaLawP
import Derived.OpenShut
import Derived.Lib.SmallJoins
namespace Go.Proofs.Ytcjcimdembkbkaa
open Go.ChangeShapes Go.WideShapes Go.ChangeAt Go.RowKit Go.Joins

set_option maxRecDepth 100000 in
theorem lamalefFinds_walk {H : Type} {enc : TypeId × Value → H} : LawWalkP H enc 8 Try.f8 := by
  intro W base args ds p hval hA
  rw [Try.params8] at hA hval
  obtain ⟨v0, v1, v2, d0, d1, d2, p0, p1, p2, rfl, rfl, rfl, h0, h1, h2⟩ := trodAll_three hA
  have k0 := hval 0 22 v0 rfl rfl
  have k1 := hval 1 22 v1 rfl rfl
  have k2 := hval 2 4 v2 rfl rfl
  obtain ⟨A, n, c, l, rfl, hnc, hc, hr, _, _⟩ := open_ints_ k0 h0
  obtain ⟨B, m, d, k, rfl, hmd, hd, hs, _, _⟩ := open_ints_ k1 h1
  obtain ⟨b, rfl, rfl, rfl⟩ := open_bool Try.underlying4 k2 h2
  exact lamalefFinds_any A B n m c d l k b W hr hs (Nat.le_trans hnc hc) (Nat.le_trans hmd hd)

set_option maxRecDepth 100000 in
theorem lamalefFinds_lifted (os : Os) (started : os.Started) (H : Type) (enc : TypeId × Value → H) :
    ReturnsInHanded {} Try.checked os 8 .any (Rows.lamalefFindsSpec.pre6 enc Try.checked.prog Try.f8 [] false) (Rows.lamalefFindsSpec.post enc Try.prog Try.f8 false true false false) :=
  law_lifted_p started Rows.lamalefFindsSpec 8 Try.f8 4 rfl (fun ds h => by rw [Try.params8] at h; match ds, h with | [d0, d1, d2], _ => rfl) Try.func8 (by kernel_rfl) rfl Try.underlying4
    (fun t ht => by
      rw [Try.params8] at ht
      have hall : ([22, 22, 4].all fun u => Try.prog.readableRec u && decide (u < Try.prog.types.size)) = true := by kernel_rfl
      have := List.all_eq_true.1 hall t (by simpa using ht)
      simpa using this)
    (ChangeSpec.witness6 (enc := enc) (C := Try.checked) (os := os) false ⟨#[], #[.slice none 0 0, .slice none 0 0, .bool false], []⟩ 8 (by kernel_rfl) (by kernel_rfl) (by kernel_rfl) (by kernel_rfl)) lamalefFinds_walk

theorem lamalefFinds_holds : Rows.LamalefFindsSaid :=
  OpenClaim.holds_of_wide 8 Try.f8 rfl rfl rfl rfl rfl rfl rfl ⟨rfl, rfl, rfl, rfl, rfl⟩ rfl rfl rfl rfl rfl (by kernel_rfl) Try.func8 (by kernel_rfl)
    (of_decide_eq_true (by kernel_rfl)) (by unfold Func.isWrapper; first | (rw [if_pos (by decide +kernel)]; kernel_rfl) | (rw [if_neg (by decide +kernel)]; exact ⟨rfl, rfl⟩))
    (fun os started H enc _ => lamalefFinds_lifted os started H enc)
#print axioms lamalefFinds_holds
end Go.Proofs.Ytcjcimdembkbkaa
