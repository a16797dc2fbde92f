/- The row of naskhlaw27.ResolveApart: for every two slices of codes and every direction the call returns true and the arguments read as they did. No condition. -/
import Derived.Test.YtdgomaoikeffhaaGreatRows
import Derived.OpenShut
import Derived.Lib.SmallJoins
import Derived.Test.YtdgomaoikeffhaaGreatMgAp16
import Derived.Test.YtdgomaoikeffhaaGreatMgAp25
import Derived.Test.YtdgomaoikeffhaaGreatMgAp33
namespace Go.Proofs.YtdgomaoikeffhaaGreat
open Go.ChangeShapes Go.WideShapes Go.ChangeAt Go.RowKit Go.Joins

set_option maxRecDepth 100000 in
theorem resolveApart_walk {H : Type} {enc : TypeId × Value → H} : LawWalkP H enc 3 Tryz.f3 := by
  intro W base args ds p hval hA
  rw [Tryz.params3] at hA hval
  obtain ⟨v0, v1, v2, d0, d1, d2, p0, p1, p2, rfl, rfl, rfl, h0, h1, h2⟩ := trodAll_three hA
  have k0 := hval 0 22 v0 rfl rfl
  have k1 := hval 1 22 v1 rfl rfl
  have k2 := hval 2 3 v2 rfl rfl
  obtain ⟨A, n, c, l, rfl, hnc, hc, hr, _, _⟩ := open_ints_ k0 h0
  obtain ⟨B, m, d, k, rfl, hmd, hd, hs, _, _⟩ := open_ints_ k1 h1
  obtain ⟨x, rfl, rfl, rfl, _⟩ := open_int Tryz.underlying3 k2 h2
  exact resolveApart_any A B n m c d l k x W hr hs (Nat.le_trans hnc hc) (Nat.le_trans hmd hd) hnc hmd

set_option maxRecDepth 100000 in
theorem resolveApart_lifted (os : Os) (started : os.Started) (H : Type) (enc : TypeId × Value → H) :
    ReturnsInHanded {} Tryz.checked os 3 .any (Rows.resolveApartSpec.pre6 enc Tryz.checked.prog Tryz.f3 [] false) (Rows.resolveApartSpec.post enc Tryz.prog Tryz.f3 false true false false) :=
  law_lifted_p started Rows.resolveApartSpec 3 Tryz.f3 4 rfl (fun ds h => by rw [Tryz.params3] at h; match ds, h with | [d0, d1, d2], _ => rfl) Tryz.func3 (by kernel_rfl) rfl Tryz.underlying4
    (fun t ht => by
      rw [Tryz.params3] at ht
      have hall : ([22, 22, 3].all fun u => Tryz.prog.readableRec u && decide (u < Tryz.prog.types.size)) = true := by kernel_rfl
      have := List.all_eq_true.1 hall t (by simpa using ht)
      simpa using this)
    (ChangeSpec.witness6 (enc := enc) (C := Tryz.checked) (os := os) false ⟨#[], #[.slice none 0 0, .slice none 0 0, .int .i64 0], []⟩ 8 (by kernel_rfl) (by kernel_rfl) (by kernel_rfl) (by kernel_rfl)) resolveApart_walk

theorem resolveApart_holds : Rows.ResolveApartSaid :=
  OpenClaim.holds_of_wide 3 Tryz.f3 rfl rfl rfl rfl rfl rfl rfl ⟨rfl, rfl, rfl, rfl, rfl⟩ rfl rfl rfl rfl rfl (by kernel_rfl) Tryz.func3 (by kernel_rfl)
    (of_decide_eq_true (by kernel_rfl)) (by unfold Func.isWrapper; first | (rw [if_pos (by decide +kernel)]; kernel_rfl) | (rw [if_neg (by decide +kernel)]; exact ⟨rfl, rfl⟩))
    (fun os started H enc _ => resolveApart_lifted os started H enc)
#print axioms resolveApart_holds
end Go.Proofs.YtdgomaoikeffhaaGreat
