/- The row of naskhlaw04.ClusterSame: for any two sizes and every slice of links the call returns true and the arguments read as they did. No condition. -/
import Derived.Test.YtmgoakfnmgngoaaRows
import Derived.OpenShut
import Derived.Lib.SmallJoins
import Derived.Test.YtmgoakfnmgngoaaMgSm6
import Derived.Test.YtmgoakfnmgngoaaMgSm16
import Derived.Test.YtmgoakfnmgngoaaMgSm21
namespace Go.Proofs.Ytmgoakfnmgngoaa
open Go.ChangeShapes Go.WideShapes Go.ChangeAt Go.RowKit Go.Joins

set_option maxRecDepth 100000 in
theorem clusterSame_walk {H : Type} {enc : TypeId × Value → H} : LawWalkP H enc 7 Try.f7 := by
  intro W base args ds p hval hA
  rw [Try.params7] at hA hval
  obtain ⟨v0, v1, v2, d0, d1, d2, p0, p1, p2, rfl, rfl, rfl, h0, h1, h2⟩ := trodAll_three hA
  have k0 := hval 0 3 v0 rfl rfl
  have k1 := hval 1 3 v1 rfl rfl
  have k2 := hval 2 22 v2 rfl rfl
  obtain ⟨i, rfl, rfl, rfl, _⟩ := open_int Try.underlying3 k0 h0
  obtain ⟨j, rfl, rfl, rfl, _⟩ := open_int Try.underlying3 k1 h1
  obtain ⟨A, n, c, l, rfl, hnc, hc, hr, _, _⟩ := open_clus k2 h2
  exact clusterSame_any i j A n c l W hr (Nat.le_trans hnc hc)

set_option maxRecDepth 100000 in
theorem clusterSame_lifted (os : Os) (started : os.Started) (H : Type) (enc : TypeId × Value → H) :
    ReturnsInHanded {} Try.checked os 7 .any (Rows.clusterSameSpec.pre6 enc Try.checked.prog Try.f7 [] false) (Rows.clusterSameSpec.post enc Try.prog Try.f7 false true false false) :=
  law_lifted_p started Rows.clusterSameSpec 7 Try.f7 4 rfl (fun ds h => by rw [Try.params7] at h; match ds, h with | [d0, d1, d2], _ => rfl) Try.func7 (by kernel_rfl) rfl Try.underlying4
    (fun t ht => by
      rw [Try.params7] at ht
      have hall : ([3, 3, 22].all fun u => Try.prog.readableRec u && decide (u < Try.prog.types.size)) = true := by kernel_rfl
      have := List.all_eq_true.1 hall t (by simpa using ht)
      simpa using this)
    (ChangeSpec.witness6 (enc := enc) (C := Try.checked) (os := os) false ⟨#[], #[.int .i64 0, .int .i64 0, .slice none 0 0], []⟩ 8 (by kernel_rfl) (by kernel_rfl) (by kernel_rfl) (by kernel_rfl)) clusterSame_walk

theorem clusterSame_holds : Rows.ClusterSameSaid :=
  OpenClaim.holds_of_wide 7 Try.f7 rfl rfl rfl rfl rfl rfl rfl ⟨rfl, rfl, rfl, rfl, rfl⟩ rfl rfl rfl rfl rfl (by kernel_rfl) Try.func7 (by kernel_rfl)
    (of_decide_eq_true (by kernel_rfl)) (by unfold Func.isWrapper; first | (rw [if_pos (by decide +kernel)]; kernel_rfl) | (rw [if_neg (by decide +kernel)]; exact ⟨rfl, rfl⟩))
    (fun os started H enc _ => clusterSame_lifted os started H enc)
#print axioms clusterSame_holds
end Go.Proofs.Ytmgoakfnmgngoaa
