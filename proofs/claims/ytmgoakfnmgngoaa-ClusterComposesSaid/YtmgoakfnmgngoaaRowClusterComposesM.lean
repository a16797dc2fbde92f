/- The row of naskhlaw04.ClusterComposes: for every two slices of clusters the call returns true and the arguments read as they did. No condition. -/
import Derived.Test.YtmgoakfnmgngoaaRows
import Derived.OpenShut
import Derived.Lib.SmallJoins
import Derived.Test.YtmgoakfnmgngoaaMgCp11
import Derived.Test.YtmgoakfnmgngoaaMgCp16
import Derived.Test.YtmgoakfnmgngoaaMgCp21
namespace Go.Proofs.Ytmgoakfnmgngoaa
open Go.ChangeShapes Go.WideShapes Go.ChangeAt Go.RowKit Go.Joins

set_option maxRecDepth 100000 in
theorem clusterComposes_walk {H : Type} {enc : TypeId × Value → H} : LawWalkP H enc 6 Try.f6 := by
  intro W base args ds p hval hA
  rw [Try.params6] at hA hval
  obtain ⟨v0, v1, d0, d1, p0, p1, rfl, rfl, rfl, h0, h1⟩ := trodAll_two hA
  have k0 := hval 0 22 v0 rfl rfl
  have k1 := hval 1 22 v1 rfl rfl
  obtain ⟨A, n, c, l, rfl, hnc, hc, hr, _, _⟩ := open_clus k0 h0
  obtain ⟨B, m, d, k, rfl, hmd, hd, hs, _, _⟩ := open_clus k1 h1
  exact clusterComposes_any A B n m c d l k W hr hs (Nat.le_trans hnc hc) (Nat.le_trans hmd hd) hmd hd

set_option maxRecDepth 100000 in
theorem clusterComposes_lifted (os : Os) (started : os.Started) (H : Type) (enc : TypeId × Value → H) :
    ReturnsInHanded {} Try.checked os 6 .any (Rows.clusterComposesSpec.pre6 enc Try.checked.prog Try.f6 [] false) (Rows.clusterComposesSpec.post enc Try.prog Try.f6 false true false false) :=
  law_lifted_p started Rows.clusterComposesSpec 6 Try.f6 4 rfl (fun ds h => by rw [Try.params6] at h; match ds, h with | [d0, d1], _ => rfl) Try.func6 (by kernel_rfl) rfl Try.underlying4
    (fun t ht => by
      rw [Try.params6] at ht
      have hall : ([22, 22].all fun u => Try.prog.readableRec u && decide (u < Try.prog.types.size)) = true := by kernel_rfl
      have := List.all_eq_true.1 hall t (by simpa using ht)
      simpa using this)
    (ChangeSpec.witness6 (enc := enc) (C := Try.checked) (os := os) false ⟨#[], #[.slice none 0 0, .slice none 0 0], []⟩ 8 (by kernel_rfl) (by kernel_rfl) (by kernel_rfl) (by kernel_rfl)) clusterComposes_walk

theorem clusterComposes_holds : Rows.ClusterComposesSaid :=
  OpenClaim.holds_of_wide 6 Try.f6 rfl rfl rfl rfl rfl rfl rfl ⟨rfl, rfl, rfl, rfl, rfl⟩ rfl rfl rfl rfl rfl (by kernel_rfl) Try.func6 (by kernel_rfl)
    (of_decide_eq_true (by kernel_rfl)) (by unfold Func.isWrapper; first | (rw [if_pos (by decide +kernel)]; kernel_rfl) | (rw [if_neg (by decide +kernel)]; exact ⟨rfl, rfl⟩))
    (fun os started H enc _ => clusterComposes_lifted os started H enc)
#print axioms clusterComposes_holds
end Go.Proofs.Ytmgoakfnmgngoaa
