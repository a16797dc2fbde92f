/- The row of naskhlaw05.IndexClusters: for all sizes and every slice of clusters the call returns true and the arguments read as they did. No condition. -/
import Derived.Test.YtpllgonjhljjkaaRows
import Derived.Test.YtpllgonjhljjkaaIdxL4
import Derived.Test.YtpllgonjhljjkaaOpenC
import Derived.Test.YtpllgonjhljjkaaLawP
import Derived.OpenShut
import Derived.Lib.SmallJoins
namespace Go.Proofs.Ytpllgonjhljjkaa
open Go.ChangeShapes Go.WideShapes Go.ChangeAt Go.RowKit Go.Joins

set_option maxRecDepth 100000 in
theorem indexClusters_walk {H : Type} {enc : TypeId × Value → H} : LawWalkP H enc 5 Try.f5 := by
  intro W base args ds p hval hA
  rw [Try.params5] at hA hval
  obtain ⟨v0, v1, v2, d0, d1, d2, p0, p1, p2, rfl, rfl, rfl, h0, h1, h2⟩ := trodAll_three hA
  have k0 := hval 0 22 v0 rfl rfl
  have k1 := hval 1 22 v1 rfl rfl
  have k2 := hval 2 44 v2 rfl rfl
  obtain ⟨A, n, c, a, rfl, hnc, hc, hr, _, _⟩ := open_ints_ k0 h0
  obtain ⟨B, m, d, b, rfl, hmd, hd, hs, _, _⟩ := open_ints_ k1 h1
  obtain ⟨C, q, e, l, rfl, hqe, he, ht, _, _⟩ := open_clus k2 h2
  exact indexClusters_any A B C n m q c d e a b l W hr (Nat.le_trans hnc hc) hs (Nat.le_trans hmd hd) ht (Nat.le_trans hqe he)

set_option maxRecDepth 100000 in
theorem indexClusters_lifted (os : Os) (started : os.Started) (H : Type) (enc : TypeId × Value → H) :
    ReturnsInHanded {} Try.checked os 5 .any (Rows.indexClustersSpec.pre6 enc Try.checked.prog Try.f5 [] false) (Rows.indexClustersSpec.post enc Try.prog Try.f5 false true false false) :=
  law_lifted_p started Rows.indexClustersSpec 5 Try.f5 4 rfl (fun ds h => by rw [Try.params5] at h; match ds, h with | [d0, d1, d2], _ => rfl) Try.func5 (by kernel_rfl) rfl Try.underlying4
    (fun t ht => by
      rw [Try.params5] at ht
      have hall : ([22, 22, 44].all fun u => Try.prog.readableRec u && decide (u < Try.prog.types.size)) = true := by kernel_rfl
      have := List.all_eq_true.1 hall t (by simpa using ht)
      simpa using this)
    (ChangeSpec.witness6 (enc := enc) (C := Try.checked) (os := os) false ⟨#[], #[.slice none 0 0, .slice none 0 0, .slice none 0 0], []⟩ 8 (by kernel_rfl) (by kernel_rfl) (by kernel_rfl) (by kernel_rfl)) indexClusters_walk

theorem indexClusters_holds : Rows.IndexClustersSaid :=
  OpenClaim.holds_of_wide 5 Try.f5 rfl rfl rfl rfl rfl rfl rfl ⟨rfl, rfl, rfl, rfl, rfl⟩ rfl rfl rfl rfl rfl (by kernel_rfl) Try.func5 (by kernel_rfl)
    (of_decide_eq_true (by kernel_rfl)) (by unfold Func.isWrapper; first | (rw [if_pos (by decide +kernel)]; kernel_rfl) | (rw [if_neg (by decide +kernel)]; exact ⟨rfl, rfl⟩))
    (fun os started H enc _ => indexClusters_lifted os started H enc)
#print axioms indexClusters_holds
end Go.Proofs.Ytpllgonjhljjkaa
