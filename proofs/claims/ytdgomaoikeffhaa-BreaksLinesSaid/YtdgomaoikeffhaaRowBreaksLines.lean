/- The row of naskhlaw28.BreaksLines: for every slice of spans, every slice of numbers and every number the call returns true and the arguments read as they did. No condition. -/
import Derived.Test.YtdgomaoikeffhaaRows
import Derived.Test.YtdgomaoikeffhaaBrL2
import Derived.Test.YtdgomaoikeffhaaOpenR
import Derived.Test.YtdgomaoikeffhaaLawP
import Derived.OpenShut
import Derived.Lib.SmallJoins
namespace Go.Proofs.Ytdgomaoikeffhaa
open Go.ChangeShapes Go.WideShapes Go.ChangeAt Go.RowKit Go.Joins

set_option maxRecDepth 100000 in
theorem breaksLines_walk {H : Type} {enc : TypeId × Value → H} : LawWalkP H enc 6 Try.f6 := by
  intro W base args ds p hval hA
  rw [Try.params6] at hA hval
  obtain ⟨v0, v1, v2, d0, d1, d2, p0, p1, p2, rfl, rfl, rfl, h0, h1, h2⟩ := trodAll_three hA
  have k0 := hval 0 29 v0 rfl rfl
  have k1 := hval 1 22 v1 rfl rfl
  have k2 := hval 2 3 v2 rfl rfl
  obtain ⟨A, n, c, l, rfl, hnc, hc, hr, hf⟩ := open_spans k0 h0
  obtain ⟨B, m, d, k, rfl, hmd, hd, hs, _, _⟩ := open_ints_ k1 h1
  obtain ⟨x, rfl, rfl, rfl, f0⟩ := open_int Try.underlying3 k2 h2
  exact breaksLines_any A B n m c d l k x W hr hs (Nat.le_trans hnc hc) (Nat.le_trans hmd hd)

set_option maxRecDepth 100000 in
theorem breaksLines_lifted (os : Os) (started : os.Started) (H : Type) (enc : TypeId × Value → H) :
    ReturnsInHanded {} Try.checked os 6 .any (Rows.breaksLinesSpec.pre6 enc Try.checked.prog Try.f6 [] false) (Rows.breaksLinesSpec.post enc Try.prog Try.f6 false true false false) :=
  law_lifted_p started Rows.breaksLinesSpec 6 Try.f6 4 rfl (fun ds h => by rw [Try.params6] at h; match ds, h with | [d0, d1, d2], _ => rfl) Try.func6 (by kernel_rfl) rfl Try.underlying4
    (fun t ht => by
      rw [Try.params6] at ht
      have hall : ([29, 22, 3].all fun u => Try.prog.readableRec u && decide (u < Try.prog.types.size)) = true := by kernel_rfl
      have := List.all_eq_true.1 hall t (by simpa using ht)
      simpa using this)
    (ChangeSpec.witness6 (enc := enc) (C := Try.checked) (os := os) false ⟨#[], #[.slice none 0 0, .slice none 0 0, .int .i64 0], []⟩ 8 (by kernel_rfl) (by kernel_rfl) (by kernel_rfl) (by kernel_rfl)) breaksLines_walk

theorem breaksLines_holds : Rows.BreaksLinesSaid :=
  OpenClaim.holds_of_wide 6 Try.f6 rfl rfl rfl rfl rfl rfl rfl ⟨rfl, rfl, rfl, rfl, rfl⟩ rfl rfl rfl rfl rfl (by kernel_rfl) Try.func6 (by kernel_rfl)
    (of_decide_eq_true (by kernel_rfl)) (by unfold Func.isWrapper; first | (rw [if_pos (by decide +kernel)]; kernel_rfl) | (rw [if_neg (by decide +kernel)]; exact ⟨rfl, rfl⟩))
    (fun os started H enc _ => breaksLines_lifted os started H enc)
#print axioms breaksLines_holds
end Go.Proofs.Ytdgomaoikeffhaa
