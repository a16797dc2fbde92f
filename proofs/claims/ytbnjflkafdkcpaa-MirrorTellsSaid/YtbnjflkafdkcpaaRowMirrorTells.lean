/- The row of naskhlaw32.MirrorTells: for every two slices of numbers the call returns true and the arguments read as they did. No condition. -/
import Derived.Test.YtbnjflkafdkcpaaRows
import Derived.Test.YtbnjflkafdkcpaaMrT
import Derived.Test.YtbnjflkafdkcpaaOpenW
import Derived.Test.YtbnjflkafdkcpaaLawP
import Derived.OpenShut
import Derived.Lib.SmallJoins
namespace Go.Proofs.Ytbnjflkafdkcpaa
open Go.ChangeShapes Go.WideShapes Go.ChangeAt Go.RowKit Go.Joins

set_option maxRecDepth 100000 in
theorem mirrorTells_walk {H : Type} {enc : TypeId × Value → H} : LawWalkP H enc 6 Try.f6 := by
  intro W base args ds p hval hA
  rw [Try.params6] at hA hval
  obtain ⟨v0, v1, d0, d1, p0, p1, rfl, rfl, rfl, h0, h1⟩ := trodAll_two hA
  have k0 := hval 0 22 v0 rfl rfl
  have k1 := hval 1 22 v1 rfl rfl
  obtain ⟨A, n, c, l, rfl, hnc, hc, hr, _, hf⟩ := open_ints_ k0 h0
  obtain ⟨B, m, d, k, rfl, hmd, hd, hs, _, _⟩ := open_ints_ k1 h1
  exact mirrorTells_any A B n c m d l k W hr hs (fun x hx => wf_of_fit (hf x hx))

set_option maxRecDepth 100000 in
theorem mirrorTells_lifted (os : Os) (started : os.Started) (H : Type) (enc : TypeId × Value → H) :
    ReturnsInHanded {} Try.checked os 6 .any (Rows.mirrorTellsSpec.pre6 enc Try.checked.prog Try.f6 [] false) (Rows.mirrorTellsSpec.post enc Try.prog Try.f6 false true false false) :=
  law_lifted_p started Rows.mirrorTellsSpec 6 Try.f6 4 rfl (fun ds h => by rw [Try.params6] at h; match ds, h with | [d0, d1], _ => rfl) Try.func6 (by kernel_rfl) rfl Try.underlying4
    (fun t ht => by
      rw [Try.params6] at ht
      have hall : ([22, 22].all fun u => Try.prog.readableRec u && decide (u < Try.prog.types.size)) = true := by kernel_rfl
      have := List.all_eq_true.1 hall t (by simpa using ht)
      simpa using this)
    (ChangeSpec.witness6 (enc := enc) (C := Try.checked) (os := os) false ⟨#[], #[.slice none 0 0, .slice none 0 0], []⟩ 8 (by kernel_rfl) (by kernel_rfl) (by kernel_rfl) (by kernel_rfl)) mirrorTells_walk

theorem mirrorTells_holds : Rows.MirrorTellsSaid :=
  OpenClaim.holds_of_wide 6 Try.f6 rfl rfl rfl rfl rfl rfl rfl ⟨rfl, rfl, rfl, rfl, rfl⟩ rfl rfl rfl rfl rfl (by kernel_rfl) Try.func6 (by kernel_rfl)
    (of_decide_eq_true (by kernel_rfl)) (by unfold Func.isWrapper; first | (rw [if_pos (by decide +kernel)]; kernel_rfl) | (rw [if_neg (by decide +kernel)]; exact ⟨rfl, rfl⟩))
    (fun os started H enc _ => mirrorTells_lifted os started H enc)
#print axioms mirrorTells_holds
end Go.Proofs.Ytbnjflkafdkcpaa
