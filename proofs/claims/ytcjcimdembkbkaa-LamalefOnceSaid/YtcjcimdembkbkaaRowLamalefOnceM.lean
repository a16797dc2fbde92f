/- The row of naskhlaw14.LamalefOnce: for every text and either through the call returns true and the arguments read as they did. No condition. -/
import Derived.Test.YtcjcimdembkbkaaRows
import Derived.OpenShut
import Derived.Lib.SmallJoins
import Derived.Test.YtcjcimdembkbkaaMgLo8
namespace Go.Proofs.Ytcjcimdembkbkaa
open Go.ChangeShapes Go.WideShapes Go.ChangeAt Go.RowKit Go.Joins

set_option maxRecDepth 100000 in
theorem lamalefOnce_walk {H : Type} {enc : TypeId × Value → H} : LawWalkP H enc 10 Try.f10 := by
  intro W base args ds p hval hA
  rw [Try.params10] at hA hval
  obtain ⟨v0, v1, d0, d1, p0, p1, rfl, rfl, rfl, h0, h1⟩ := trodAll_two hA
  have k0 := hval 0 22 v0 rfl rfl
  have k1 := hval 1 4 v1 rfl rfl
  obtain ⟨A, n, c, l, rfl, hnc, hc, hr, _, _⟩ := open_ints_ k0 h0
  obtain ⟨b, rfl, rfl, rfl⟩ := open_bool Try.underlying4 k1 h1
  exact lamalefOnce_any A n c l b W hr (Nat.le_trans hnc hc)

set_option maxRecDepth 100000 in
theorem lamalefOnce_lifted (os : Os) (started : os.Started) (H : Type) (enc : TypeId × Value → H) :
    ReturnsInHanded {} Try.checked os 10 .any (Rows.lamalefOnceSpec.pre6 enc Try.checked.prog Try.f10 [] false) (Rows.lamalefOnceSpec.post enc Try.prog Try.f10 false true false false) :=
  law_lifted_p started Rows.lamalefOnceSpec 10 Try.f10 4 rfl (fun ds h => by rw [Try.params10] at h; match ds, h with | [d0, d1], _ => rfl) Try.func10 (by kernel_rfl) rfl Try.underlying4
    (fun t ht => by
      rw [Try.params10] at ht
      have hall : ([22, 4].all fun u => Try.prog.readableRec u && decide (u < Try.prog.types.size)) = true := by kernel_rfl
      have := List.all_eq_true.1 hall t (by simpa using ht)
      simpa using this)
    (ChangeSpec.witness6 (enc := enc) (C := Try.checked) (os := os) false ⟨#[], #[.slice none 0 0, .bool false], []⟩ 8 (by kernel_rfl) (by kernel_rfl) (by kernel_rfl) (by kernel_rfl)) lamalefOnce_walk

theorem lamalefOnce_holds : Rows.LamalefOnceSaid :=
  OpenClaim.holds_of_wide 10 Try.f10 rfl rfl rfl rfl rfl rfl rfl ⟨rfl, rfl, rfl, rfl, rfl⟩ rfl rfl rfl rfl rfl (by kernel_rfl) Try.func10 (by kernel_rfl)
    (of_decide_eq_true (by kernel_rfl)) (by unfold Func.isWrapper; first | (rw [if_pos (by decide +kernel)]; kernel_rfl) | (rw [if_neg (by decide +kernel)]; exact ⟨rfl, rfl⟩))
    (fun os started H enc _ => lamalefOnce_lifted os started H enc)
#print axioms lamalefOnce_holds
end Go.Proofs.Ytcjcimdembkbkaa
