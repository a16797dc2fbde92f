/- The row of naskhlaw13.JoinApart: for every three slices of types the call returns true and the arguments read as they did. No condition. -/
import Derived.Test.YtcjcimdembkbkaaRows
import Derived.Test.YtcjcimdembkbkaaJnL3
import Derived.Test.YtcjcimdembkbkaaOpenI
import Derived.Test.YtcjcimdembkbkaaLawP
import Derived.OpenShut
import Derived.Lib.SmallJoins
namespace Go.Proofs.Ytcjcimdembkbkaa
open Go.ChangeShapes Go.WideShapes Go.ChangeAt Go.RowKit Go.Joins

set_option maxRecDepth 100000 in
theorem joinApart_walk {H : Type} {enc : TypeId × Value → H} : LawWalkP H enc 6 Try.f6 := by
  intro W base args ds p hval hA
  rw [Try.params6] at hA hval
  obtain ⟨v0, v1, v2, d0, d1, d2, p0, p1, p2, rfl, rfl, rfl, h0, h1, h2⟩ := trodAll_three hA
  have k0 := hval 0 22 v0 rfl rfl
  have k1 := hval 1 22 v1 rfl rfl
  have k2 := hval 2 22 v2 rfl rfl
  obtain ⟨A, n, c, l, rfl, hnc, hc, hr, _, _⟩ := open_ints_ k0 h0
  obtain ⟨B, m, d, k, rfl, hmd, hd, hs, _, _⟩ := open_ints_ k1 h1
  obtain ⟨C, o, f, j, rfl, hof, hf, ht, _, _⟩ := open_ints_ k2 h2
  exact joinApart_any A B C n m o c d f l k j W hr hs ht (Nat.le_trans hnc hc) (Nat.le_trans hmd hd) (Nat.le_trans hof hf)

set_option maxRecDepth 100000 in
theorem joinApart_lifted (os : Os) (started : os.Started) (H : Type) (enc : TypeId × Value → H) :
    ReturnsInHanded {} Try.checked os 6 .any (Rows.joinApartSpec.pre6 enc Try.checked.prog Try.f6 [] false) (Rows.joinApartSpec.post enc Try.prog Try.f6 false true false false) :=
  law_lifted_p started Rows.joinApartSpec 6 Try.f6 4 rfl (fun ds h => by rw [Try.params6] at h; match ds, h with | [d0, d1, d2], _ => rfl) Try.func6 (by kernel_rfl) rfl Try.underlying4
    (fun t ht => by
      rw [Try.params6] at ht
      have hall : ([22, 22, 22].all fun u => Try.prog.readableRec u && decide (u < Try.prog.types.size)) = true := by kernel_rfl
      have := List.all_eq_true.1 hall t (by simpa using ht)
      simpa using this)
    (ChangeSpec.witness6 (enc := enc) (C := Try.checked) (os := os) false ⟨#[], #[.slice none 0 0, .slice none 0 0, .slice none 0 0], []⟩ 8 (by kernel_rfl) (by kernel_rfl) (by kernel_rfl) (by kernel_rfl)) joinApart_walk

theorem joinApart_holds : Rows.JoinApartSaid :=
  OpenClaim.holds_of_wide 6 Try.f6 rfl rfl rfl rfl rfl rfl rfl ⟨rfl, rfl, rfl, rfl, rfl⟩ rfl rfl rfl rfl rfl (by kernel_rfl) Try.func6 (by kernel_rfl)
    (of_decide_eq_true (by kernel_rfl)) (by unfold Func.isWrapper; first | (rw [if_pos (by decide +kernel)]; kernel_rfl) | (rw [if_neg (by decide +kernel)]; exact ⟨rfl, rfl⟩))
    (fun os started H enc _ => joinApart_lifted os started H enc)
#print axioms joinApart_holds
end Go.Proofs.Ytcjcimdembkbkaa
