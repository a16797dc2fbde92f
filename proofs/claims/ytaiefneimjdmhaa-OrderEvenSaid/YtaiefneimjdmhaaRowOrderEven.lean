/- The row of naskhlaw29.OrderEven: for every slice of numbers and every two bytes the call returns true and the arguments read as they did. No condition. -/
import Derived.Test.YtaiefneimjdmhaaRows
import Derived.Test.YtaiefneimjdmhaaOrL4
import Derived.Test.YtaiefneimjdmhaaOpenBy
import Derived.Test.YtaiefneimjdmhaaLawP
import Derived.OpenShut
import Derived.Lib.SmallJoins
namespace Go.Proofs.Ytaiefneimjdmhaa
open Go.ChangeShapes Go.WideShapes Go.ChangeAt Go.RowKit Go.Joins

set_option maxRecDepth 100000 in
theorem orderEven_walk {H : Type} {enc : TypeId × Value → H} : LawWalkP H enc 6 Try.f6 := by
  intro W base args ds p hval hA
  rw [Try.params6] at hA hval
  obtain ⟨v0, v1, v2, d0, d1, d2, p0, p1, p2, rfl, rfl, rfl, h0, h1, h2⟩ := trodAll_three hA
  have k0 := hval 0 22 v0 rfl rfl
  have k1 := hval 1 5 v1 rfl rfl
  have k2 := hval 2 5 v2 rfl rfl
  obtain ⟨A, n, c, l, rfl, hnc, hc, hr, _, _⟩ := open_ints_ k0 h0
  obtain ⟨x, rfl, rfl, rfl, f0⟩ := open_int Try.underlying5 k1 h1
  obtain ⟨y, rfl, rfl, rfl, f1⟩ := open_int Try.underlying5 k2 h2
  obtain ⟨a, rfl, ha⟩ := byte_of_wf f0
  obtain ⟨b, rfl, hb⟩ := byte_of_wf f1
  exact orderEven_any A n c l a b W hr (Nat.le_trans hnc hc) ⟨by omega, by omega⟩ ⟨by omega, by omega⟩

set_option maxRecDepth 100000 in
theorem orderEven_lifted (os : Os) (started : os.Started) (H : Type) (enc : TypeId × Value → H) :
    ReturnsInHanded {} Try.checked os 6 .any (Rows.orderEvenSpec.pre6 enc Try.checked.prog Try.f6 [] false) (Rows.orderEvenSpec.post enc Try.prog Try.f6 false true false false) :=
  law_lifted_p started Rows.orderEvenSpec 6 Try.f6 4 rfl (fun ds h => by rw [Try.params6] at h; match ds, h with | [d0, d1, d2], _ => rfl) Try.func6 (by kernel_rfl) rfl Try.underlying4
    (fun t ht => by
      rw [Try.params6] at ht
      have hall : ([22, 5, 5].all fun u => Try.prog.readableRec u && decide (u < Try.prog.types.size)) = true := by kernel_rfl
      have := List.all_eq_true.1 hall t (by simpa using ht)
      simpa using this)
    (ChangeSpec.witness6 (enc := enc) (C := Try.checked) (os := os) false ⟨#[], #[.slice none 0 0, .int .u8 0, .int .u8 0], []⟩ 8 (by kernel_rfl) (by kernel_rfl) (by kernel_rfl) (by kernel_rfl)) orderEven_walk

theorem orderEven_holds : Rows.OrderEvenSaid :=
  OpenClaim.holds_of_wide 6 Try.f6 rfl rfl rfl rfl rfl rfl rfl ⟨rfl, rfl, rfl, rfl, rfl⟩ rfl rfl rfl rfl rfl (by kernel_rfl) Try.func6 (by kernel_rfl)
    (of_decide_eq_true (by kernel_rfl)) (by unfold Func.isWrapper; first | (rw [if_pos (by decide +kernel)]; kernel_rfl) | (rw [if_neg (by decide +kernel)]; exact ⟨rfl, rfl⟩))
    (fun os started H enc _ => orderEven_lifted os started H enc)
#print axioms orderEven_holds
end Go.Proofs.Ytaiefneimjdmhaa
