/- The row of naskhlaw06.TrieGets: for all ranges, every number and all codes the call returns true and the arguments read as they did. No condition. -/
import Derived.Test.YtmjpblpdmhblbaaRows
import Derived.Test.YtmjpblpdmhblbaaTrL2
import Derived.Test.YtmjpblpdmhblbaaOpenG
import Derived.Test.YtmjpblpdmhblbaaLawP
import Derived.OpenShut
import Derived.Lib.SmallJoins
namespace Go.Proofs.Ytmjpblpdmhblbaa
open Go.ChangeShapes Go.WideShapes Go.ChangeAt Go.RowKit Go.Joins

set_option maxRecDepth 100000 in
theorem trieGets_walk {H : Type} {enc : TypeId × Value → H} : LawWalkPS H enc 3 Try.f3 := by
  intro W base args ds p hval hA hw
  rw [Try.params3] at hA hval hw
  obtain ⟨v0, v1, v2, d0, d1, d2, p0, p1, p2, rfl, rfl, rfl, h0, h1, h2⟩ := trodAll_three hA
  have k0 := hval 0 22 v0 rfl rfl
  have k1 := hval 1 3 v1 rfl rfl
  have k2 := hval 2 23 v2 rfl rfl
  obtain ⟨A, n, c, l, rfl, hnc, hc, hr, hl, hfit⟩ := open_ranges k0 h0
  obtain ⟨z, rfl, rfl, rfl, hz⟩ := open_int Try.underlying3 k1 h1
  have hs0 := open_len Try.underlying22 h0
  obtain ⟨B, m, d, codes, rfl, _, _, hs, _, _⟩ := open_ints_ k2 h2
  refine trieGets_any A n c l z B m d codes W hr (Nat.le_trans hnc hc) hnc ?_ hs (fit_of_wf hz) hfit
  rcases hs0 with rfl | ⟨elems, spare, rfl, he⟩
  · omega
  · have hb := hw 0 22 (.slice elems spare) rfl rfl ((elems.length + spare.length) * Try.prog.bytesOf 27) (by simp [DataW.weights, Try.underlying22])
    rw [show Try.prog.bytesOf 27 = 24 by kernel_rfl, he] at hb
    have := reachBytes_lt
    have h3 : (n + spare.length) * 24 = n * 24 + spare.length * 24 := by omega
    omega

set_option maxRecDepth 100000 in
theorem trieGets_lifted (os : Os) (started : os.Started) (H : Type) (enc : TypeId × Value → H) :
    ReturnsInHanded {} Try.checked os 3 .any (Rows.trieGetsSpec.pre6 enc Try.checked.prog Try.f3 [] false) (Rows.trieGetsSpec.post enc Try.prog Try.f3 false true false false) :=
  law_lifted_ps started Rows.trieGetsSpec 3 Try.f3 4 rfl (fun ds h => by rw [Try.params3] at h; match ds, h with | [d0, d1, d2], _ => rfl) Try.func3 (by kernel_rfl) rfl Try.underlying4
    (fun t ht => by
      rw [Try.params3] at ht
      have hall : ([22, 3, 23].all fun u => Try.prog.readableRec u && decide (u < Try.prog.types.size)) = true := by kernel_rfl
      have := List.all_eq_true.1 hall t (by simpa using ht)
      simpa using this)
    (ChangeSpec.witness6 (enc := enc) (C := Try.checked) (os := os) false ⟨#[], #[.slice none 0 0, .int .i64 0, .slice none 0 0], []⟩ 8 (by kernel_rfl) (by kernel_rfl) (by kernel_rfl) (by kernel_rfl)) trieGets_walk

theorem trieGets_holds : Rows.TrieGetsSaid :=
  OpenClaim.holds_of_wide 3 Try.f3 rfl rfl rfl rfl rfl rfl rfl ⟨rfl, rfl, rfl, rfl, rfl⟩ rfl rfl rfl rfl rfl (by kernel_rfl) Try.func3 (by kernel_rfl)
    (of_decide_eq_true (by kernel_rfl)) (by unfold Func.isWrapper; first | (rw [if_pos (by decide +kernel)]; kernel_rfl) | (rw [if_neg (by decide +kernel)]; exact ⟨rfl, rfl⟩))
    (fun os started H enc _ => trieGets_lifted os started H enc)
#print axioms trieGets_holds
end Go.Proofs.Ytmjpblpdmhblbaa
