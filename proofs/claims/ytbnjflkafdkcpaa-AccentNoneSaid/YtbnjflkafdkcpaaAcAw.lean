/- naskhlaw31.awake. -/
import Derived.Test.YtbnjflkafdkcpaaAcP3
import Derived.Test.YtbnjflkafdkcpaaAcP5
import Derived.Test.YtbnjflkafdkcpaaEq
namespace Go.Proofs.Ytbnjflkafdkcpaa
open Go.RowKit

theorem ac_awake : accR [2, 1, 0] [1, 1, 1] [false, true, true] = [0, 1, 2] := by decide +kernel
theorem ac_awake2 : accE [2, 1, 0] [1, 1, 1] [false, true, true] = 0 := by decide +kernel
theorem ac_awake3 : (grpF [1, 1] [false, true]).length = 1 := by decide +kernel
set_option maxRecDepth 100000 in
set_option maxHeartbeats 2000000 in
theorem awakeAc_any (w : World) : Calls Try.prog 8 #[] w fun e w' => e = .returned (.bool true) ∧ Below w.heap.size w w' := by
  obtain ⟨wa, hwa⟩ : ∃ wa, w.alloc (.cells #[.int .i64 2, .int .i64 1, .int .i64 0] 3) = wa := ⟨_, rfl⟩
  obtain ⟨wb, hwb⟩ : ∃ wb, wa.alloc (.cells #[.int .i64 1, .int .i64 1, .int .i64 1] 3) = wb := ⟨_, rfl⟩
  have hsa : wa.heap.size = w.heap.size + 1 := by rw [← hwa, World.size_alloc]
  have hsb : wb.heap.size = w.heap.size + 2 := by rw [← hwb, World.size_alloc, hsa]
  have hba : Below w.heap.size w wa := by rw [← hwa]; exact below_new w _
  have hbb : Below w.heap.size w wb := by rw [← hwb]; exact hba.alloc hba.size _
  have hra : Rd wa 1 (some ⟨w.heap.size, 0, none⟩) 3 ([2, 1, 0].map (Value.int .i64)) := by rw [← hwa]; exact Rd.new_ w [.int .i64 2, .int .i64 1, .int .i64 0] 3
  have hra2 : Rd wb 1 (some ⟨w.heap.size, 0, none⟩) 3 ([2, 1, 0].map (Value.int .i64)) := by rw [← hwb]; exact hra.alloc _
  have hrb : Rd wb 1 (some ⟨w.heap.size + 1, 0, none⟩) 3 ([1, 1, 1].map (Value.int .i64)) := by rw [← hwb, ← hsa]; exact Rd.new_ wa [.int .i64 1, .int .i64 1, .int .i64 1] 3
  have hrc : Rd (wb.alloc (.cells #[.bool false, .bool true, .bool true] 4)) 1 (some ⟨w.heap.size + 2, 0, none⟩) 3 ([false, true, true].map Value.bool) := by rw [← hsb]; exact Rd.new_ wb [.bool false, .bool true, .bool true] 4
  have HO := Lib.hid (acOrder_any (some ⟨w.heap.size, 0, none⟩) (some ⟨w.heap.size + 1, 0, none⟩) (some ⟨w.heap.size + 2, 0, none⟩) 3 3 3 3 3 3 [2, 1, 0] [1, 1, 1] [false, true, true] (wb.alloc (.cells #[.bool false, .bool true, .bool true] 4)) (hra2.alloc _) (hrb.alloc _) hrc (by omega))
  rw [ac_awake, ac_awake2] at HO
  have HB1 : Hid (Below w.heap.size w (wb.alloc (.cells #[.bool false, .bool true, .bool true] 4))) := Lib.hid (hbb.alloc hbb.size _)
  rw [← hwb, ← hwa] at HO HB1
  clear hba hbb hra hra2 hrb hrc hsa hsb hwb hwa
  have HG := Lib.hid (fun (W : World) => acGroups_any (some ⟨W.heap.size, 0, none⟩) (some ⟨W.heap.size + 1, 0, none⟩) 2 2 2 2 [1, 1] [false, true] ((W.alloc (.cells #[.int .i64 1, .int .i64 1] 3)).alloc (.cells #[.bool false, .bool true] 4)) ((Rd.new_ W [.int .i64 1, .int .i64 1] 3).alloc _) (by have := Rd.new_ (W.alloc (.cells #[.int .i64 1, .int .i64 1] 3)) [.bool false, .bool true] 4; simpa using this) (by omega))
  simp only [ac_awake3] at HG
  have HB9 := Lib.hid (fun (W : World) => show Below W.heap.size W ((W.alloc (.cells #[.int .i64 1, .int .i64 1] 3)).alloc (.cells #[.bool false, .bool true] 4)) from (below_new W _).alloc (by simp) _)
  go_enter Try.func8, Try.ntmps8
  go_wp2_with (first
    | (go_at_call 9; refine HO.out.mono ?_; rintro e w3 ⟨v3, rfl, hv3, hb3⟩; obtain ⟨A3, c3, he3, _⟩ := own_form hv3; subst he3; have HV3 := Lib.hid hv3; have HB3 := Lib.hid (below_self HB1.out hb3); clear hv3 hb3)
    | (go_at_call 14; refine (equalInt_b A3 (some ⟨w3.heap.size, 0, none⟩) 3 3 c3 3 [0, 1, 2] [0, 1, 2] (w3.alloc (.cells #[.int .i64 0, .int .i64 1, .int .i64 2] 3)) ((Rd.of_own HV3.out).alloc _) (Rd.new_ w3 [.int .i64 0, .int .i64 1, .int .i64 2] _) (by unfold maxLen; omega) (by unfold maxLen; omega)).mono ?_; rintro e w5 ⟨rfl, hb5⟩; have HB5 := Lib.hid (below_self HB3.out (below_self (below_new w3 _) hb5)); clear hb5)
    | (go_at_call 12; refine (HG.out w5).mono ?_; rintro e w6 ⟨v6, rfl, hv6, hb6⟩; obtain ⟨A6, c6, he6, _⟩ := own_form hv6; subst he6; have HB6 := Lib.hid (below_self HB5.out (below_self (HB9.out w5) hb6)); clear hv6 hb6)
    | fail)
  go_ret
  exact ⟨rfl, HB6.out⟩
end Go.Proofs.Ytbnjflkafdkcpaa
