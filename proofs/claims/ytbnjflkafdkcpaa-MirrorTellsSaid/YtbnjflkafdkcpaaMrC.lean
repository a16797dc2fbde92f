/- mirror.Codes and mirror.Count, walked. -/
import Derived.Test.YtbnjflkafdkcpaaMrE
namespace Go.Proofs.Ytbnjflkafdkcpaa
open Go.RowKit

theorem intBox : (22 : TypeId) ≠ 3 := by decide
set_option maxRecDepth 100000 in
set_option maxHeartbeats 2000000 in
theorem mrPush_any (w0 : World) (base b k : Nat) (x z : Int) (v : Value) (xs : List Int) (w : World) (h : BxR w0 base b 22 3 1 v k (xs.map (Value.int .i64)) w) (hk : k ≤ 100000) :
    Calls Try.prog 37 #[.int .i64 x, .int .i64 z, .pointer (some ⟨b, 0, none⟩)] w fun e w' => e = .returned (.tuple #[]) ∧ (∃ v', BxR w0 base b 22 3 1 v' (k + 1) ((xs ++ [z]).map (Value.int .i64)) w') ∧ NoC w w' := by
  have H := Lib.hid h
  have HA := Lib.hid (h.low (below_new w (.cells #[.int .i64 z] 3)))
  have HN0 := Lib.hid (NoC.low (below_new w (.cells #[.int .i64 z] 3)))
  have hsz := h.base_le
  obtain ⟨A, cv, rfl, _⟩ := own_form h.row
  have c0 : w.cell? ⟨b, 0, none⟩ = some (.slice A k cv) := hp_cell h.box rfl
  clear h
  go_enter Try.func37, Try.ntmps37
  go_wp2_with (first
    | (at_builtin; refine wpList_app rfl _ _ _ rfl intSliceM (by decide) _ k _ rfl HA.out.row ⟨w.heap.size, 0, none⟩ 1 1 [.int .i64 z] rfl rfl (cells_new w [_] _) (oneInt _ _) (by omega) (by unfold maxLen; omega) (Nat.le_trans hsz (by simp)) ?_; intro v1 w1 o1 g1 t1; obtain ⟨A1, cv1, he1, _⟩ := own_form o1; subst he1; have hbx := HA.out.grow intBox g1; have c1 : w1.cell? ⟨b, 0, none⟩ = some (.slice A k cv) := hp_cell hbx rfl; have f1 := hp_froz hbx 0; have HP := Lib.hid (HA.out.put intBox g1 o1); have HNO := Lib.hid (HN0.out.trans (HA.out.noc (v1 := .slice A1 (k + 1) cv1) intBox g1)); clear hbx g1 o1 t1)
    | fail)
  go_end0
  exact ⟨rfl, ⟨_, by rw [List.map_append]; exact HP.out⟩, HNO.out⟩
theorem eg_codes : ∀ args w, (callFunc 37 args).run Try.prog w = .ok (.enter 37 args) w := enters_of Try.func37 (by kernel_rfl) rfl
theorem eg_count : ∀ args w, (callFunc 39 args).run Try.prog w = .ok (.enter 39 args) w := enters_of Try.func39 (by kernel_rfl) rfl
set_option maxRecDepth 100000 in
set_option maxHeartbeats 2000000 in
theorem mrEach_ne (f : FuncId) (lb : Array Value) (A B : Option Addr) (n c m d : Nat) (hnm : n ≠ m) (w : World) :
    Calls Try.prog 36 #[.slice A n c, .slice B m d, .func (.func f) #[] lb] w fun e w' => e = .returned (.tuple #[]) ∧ w' = w := by
  have hne : ((n : Int) != (m : Int)) = true := by simp; omega
  go_enter Try.func36, Try.ntmps36
  go_wp2_with fail
  first
    | exact bodyPost_ret (v := .tuple #[]) (by simp [results, go_sem]) rfl ⟨rfl, rfl⟩
    | exact bodyPost_end (v := .tuple #[]) (by simp [results, go_sem]) rfl ⟨rfl, rfl⟩
/-- each with Codes' closure. -/
theorem mrEachC_any (A B : Option Addr) (n c d b : Nat) (cs lv : List Int) (w W0 : World) (hr : Rd w 1 A n (cs.map (Value.int .i64))) (hs : Rd w 1 B n (lv.map (Value.int .i64))) (hwf : ∀ x ∈ cs, (Lit.int .i64 x).wf = true) (hn : n ≤ 100000) (v : Value) (hX : BxR w w.heap.size b 22 3 1 v 0 [] W0) :
    Calls Try.prog 36 #[.slice A n c, .slice B n d, .func (.func 37) #[] #[.pointer (some ⟨b, 0, none⟩)]] W0 fun e W' => e = .returned (.tuple #[]) ∧ ∃ v, BxR w w.heap.size b 22 3 1 v n ((mrF cs lv).map (Value.int .i64)) W' := by
  have hcl : cs.length = n := by simpa using hr.len1
  have hll : lv.length = n := by simpa using hs.len1
  have hE : cs.length = lv.length := by omega
  have hml : (mrF cs lv).length = n := by rw [mrF_len hE, hcl]
  have h := mrEach_any _ #[.pointer (some ⟨b, 0, none⟩)] eg_codes A B n c d w.heap.size cs lv (fun k W => ∃ v, BxR w w.heap.size b 22 3 1 v k (((mrF cs lv).take k).map (Value.int .i64)) W) hcl hll hn hwf
    (fun k W h => by obtain ⟨v, h⟩ := h; exact h.base_le) (fun k W h => by obtain ⟨v, h⟩ := h; exact hr.below h.bel) (fun k W h => by obtain ⟨v, h⟩ := h; exact hs.below h.bel)
    (fun k W W' S h h1 h2 h3 => by obtain ⟨v, h⟩ := h; exact ⟨v, h.kept h1 h2 h3⟩) (fun k x y W hx hy h => by
      obtain ⟨v, h⟩ := h
      have hk : k < n := by rw [← hcl]; exact (List.getElem?_eq_some_iff.1 hx).1
      refine (mrPush_any w _ b k x (mrV x y) v _ W h (by omega)).mono ?_
      rintro e W' ⟨rfl, ⟨v', h'⟩, hN⟩
      refine ⟨rfl, ⟨v', ?_⟩, hN⟩
      have e9 : (mrF cs lv).take (k + 1) = (mrF cs lv).take k ++ [mrV x y] := by rw [List.take_add_one, mrF_at hE hx hy]; rfl
      rw [e9]
      exact h') W0 ⟨v, hX⟩
  refine h.mono ?_
  rintro e W' ⟨rfl, v', h'⟩
  rw [List.take_of_length_le (by omega)] at h'
  exact ⟨rfl, v', h'⟩
set_option maxRecDepth 100000 in
set_option maxHeartbeats 2000000 in
theorem mrCodes_any (A B : Option Addr) (n c m d : Nat) (cs lv : List Int) (w : World) (hr : Rd w 1 A n (cs.map (Value.int .i64))) (hs : Rd w 1 B m (lv.map (Value.int .i64))) (hwf : ∀ x ∈ cs, (Lit.int .i64 x).wf = true) (hn : n ≤ 100000) :
    Calls Try.prog 20 #[.slice A n c, .slice B m d] w fun e w' => ∃ v, e = .returned v ∧ w'.ownsRow w.heap.size 3 1 v (mrF cs lv).length ((mrF cs lv).map (Value.int .i64)) ∧ Below w.heap.size w w' := by
  have hcl : cs.length = n := by simpa using hr.len1
  have hll : lv.length = m := by simpa using hs.len1
  have HCL := Lib.hid hcl
  have HLL := Lib.hid hll
  have HWF := Lib.hid hwf
  have HR := Lib.hid hr
  have HS := Lib.hid hs
  clear hcl hll hr hs hwf
  obtain ⟨s, hs⟩ : ∃ s, w.heap.size = s := ⟨_, rfl⟩
  have HSZ := Lib.hid hs
  by_cases hnm : n = m
  · subst hnm
    have HE := Lib.hid (show cs.length = lv.length by rw [HCL.out, HLL.out])
    have HML := Lib.hid (show (mrF cs lv).length = n by rw [mrF_len HE.out, HCL.out])
    go_enter Try.func20, Try.ntmps20
    go_wp2_with (first
      | (refine wpList_mk rfl _ _ _ rfl (base := s) intSliceM (n : Int) n rfl rfl rfl (by omega) (by unfold maxLen; omega) (by omega) ?_; intro v2 w2 hown2 hg2; obtain ⟨A2, cv2, he2, _⟩ := own_form hown2; subst he2; have HB2 : Hid (Below s w w2) := Lib.hid (by rw [← HSZ.out]; exact below_make hg2); have HX := Lib.hid (BxR.start hown2 HB2.out (by have := HB2.out.size; omega) 22); obtain ⟨b, hb⟩ : ∃ b, w2.heap.size = b := ⟨_, rfl⟩; rw [hb] at HX; clear hown2 hg2)
      | (go_at_call 36; refine (mrEachC_any A B n c d b cs lv w _ HR.out HS.out HWF.out hn _ (by rw [HSZ.out]; exact HX.out)).mono ?_; rintro e w3 ⟨rfl, v3, h3⟩; rw [HSZ.out] at h3; obtain ⟨A3, cv3, he3, _⟩ := own_form h3.row; subst he3; have H3 := Lib.hid h3; have c3 : w3.cell? ⟨b, 0, none⟩ = some (.slice A3 n cv3) := hp_cell h3.box rfl; clear h3)
      | fail)
    go_ret
    refine ⟨_, rfl, ?_, ?_⟩
    · rw [HML.out, HSZ.out]
      exact H3.out.row
    · rw [HSZ.out]; exact H3.out.bel
  · have HM := Lib.hid (show mrF cs lv = [] by unfold mrF; rw [if_neg (by rw [HCL.out, HLL.out]; exact hnm)])
    go_enter Try.func20, Try.ntmps20
    go_wp2_with (first
      | (refine wpList_mk rfl _ _ _ rfl (base := s) intSliceM (n : Int) n rfl rfl rfl (by omega) (by unfold maxLen; omega) (by omega) ?_; intro v2 w2 hown2 hg2; obtain ⟨A2, cv2, he2, _⟩ := own_form hown2; subst he2; have HB2 : Hid (Below s w w2) := Lib.hid (by rw [← HSZ.out]; exact below_make hg2); have HX := Lib.hid (BxR.start hown2 HB2.out (by have := HB2.out.size; omega) 22); obtain ⟨b, hb⟩ : ∃ b, w2.heap.size = b := ⟨_, rfl⟩; rw [hb] at HX; clear hown2 hg2)
      | (go_at_call 36; refine (mrEach_ne _ _ A B n c m d hnm _).mono ?_; rintro e w3 ⟨rfl, rfl⟩; have c3 := hp_cell (j := 0) (v := .slice A2 0 cv2) HX.out.box rfl)
      | fail)
    go_ret
    rw [HM.out, HSZ.out]
    exact ⟨_, rfl, HX.out.row, HX.out.bel⟩
end Go.Proofs.Ytbnjflkafdkcpaa
