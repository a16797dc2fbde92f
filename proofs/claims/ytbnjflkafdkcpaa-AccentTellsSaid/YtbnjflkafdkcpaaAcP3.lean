/- accent.Groups, walked. -/
import Derived.Test.YtbnjflkafdkcpaaAcP2
import Derived.Test.YtbnjflkafdkcpaaBxM
import Derived.Test.YtbnjflkafdkcpaaRaG
namespace Go.Proofs.Ytbnjflkafdkcpaa
open Go.RowKit

theorem spanBox : (29 : TypeId) ≠ 31 := by decide
theorem eg_groups : ∀ args w, (callFunc 31 args).run Try.prog w = .ok (.enter 31 args) w := enters_of Try.func31 (by kernel_rfl) rfl
set_option maxRecDepth 100000 in
set_option maxHeartbeats 2000000 in
theorem acPush_any (w0 : World) (base b : Nat) (x y : Int) (v : Value) (G : List Sp) (w : World) (h : BxR w0 base b 29 31 2 v G.length (cellsS G) w) (hk : G.length ≤ 100000) :
    Calls Try.prog 31 #[.agg #[.int .i64 x, .int .i64 y], .pointer (some ⟨b, 0, none⟩)] w fun e w' => e = .returned (.tuple #[]) ∧ (∃ v', BxR w0 base b 29 31 2 v' (G ++ [(x, y)]).length (cellsS (G ++ [(x, y)])) w') := by
  have hsz := h.base_le
  obtain ⟨A, cv, rfl, _⟩ := own_form h.row
  have HA1 := h.low (below_new w (.cells #[.int .i64 x, .int .i64 y] 31))
  have HA := Lib.hid (HA1.low (below_new (w.alloc (.cells #[.int .i64 x, .int .i64 y] 31)) (.cells #[.int .i64 x, .int .i64 y] 31)))
  have c0 : (w.alloc (.cells #[.int .i64 x, .int .i64 y] 31)).cell? ⟨b, 0, none⟩ = some (.slice A G.length cv) := hp_cell HA1.box rfl
  have HK := Lib.hid hk
  have HCN := Lib.hid (cells_new (w.alloc (.cells #[.int .i64 x, .int .i64 y] 31)) [.int .i64 x, .int .i64 y] 31)
  rw [World.size_alloc] at HCN
  clear h HA1
  go_enter Try.func31, Try.ntmps31
  go_wp2_with (first
    | (at_builtin; refine wpList_app rfl _ _ _ rfl spanSlice (by decide) _ G.length _ rfl HA.out.row ⟨w.heap.size + 1, 0, none⟩ 1 1 [.int .i64 x, .int .i64 y] rfl rfl HCN.out (oneInt2 _ _ _) (by have := HK.out; omega) (by have := HK.out; unfold maxLen; omega) (Nat.le_trans hsz (by simp; omega)) ?_; intro v1 w1 o1 g1 t1; obtain ⟨A1, cv1, he1, _⟩ := own_form o1; subst he1; have hbx := HA.out.grow spanBox g1; have c1 : w1.cell? ⟨b, 0, none⟩ = some (.slice A G.length cv) := hp_cell hbx rfl; have f1 := hp_froz hbx 0; have HP := Lib.hid (HA.out.put spanBox g1 o1); clear hbx g1 o1 t1)
    | fail)
  go_end0
  exact ⟨rfl, _, by simp only [cellsS, List.flatMap_append, List.length_append]; exact HP.out⟩
set_option maxRecDepth 100000 in
set_option maxHeartbeats 2000000 in
theorem acGroups_any (A B : Option Addr) (n m c d : Nat) (ls : List Int) (ms : List Bool) (w : World) (hr : Rd w 1 A n (ls.map (Value.int .i64))) (hs : Rd w 1 B m (ms.map Value.bool)) (hn : n ≤ 100000) :
    Calls Try.prog 12 #[.slice A n c, .slice B m d] w fun e w' => ∃ v, e = .returned v ∧ w'.ownsRow w.heap.size 31 2 v (grpF ls ms).length (cellsS (grpF ls ms)) ∧ Below w.heap.size w w' := by
  have hll : ls.length = n := by simpa using hr.len1
  have hml : ms.length = m := by simpa using hs.len1
  have HX : Hid (BxR w w.heap.size w.heap.size 29 31 2 (.slice none 0 0) 0 [] (w.alloc (.cells #[.slice none 0 0] 29))) := Lib.hid (BxR.start (w := w) ⟨rfl, .inl ⟨rfl, rfl⟩⟩ (Below.refl _ _) (Nat.le_refl _) _)
  by_cases hnm : n = m
  · subst hnm
    have HG := Lib.hid (show grpF ls ms = grpA ls ms n by unfold grpF; rw [if_pos (by omega), hll])
    have HE := Lib.hid (acEach_any _ #[.pointer (some ⟨w.heap.size, 0, none⟩)] eg_groups A B n c d ls ms (fun G W => G.length ≤ n ∧ ∃ v, BxR w w.heap.size w.heap.size 29 31 2 v G.length (cellsS G) W) hll hml hn
      (fun G W h => by obtain ⟨_, v, h⟩ := h; exact hr.below h.bel) (fun G W h => by obtain ⟨_, v, h⟩ := h; exact hs.below h.bel)
      (fun G W q h => by obtain ⟨h0, v, h⟩ := h; exact ⟨h0, v, h.low (drewBelow q)⟩) (fun lo hi W hg h => by
        obtain ⟨_, v, h⟩ := h
        have h1 := grpA_len ls ms lo
        have h2 := hg.1
        refine (acPush_any w _ _ (lo : Int) (hi : Int) v _ W h (by omega)).mono ?_
        rintro e W' ⟨rfl, v', h'⟩
        exact ⟨rfl, by rw [List.length_append, List.length_singleton]; omega, v', h'⟩) _ ⟨Nat.zero_le _, _, HX.out⟩)
    clear hll hml hr hs
    go_enter Try.func12, Try.ntmps12
    go_wp2_with (first
      | (go_at_call 25; refine HE.out.mono ?_; rintro e w3 ⟨rfl, _, v3, h3⟩; obtain ⟨A3, cv3, he3, _⟩ := own_form h3.row; subst he3; have H3 := Lib.hid h3; have c3 : w3.cell? ⟨w.heap.size, 0, none⟩ = some (.slice A3 (grpA ls ms n).length cv3) := hp_cell h3.box rfl; clear h3)
      | fail)
    go_ret
    rw [HG.out]
    exact ⟨_, rfl, H3.out.row, H3.out.bel⟩
  · have HM := Lib.hid (show grpF ls ms = [] by unfold grpF; rw [if_neg (by omega)])
    clear hll hml hr hs
    go_enter Try.func12, Try.ntmps12
    go_wp2_with (first
      | (go_at_call 25; refine (acEach_ne _ _ A B n c m d hnm _).mono ?_; rintro e w3 ⟨rfl, rfl⟩; have c3 := hp_cell (j := 0) (v := .slice none 0 0) HX.out.box rfl)
      | fail)
    go_ret
    rw [HM.out]
    exact ⟨_, rfl, HX.out.row, HX.out.bel⟩
end Go.Proofs.Ytbnjflkafdkcpaa
