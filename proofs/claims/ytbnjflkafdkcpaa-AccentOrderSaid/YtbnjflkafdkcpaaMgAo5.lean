/- Texts of one claim, one behind the other. -/
import Derived.BigQuiet
import Derived.Shelf.Abstract
import Derived.Laws.BitsAllLaws
import Derived.Test.YtbnjflkafdkcpaaMgAo2
import Derived.Test.YtbnjflkafdkcpaaMgAo4
/- accent.each, with any closure, walked. -/
namespace Go.Proofs.Ytbnjflkafdkcpaa
open Go.RowKit

/-- A group of levels and marks, as it is found. -/
def GrpAt (ls : List Int) (ms : List Bool) (lo hi : Nat) : Prop := lo < ls.length ∧ hi = hiA ls ms lo ∧ isG ls ms lo = true
set_option maxRecDepth 100000 in
set_option maxHeartbeats 4000000 in
theorem acEach_any (f : FuncId) (lb : Array Value) (eg : ∀ args w, (callFunc f args).run Try.prog w = .ok (.enter f args) w) (A B : Option Addr) (n c d : Nat) (ls : List Int) (ms : List Bool) (J : List Sp → World → Prop) (hl : ls.length = n) (hl2 : ms.length = n) (hn : n ≤ 100000)
    (hrd : ∀ G W, J G W → Rd W 1 A n (ls.map (Value.int .i64))) (hrs : ∀ G W, J G W → Rd W 1 B n (ms.map Value.bool))
    (hdw : ∀ G W q, J G W → J G (W.drewN q))
    (hdo : ∀ lo hi W, GrpAt ls ms lo hi → J (grpA ls ms lo) W → Calls Try.prog f (#[.agg #[.int .i64 (lo : Int), .int .i64 (hi : Int)]] ++ lb) W fun e W' => e = .returned (.tuple #[]) ∧ J (grpA ls ms lo ++ [((lo : Int), (hi : Int))]) W') (w : World) (h0 : J [] w) :
    Calls Try.prog 25 #[.slice A n c, .slice B n d, .func (.func f) #[] lb] w fun e w' => e = .returned (.tuple #[]) ∧ J (grpA ls ms n) w' := by
  have HL := Lib.hid hl
  have HL2 := Lib.hid hl2
  have HRD := Lib.hid hrd
  have HRS := Lib.hid hrs
  have HDW := Lib.hid hdw
  have HDO := Lib.hid hdo
  have H0 := Lib.hid h0
  clear hl hl2 hrd hrs hdw hdo h0
  go_enter Try.func25, Try.ntmps25
  go_wp2_with fail
  go_loopw [6] (fun i wr => ∃ k : Nat, k ≤ n ∧ i = .int .i64 (k : Int) ∧ J (grpA ls ms k) wr) (fun i _ => n - (intOf i).toNat)
  case atStart => exact ⟨0, Nat.zero_le _, rfl, H0.out⟩
  case round =>
    obtain ⟨k, hk, rfl, hJ⟩ := hrel
    have HJ := Lib.hid hJ
    clear hJ
    by_cases hlt : k < n
    · obtain ⟨x, hx⟩ : ∃ x, ls[k]? = some x := ⟨_, List.getElem?_eq_getElem (by rw [HL.out]; exact hlt)⟩
      obtain ⟨mb, hmb⟩ : ∃ mb, ms[k]? = some mb := ⟨_, List.getElem?_eq_getElem (by rw [HL2.out]; exact hlt)⟩
      have HXR := Lib.hid (HRD.out _ wr HJ.out)
      have HMR := Lib.hid (HRS.out _ wr HJ.out)
      obtain ⟨ad, rfl, _, hc1⟩ := HXR.out.at_ hlt
      obtain ⟨bd, rfl, _, hc2⟩ := HMR.out.at_ hlt
      have cx := hc1 (.int .i64 x) (by rw [List.getElem?_map, hx]; rfl)
      have cm := hc2 (.bool mb) (by rw [List.getElem?_map, hmb]; rfl)
      have hxd : ls.getD k 0 = x := by rw [List.getD_eq_getElem?_getD, hx]; rfl
      have hmd : ms.getD k false = mb := by rw [List.getD_eq_getElem?_getD, hmb]; rfl
      have HIS := Lib.hid (show isG ls ms k = decide (mb = false ∧ x % 2 ≠ 0 ∧ k + 1 < hiA ls ms k) by unfold isG; rw [hmd, hxd])
      have hki : (k : Int) < (n : Int) := by omega
      have hk5 : (k : Int) ≤ 100000 := by omega
      have hdiff : (k : Int) + 1 - (k : Int) = 1 := by omega
      have no : isG ls ms k = false → Hid (grpA ls ms (k + 1) = grpA ls ms k) := fun hg => Lib.hid (by rw [grpA, if_neg (by rw [hg]; decide)])
      have HSP := Lib.hid (hi_spec (ls := ls) (ms := ms) (i := k) (by rw [HL.out]; exact hlt))
      clear hx hmb hc1 hc2 hxd hmd
      cases mb with
      | true =>
        have HN := no (by rw [HIS.out]; simp)
        clear no
        go_wp2_with fail
        go_roundw
        case rel => exact ⟨k + 1, by omega, by go_num, by rw [HN.out]; exact HJ.out⟩
        case measure => simp [intOf]; omega
      | false =>
        by_cases hx2 : x % 2 = 0
        · have hbit : bits .and .i64 x 1 = 0 := by rw [and1_i64, hx2]
          have HN := no (by rw [HIS.out]; simp [hx2])
          clear no hx2
          go_wp2_with fail
          go_roundw
          case rel => exact ⟨k + 1, by omega, by go_num, by rw [HN.out]; exact HJ.out⟩
          case measure => simp [intOf]; omega
        · have hbit : bits .and .i64 x 1 = 1 := by rw [and1_i64]; omega
          obtain ⟨h, hh⟩ : ∃ h, hiA ls ms k = h := ⟨_, rfl⟩
          have HEN := Lib.hid (acEnd_any (some ad) (some bd) n c d k ls ms wr HXR.out HMR.out hlt hn)
          have HTO := Lib.hid (grpA_to (ls := ls) (ms := ms) (i := k) (by rw [HL.out]; exact hlt))
          rw [hh] at HEN HSP HIS HTO
          have hh1 : k + 1 ≤ h := HSP.out.1
          have hhn : h ≤ n := by have := HSP.out.2.1; rw [HL.out] at this; exact this
          have HH := Lib.hid hh
          clear hh
          by_cases hg : k + 1 < h
          · have HG : Hid (isG ls ms k = true) := Lib.hid (by rw [HIS.out]; exact decide_eq_true ⟨rfl, hx2, hg⟩)
            have HD := Lib.hid (fun W => HDO.out k h W ⟨by rw [HL.out]; exact hlt, HH.out.symm, HG.out⟩)
            have HY : Hid (grpA ls ms h = grpA ls ms k ++ [((k : Int), (h : Int))]) := Lib.hid (by rw [HTO.out, grpA, if_pos HG.out, HH.out])
            have hgt : (1 : Int) < (h : Int) - (k : Int) := by omega
            clear no hx2
            go_wp2_with (first
              | (go_at_call 40; refine HEN.out.mono ?_; rintro e w1 ⟨rfl, q, rfl⟩; have HJ1 := Lib.hid (HDW.out _ wr q HJ.out))
              | (go_at_fn f; refine (HD.out _ HJ1.out).mono ?_; rintro e w2 ⟨rfl, hJ2⟩; have HJ2 := Lib.hid hJ2; clear hJ2)
              | fail)
            go_roundw
            case rel => exact ⟨h, hhn, by first | rfl | go_num, by rw [HY.out]; exact HJ2.out⟩
            case measure => simp [intOf]; omega
          · obtain rfl : h = k + 1 := by omega
            have HN := no (by rw [HIS.out]; exact decide_eq_false fun h => by omega)
            have hgt : ¬ (1 : Int) < ((k + 1 : Nat) : Int) - (k : Int) := by omega
            clear no hx2
            go_wp2_with (first
              | (go_at_call 40; refine HEN.out.mono ?_; rintro e w1 ⟨rfl, q, rfl⟩; have HJ1 := Lib.hid (HDW.out _ wr q HJ.out))
              | fail)
            go_roundw
            case rel => exact ⟨k + 1, by omega, by first | rfl | go_num, by rw [HN.out]; exact HJ1.out⟩
            case measure => simp [intOf]; omega
    · obtain rfl : k = n := by omega
      go_wp2_with fail
      exact bodyPost_end (v := .tuple #[]) (by simp [results, go_sem]) rfl ⟨rfl, HJ.out⟩
set_option maxRecDepth 100000 in
set_option maxHeartbeats 1000000 in
theorem acEach_ne (f : FuncId) (lb : Array Value) (A B : Option Addr) (n c m d : Nat) (hnm : n ≠ m) (w : World) :
    Calls Try.prog 25 #[.slice A n c, .slice B m d, .func (.func f) #[] lb] w fun e w' => e = .returned (.tuple #[]) ∧ w' = w := by
  have hne : ((n : Int) != (m : Int)) = true := by simp; omega
  go_enter Try.func25, Try.ntmps25
  go_wp2_with fail
  exact bodyPost_ret (v := .tuple #[]) (by simp [results, go_sem]) rfl ⟨rfl, rfl⟩
end Go.Proofs.Ytbnjflkafdkcpaa
/- accent.Groups, walked. -/
namespace Go.Proofs.Ytbnjflkafdkcpaa
open Go.RowKit

theorem spanBox : (29 : TypeId) ≠ 31 := by decide
theorem eg_groups : ∀ args w, (callFunc 31 args).run Try.prog w = .ok (.enter 31 args) w := enters_of Try.func31 (by kernel_rfl) rfl
set_option maxRecDepth 100000 in
set_option maxHeartbeats 2000000 in
theorem acPush_any (w0 : World) (base b : Nat) (x y : Int) (v : Value) (G : List Sp) (w : World) (h : BxR w0 base b 29 31 2 v G.length (cellsS G) w) (hk : G.length ≤ 100000) :
    Calls Try.prog 31 #[.agg #[.int .i64 x, .int .i64 y], .pointer (some ⟨b, 0, none⟩)] w fun e w' => e = .returned (.tuple #[]) ∧ (∃ v', BxR w0 base b 29 31 2 v' (G ++ [(x, y)]).length (cellsS (G ++ [(x, y)])) w') := by
  have hsz := h.base_le
  obtain ⟨A, cv, rfl, _⟩ := own_form h.row
  have HA1 := h.low (below_new w (.cells #[.int .i64 x, .int .i64 y] 31))
  have HA := Lib.hid (HA1.low (below_new (w.alloc (.cells #[.int .i64 x, .int .i64 y] 31)) (.cells #[.int .i64 x, .int .i64 y] 31)))
  have c0 : (w.alloc (.cells #[.int .i64 x, .int .i64 y] 31)).cell? ⟨b, 0, none⟩ = some (.slice A G.length cv) := hp_cell HA1.box rfl
  have HK := Lib.hid hk
  have HCN := Lib.hid (cells_new (w.alloc (.cells #[.int .i64 x, .int .i64 y] 31)) [.int .i64 x, .int .i64 y] 31)
  rw [World.size_alloc] at HCN
  clear h HA1
  go_enter Try.func31, Try.ntmps31
  go_wp2_with (first
    | (at_builtin; refine wpList_app rfl _ _ _ rfl spanSlice (by decide) _ G.length _ rfl HA.out.row ⟨w.heap.size + 1, 0, none⟩ 1 1 [.int .i64 x, .int .i64 y] rfl rfl HCN.out (oneInt2 _ _ _) (by have := HK.out; omega) (by have := HK.out; unfold maxLen; omega) (Nat.le_trans hsz (by simp; omega)) ?_; intro v1 w1 o1 g1 t1; obtain ⟨A1, cv1, he1, _⟩ := own_form o1; subst he1; have hbx := HA.out.grow spanBox g1; have c1 : w1.cell? ⟨b, 0, none⟩ = some (.slice A G.length cv) := hp_cell hbx rfl; have f1 := hp_froz hbx 0; have HP := Lib.hid (HA.out.put spanBox g1 o1); clear hbx g1 o1 t1)
    | fail)
  go_end0
  exact ⟨rfl, _, by simp only [cellsS, List.flatMap_append, List.length_append]; exact HP.out⟩
set_option maxRecDepth 100000 in
set_option maxHeartbeats 2000000 in
theorem acGroups_any (A B : Option Addr) (n m c d : Nat) (ls : List Int) (ms : List Bool) (w : World) (hr : Rd w 1 A n (ls.map (Value.int .i64))) (hs : Rd w 1 B m (ms.map Value.bool)) (hn : n ≤ 100000) :
    Calls Try.prog 12 #[.slice A n c, .slice B m d] w fun e w' => ∃ v, e = .returned v ∧ w'.ownsRow w.heap.size 31 2 v (grpF ls ms).length (cellsS (grpF ls ms)) ∧ Below w.heap.size w w' := by
  have hll : ls.length = n := by simpa using hr.len1
  have hml : ms.length = m := by simpa using hs.len1
  have HX : Hid (BxR w w.heap.size w.heap.size 29 31 2 (.slice none 0 0) 0 [] (w.alloc (.cells #[.slice none 0 0] 29))) := Lib.hid (BxR.start (w := w) ⟨rfl, .inl ⟨rfl, rfl⟩⟩ (Below.refl _ _) (Nat.le_refl _) _)
  by_cases hnm : n = m
  · subst hnm
    have HG := Lib.hid (show grpF ls ms = grpA ls ms n by unfold grpF; rw [if_pos (by omega), hll])
    have HE := Lib.hid (acEach_any _ #[.pointer (some ⟨w.heap.size, 0, none⟩)] eg_groups A B n c d ls ms (fun G W => G.length ≤ n ∧ ∃ v, BxR w w.heap.size w.heap.size 29 31 2 v G.length (cellsS G) W) hll hml hn
      (fun G W h => by obtain ⟨_, v, h⟩ := h; exact hr.below h.bel) (fun G W h => by obtain ⟨_, v, h⟩ := h; exact hs.below h.bel)
      (fun G W q h => by obtain ⟨h0, v, h⟩ := h; exact ⟨h0, v, h.low (drewBelow q)⟩) (fun lo hi W hg h => by
        obtain ⟨_, v, h⟩ := h
        have h1 := grpA_len ls ms lo
        have h2 := hg.1
        refine (acPush_any w _ _ (lo : Int) (hi : Int) v _ W h (by omega)).mono ?_
        rintro e W' ⟨rfl, v', h'⟩
        exact ⟨rfl, by rw [List.length_append, List.length_singleton]; omega, v', h'⟩) _ ⟨Nat.zero_le _, _, HX.out⟩)
    clear hll hml hr hs
    go_enter Try.func12, Try.ntmps12
    go_wp2_with (first
      | (go_at_call 25; refine HE.out.mono ?_; rintro e w3 ⟨rfl, _, v3, h3⟩; obtain ⟨A3, cv3, he3, _⟩ := own_form h3.row; subst he3; have H3 := Lib.hid h3; have c3 : w3.cell? ⟨w.heap.size, 0, none⟩ = some (.slice A3 (grpA ls ms n).length cv3) := hp_cell h3.box rfl; clear h3)
      | fail)
    go_ret
    rw [HG.out]
    exact ⟨_, rfl, H3.out.row, H3.out.bel⟩
  · have HM := Lib.hid (show grpF ls ms = [] by unfold grpF; rw [if_neg (by omega)])
    clear hll hml hr hs
    go_enter Try.func12, Try.ntmps12
    go_wp2_with (first
      | (go_at_call 25; refine (acEach_ne _ _ A B n c m d hnm _).mono ?_; rintro e w3 ⟨rfl, rfl⟩; have c3 := hp_cell (j := 0) (v := .slice none 0 0) HX.out.box rfl)
      | fail)
    go_ret
    rw [HM.out]
    exact ⟨_, rfl, HX.out.row, HX.out.bel⟩
end Go.Proofs.Ytbnjflkafdkcpaa
