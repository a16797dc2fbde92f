/- The reference's Split, Classes. -/
import Derived.Test.YtcbiaeeifclieaaPaS
import Derived.Test.YtcbiaeeifclieaaPaM
import Derived.Test.YtcbiaeeifclieaaRfC
import Derived.Deep.DeepCutAuto
import Derived.Deep.CutBlock
namespace Go.Proofs.Ytcbiaeeifclieaa
open Go.RowKit

theorem endB_val2 {xs : List Int} {k : Nat} {x : Int} {t : Int} {bb : Bool} (h : xs[k]? = some x) (ht : classF x = t) (hb : (decide (x = 13) && decide (xs[k + 1]? = some 10)) = bb) : endB xs k = (decide (t = 10) && !bb) := by
  rw [endB_val h, ht, hb]
set_option maxRecDepth 100000 in
set_option maxHeartbeats 2000000 in
theorem rfSplit_any (A : Option Addr) (n c : Nat) (xs : List Int) (w : World) (hr : Rd w 1 A n (xs.map (Value.int .i64))) (hn : n ≤ 100000) :
    Calls Try.prog 24 #[.slice A n c] w fun e w' => ∃ v, e = .returned v ∧ w'.ownsRow w.heap.size 33 2 v (parL xs).length (cellsS (parL xs)) ∧ Below w.heap.size w w' := by
  have hlen : xs.length = n := by simpa using hr.len1
  have HL := Lib.hid hlen
  have HR := Lib.hid hr
  clear hlen hr
  go_enter Try.func24, Try.ntmps24
  go_wp2_with fail
  go_loopw [3, 4, 5] (fun v x i wr => ∃ k : Nat, k ≤ n ∧ i = .int .i64 (k : Int) ∧ x = .int .i64 (parA xs k).2 ∧ wr.ownsRow w.heap.size 33 2 v (parA xs k).1.length (cellsS (parA xs k).1) ∧ Below w.heap.size w wr) (fun _ _ i _ => n - (intOf i).toNat)
  case atStart => exact ⟨0, Nat.zero_le _, rfl, rfl, ⟨rfl, .inl ⟨rfl, rfl⟩⟩, Below.refl _ _⟩
  case round =>
    obtain ⟨k, hk, rfl, rfl, hown, hb⟩ := hrel
    have hal := (parA_len xs k).1
    obtain ⟨acc, y, hacc⟩ : ∃ acc y, parA xs k = (acc, y) := ⟨_, _, rfl⟩
    have HA := Lib.hid hacc
    rw [hacc] at hal hown ⊢
    simp only at hal hown ⊢
    have HO := Lib.hid hown
    have HB := Lib.hid hb
    clear hown hb hacc
    by_cases hlt : k < n
    · obtain ⟨x, hx⟩ : ∃ x, xs[k]? = some x := ⟨_, List.getElem?_eq_getElem (by rw [HL.out]; exact hlt)⟩
      obtain ⟨ad, rfl, hab, hcell⟩ := (HR.out.below HB.out).at_ hlt
      have cx : wr.cell? (ad.add k) = some (.int .i64 x) := hcell _ (by rw [List.getElem?_map, hx]; rfl)
      obtain ⟨t, ht⟩ : ∃ t, classF x = t := ⟨_, rfl⟩
      have HC := Lib.hid (fun W => refClass_any x t ht W)
      obtain ⟨bb, hbb⟩ : ∃ bb, (decide (x = 13) && decide (xs[k + 1]? = some 10)) = bb := ⟨_, rfl⟩
      have HE := Lib.hid (endB_val2 hx ht hbb)
      have HBB := Lib.hid hbb
      have HX := Lib.hid hx
      have hkn : (k : Int) < (n : Int) := by omega
      clear hcell hx ht hbb
      go_upto_region 6 with fail
      go_cut [6] (fun s wx => s = .bool bb ∧ wx = wr)
      case first =>
        by_cases h13 : x = 13
        · subst h13
          by_cases hk1 : k + 1 < n
          · obtain ⟨z, hz⟩ : ∃ z, xs[k + 1]? = some z := ⟨_, List.getElem?_eq_getElem (by rw [HL.out]; exact hk1)⟩
            obtain ⟨ad', e', _, hcell'⟩ := (HR.out.below HB.out).at_ hk1
            obtain rfl := Option.some.inj e'
            have c1 : wr.cell? (ad.add (k + 1)) = some (.int .i64 z) := hcell' _ (by rw [List.getElem?_map, hz]; rfl)
            have c2 : wr.cell? ⟨ad.block, ad.off + (k + 1), none⟩ = some (.int .i64 z) := by
              have c1' := c1
              rw [show k + 1 = 0 + (k + 1) by omega, addNext ad 0 k] at c1'
              have : ad.add 0 = ad := by unfold Addr.add; simp
              rwa [this] at c1'
            have hv : bb = (z == 10) := by
              have := HBB.out
              rw [hz] at this
              rw [← this]
              by_cases h : z = 10 <;> simp [h]
            have hlt1 : (k : Int) + 1 < (n : Int) := by omega
            subst hv
            clear hcell' hz HBB HE
            go_wp2_with fail
            go_meet
            case rel => exact ⟨rfl, rfl⟩
          · have hv : bb = false := by
              have := HBB.out
              rw [List.getElem?_eq_none (by rw [HL.out]; omega)] at this
              rw [← this]
              simp
            have hlt1 : ¬ (k : Int) + 1 < (n : Int) := by omega
            subst hv
            clear HBB HE
            go_wp2_with fail
            go_meet
            case rel => exact ⟨rfl, rfl⟩
        · have g13 : (x == 13) = false := by simp [h13]
          have hv : bb = false := by
            rw [← HBB.out, decide_eq_false h13]
            rfl
          subst hv
          clear HBB HE h13
          go_wp2_with fail
          go_meet
          case rel => exact ⟨rfl, rfl⟩
      case rest =>
        obtain ⟨rfl, hw⟩ := hcut
        subst hw
        have hz := HB.out.size
        by_cases h10 : t = 10
        · subst h10
          cases bb with
          | false =>
            have HS := Lib.hid (parA_yes (xs := xs) (k := k) (.inr (by rw [HE.out]; rfl)))
            rw [HA.out] at HS
            go_wp2_with (first
              | (go_at_call 54; with_reducible refine (HC.out _).mono ?_; rintro e w2 ⟨rfl, hb2⟩; have HO2 := Lib.hid (own_below HO.out hb2); have HB2 := Lib.hid (HB.out.trans (hb2.mono hz)); have hz2 := HB2.out.size; clear hb2)
              | (at_builtin; refine wpList_app rfl _ _ _ rfl spanSlice (by decide) _ acc.length _ rfl (HO2.out.alloc _) ⟨w2.heap.size, 0, none⟩ 1 1 [.int .i64 y, .int .i64 ((k : Int) + 1)] rfl rfl (cells_new w2 [_, _] _) (oneInt2 _ _ _) (by omega) (by unfold maxLen; omega) (Nat.le_trans hz2 (by simp)) ?_; intro v1 w1 hown1 hg1 hat1)
              | fail)
            have hgr := below_app (HB2.out.alloc hz2 _) hg1 (HO2.out.alloc _) (Nat.le_trans hz2 (by simp))
            go_roundw
            case rel => exact ⟨k + 1, by omega, by go_num, by rw [HS.out], by rw [HS.out]; simp only; rw [cellsS_snoc, List.length_append]; exact hown1, hgr⟩
            case measure => simp [intOf]; omega
          | true =>
            have hen : endB xs k = false := by rw [HE.out]; rfl
            by_cases he : k + 1 = n
            · have HS := Lib.hid (parA_yes (xs := xs) (k := k) (.inl (by rw [HL.out]; exact he)))
              rw [HA.out] at HS
              have ge : ((k : Int) + 1 == (n : Int)) = true := by simp; omega
              clear he hen
              go_wp2_with (first
                | (go_at_call 54; with_reducible refine (HC.out _).mono ?_; rintro e w2 ⟨rfl, hb2⟩; have HO2 := Lib.hid (own_below HO.out hb2); have HB2 := Lib.hid (HB.out.trans (hb2.mono hz)); have hz2 := HB2.out.size; clear hb2)
                | (at_builtin; refine wpList_app rfl _ _ _ rfl spanSlice (by decide) _ acc.length _ rfl (HO2.out.alloc _) ⟨w2.heap.size, 0, none⟩ 1 1 [.int .i64 y, .int .i64 ((k : Int) + 1)] rfl rfl (cells_new w2 [_, _] _) (oneInt2 _ _ _) (by omega) (by unfold maxLen; omega) (Nat.le_trans hz2 (by simp)) ?_; intro v1 w1 hown1 hg1 hat1)
                | fail)
              have hgr := below_app (HB2.out.alloc hz2 _) hg1 (HO2.out.alloc _) (Nat.le_trans hz2 (by simp))
              go_roundw
              case rel => exact ⟨k + 1, by omega, by go_num, by rw [HS.out], by rw [HS.out]; simp only; rw [cellsS_snoc, List.length_append]; exact hown1, hgr⟩
              case measure => simp [intOf]; omega
            · have HS := Lib.hid (parA_no (xs := xs) (k := k) (by rw [HL.out, hen]; simp; exact he))
              rw [HA.out] at HS
              have ge : ((k : Int) + 1 == (n : Int)) = false := by simp; omega
              clear he hen
              go_wp2_with (first
                | (go_at_call 54; with_reducible refine (HC.out _).mono ?_; rintro e w2 ⟨rfl, hb2⟩; have HO2 := Lib.hid (own_below HO.out hb2); have HB2 := Lib.hid (HB.out.trans (hb2.mono hz)); clear hb2)
                | fail)
              go_roundw
              case rel => exact ⟨k + 1, by omega, by go_num, by rw [HS.out], by rw [HS.out]; exact HO2.out, HB2.out⟩
              case measure => simp [intOf]; omega
        · have hen : endB xs k = false := by rw [HE.out, decide_eq_false h10]; rfl
          have g10 : (t == 10) = false := by simp [h10]
          clear h10
          by_cases he : k + 1 = n
          · have HS := Lib.hid (parA_yes (xs := xs) (k := k) (.inl (by rw [HL.out]; exact he)))
            rw [HA.out] at HS
            have ge : ((k : Int) + 1 == (n : Int)) = true := by simp; omega
            clear he hen
            go_wp2_with (first
              | (go_at_call 54; with_reducible refine (HC.out _).mono ?_; rintro e w2 ⟨rfl, hb2⟩; have HO2 := Lib.hid (own_below HO.out hb2); have HB2 := Lib.hid (HB.out.trans (hb2.mono hz)); have hz2 := HB2.out.size; clear hb2)
              | (at_builtin; refine wpList_app rfl _ _ _ rfl spanSlice (by decide) _ acc.length _ rfl (HO2.out.alloc _) ⟨w2.heap.size, 0, none⟩ 1 1 [.int .i64 y, .int .i64 ((k : Int) + 1)] rfl rfl (cells_new w2 [_, _] _) (oneInt2 _ _ _) (by omega) (by unfold maxLen; omega) (Nat.le_trans hz2 (by simp)) ?_; intro v1 w1 hown1 hg1 hat1)
              | fail)
            have hgr := below_app (HB2.out.alloc hz2 _) hg1 (HO2.out.alloc _) (Nat.le_trans hz2 (by simp))
            go_roundw
            case rel => exact ⟨k + 1, by omega, by go_num, by rw [HS.out], by rw [HS.out]; simp only; rw [cellsS_snoc, List.length_append]; exact hown1, hgr⟩
            case measure => simp [intOf]; omega
          · have HS := Lib.hid (parA_no (xs := xs) (k := k) (by rw [HL.out, hen]; simp; exact he))
            rw [HA.out] at HS
            have ge : ((k : Int) + 1 == (n : Int)) = false := by simp; omega
            clear he hen
            go_wp2_with (first
              | (go_at_call 54; with_reducible refine (HC.out _).mono ?_; rintro e w2 ⟨rfl, hb2⟩; have HO2 := Lib.hid (own_below HO.out hb2); have HB2 := Lib.hid (HB.out.trans (hb2.mono hz)); clear hb2)
              | fail)
            go_roundw
            case rel => exact ⟨k + 1, by omega, by go_num, by rw [HS.out], by rw [HS.out]; exact HO2.out, HB2.out⟩
            case measure => simp [intOf]; omega
    · obtain rfl : k = n := by omega
      have HZ := Lib.hid (show parL xs = acc by unfold parL; rw [HL.out, HA.out])
      go_wp2
      go_ret
      exact ⟨_, rfl, by rw [HZ.out]; exact HO.out, HB.out⟩
set_option maxRecDepth 100000 in
set_option maxHeartbeats 2000000 in
theorem rfClasses_any (A : Option Addr) (n c : Nat) (xs : List Int) (w : World) (hr : Rd w 1 A n (xs.map (Value.int .i64))) (hn : n ≤ 100000) :
    Calls Try.prog 32 #[.slice A n c] w fun e w' => ∃ v, e = .returned v ∧ w'.ownsRow w.heap.size 3 1 v n ((xs.map classF).map (Value.int .i64)) ∧ Below w.heap.size w w' := by
  have hlen : xs.length = n := by simpa using hr.len1
  have HL := Lib.hid hlen
  have HR := Lib.hid hr
  clear hlen hr
  go_enter Try.func32, Try.ntmps32
  go_wp2_with fail
  go_loopw [3, 4] (fun v i wr => ∃ k : Nat, k ≤ n ∧ i = .int .i64 (k : Int) ∧ wr.ownsRow w.heap.size 3 1 v k (((xs.map classF).take k).map (Value.int .i64)) ∧ Below w.heap.size w wr) (fun _ i _ => n - (intOf i).toNat)
  case atStart => exact ⟨0, Nat.zero_le _, rfl, ⟨rfl, .inl ⟨rfl, rfl⟩⟩, Below.refl _ _⟩
  case round =>
    obtain ⟨k, hk, rfl, hown, hb⟩ := hrel
    have HO := Lib.hid hown
    have HB := Lib.hid hb
    clear hown hb
    have hz := HB.out.size
    by_cases hlt : k < n
    · obtain ⟨x, hx⟩ : ∃ x, xs[k]? = some x := ⟨_, List.getElem?_eq_getElem (by rw [HL.out]; exact hlt)⟩
      obtain ⟨ad, rfl, hab, hcell⟩ := (HR.out.below HB.out).at_ hlt
      have cx : wr.cell? (ad.add k) = some (.int .i64 x) := hcell _ (by rw [List.getElem?_map, hx]; rfl)
      obtain ⟨t, ht⟩ : ∃ t, classF x = t := ⟨_, rfl⟩
      have HC := Lib.hid (refClass_any x t ht wr)
      have HS := Lib.hid (show (xs.map classF).take (k + 1) = (xs.map classF).take k ++ [t] by rw [List.take_add_one, List.getElem?_map, hx, ← ht]; rfl)
      have hkn : (k : Int) < (n : Int) := by omega
      clear hcell hx ht
      go_wp2_with (first
        | (go_at_call 54; with_reducible refine HC.out.mono ?_; rintro e w2 ⟨rfl, hb2⟩; have HO2 := Lib.hid (own_below HO.out hb2); have HB2 := Lib.hid (HB.out.trans (hb2.mono hz)); have hz2 := HB2.out.size; clear hb2)
        | (at_builtin; refine wpList_app rfl _ _ _ rfl intSliceM (by decide) _ k _ rfl (HO2.out.alloc _) ⟨w2.heap.size, 0, none⟩ 1 1 [.int .i64 t] rfl rfl (cells_new w2 [_] _) (oneInt _ _) (by omega) (by unfold maxLen; omega) (Nat.le_trans hz2 (by simp)) ?_; intro v1 w1 hown1 hg1 hat1)
        | fail)
      have hgr := below_app (HB2.out.alloc hz2 _) hg1 (HO2.out.alloc _) (Nat.le_trans hz2 (by simp))
      go_roundw
      case rel => exact ⟨k + 1, by omega, by go_num, by rw [HS.out, List.map_append]; exact hown1, hgr⟩
      case measure => simp [intOf]; omega
    · obtain rfl : k = n := by omega
      have HZ := Lib.hid (show (xs.map classF).take k = xs.map classF from List.take_of_length_le (by rw [List.length_map, HL.out]; exact Nat.le_refl _))
      go_wp2
      go_ret
      exact ⟨_, rfl, by rw [← HZ.out]; exact HO.out, HB.out⟩
end Go.Proofs.Ytcbiaeeifclieaa
