/- The reference's Find; its Joins of a text. -/
import Derived.Test.YtcjcimdembkbkaaLfP1
import Derived.Test.YtcjcimdembkbkaaJnP2
import Derived.Test.YtcjcimdembkbkaaRfJ
import Derived.Test.YtcjcimdembkbkaaMem3
import Derived.Test.YtcjcimdembkbkaaJnR
namespace Go.Proofs.Ytcjcimdembkbkaa
open Go.RowKit

theorem pairSliceR : SliceOf Try.prog 35 37 2 16 := .mk_ (z := .agg #[.int .i64 0, .int .i64 0]) Try.underlying35 (by kernel_rfl) rfl
set_option maxRecDepth 100000 in
set_option maxHeartbeats 4000000 in
theorem refJoins_any (A : Option Addr) (n c : Nat) (xs : List Int) (w : World) (hr : Rd w 1 A n (xs.map (Value.int .i64))) (hn : n ≤ 1000000) :
    Calls Try.prog 28 #[.slice A n c] w fun e w' => (∃ v, e = .returned v ∧ w'.ownsRow w.heap.size 3 1 v n ((xs.map joinF).map (Value.int .i64))) ∧ Below w.heap.size w w' := by
  have hlen : xs.length = n := by simpa using hr.len1
  have HL := Lib.hid hlen
  have HR := Lib.hid hr
  clear hlen hr
  go_enter Try.func28, Try.ntmps28
  go_wp2
  go_loopw [3, 4] (fun v i wr => ∃ (k : Nat) (acc : List Int), k ≤ n ∧ i = .int .i64 k ∧ wr.ownsRow w.heap.size 3 1 v k (acc.map (Value.int .i64)) ∧ acc = (xs.map joinF).take k ∧ Below w.heap.size w wr) (fun _ i _ => n - (intOf i).toNat)
  case atStart => exact ⟨0, [], Nat.zero_le _, rfl, ⟨rfl, .inl ⟨rfl, rfl⟩⟩, by simp, Below.refl _ _⟩
  case round =>
    obtain ⟨k, acc, hk, rfl, hown, hd, hb⟩ := hrel
    have hrd := HR.out.below hb
    by_cases hlt : k < n
    · obtain ⟨t, htk⟩ : ∃ t, xs[k]? = some t := ⟨_, List.getElem?_eq_getElem (by rw [HL.out]; exact hlt)⟩
      have hacc : acc ++ [joinF t] = (xs.map joinF).take (k + 1) := by rw [hd, List.take_add_one, List.getElem?_map, htk]; rfl
      obtain ⟨ad, rfl, _, hc⟩ := hrd.at_ hlt
      have cs : wr.cell? (ad.add k) = some (.int .i64 t) := hc _ (by rw [List.getElem?_map, htk]; rfl)
      have HO := Lib.hid hown
      have HB := Lib.hid hb
      have HX := Lib.hid hacc
      obtain ⟨jv, hjv⟩ : ∃ jv, joinF t = jv := ⟨_, rfl⟩
      have HJ := Lib.hid (fun w => refJoin_any t jv hjv w)
      rw [hjv] at HX
      clear hown hd hb hrd hc htk hacc hjv
      go_wp2_with (first
        | (go_at_call 48; with_reducible refine (HJ.out _).mono ?_; rintro e w1 ⟨rfl, hb1⟩)
        | (at_builtin; refine wpList_app rfl _ _ _ rfl intSliceJ (by decide) _ k _ rfl ((own_below HO.out hb1).alloc _) _ 1 1 [.int .i64 _] rfl rfl (cell_one_new _ _ _) (oneInt _ _) (by omega) (by unfold maxLen; omega) (Nat.le_trans (below_self HB.out hb1).size (by simp)) ?_; intro v1 w2 hown1 hg1 hat1)
        | fail)
      have hb2 := below_self HB.out hb1
      have hgr := below_app (hb2.alloc hb2.size _) hg1 ((own_below HO.out hb1).alloc _) (Nat.le_trans hb2.size (by simp))
      go_roundw
      case rel => exact ⟨k + 1, _, by omega, by go_num, by simpa using hown1, HX.out, hgr⟩
      case measure => simp [intOf]; omega
    · obtain rfl : k = n := by omega
      rw [hd, List.take_of_length_le (by rw [List.length_map, HL.out]; exact Nat.le_refl _)] at hown
      have HO := Lib.hid hown
      have HB := Lib.hid hb
      clear hown hd hb hrd
      go_wp2
      go_ret
      exact ⟨⟨_, rfl, HO.out⟩, HB.out⟩
set_option maxRecDepth 100000 in
set_option maxHeartbeats 4000000 in
theorem refFind_any (A B : Option Addr) (n m c d : Nat) (xs ts : List Int) (th : Bool) (w : World) (hr : Rd w 1 A n (xs.map (Value.int .i64))) (hs : Rd w 1 B m (ts.map (Value.int .i64))) (hn : n ≤ 1000000) :
    Calls Try.prog 31 #[.slice A n c, .slice B m d, .bool th] w fun e w' => (∃ v, e = .returned v ∧ w'.ownsRow w.heap.size 37 2 v (lfFind alefB xs ts th).length (cellsS (lfFind alefB xs ts th))) ∧ Below w.heap.size w w' := by
  have hxl : xs.length = n := by simpa using hr.len1
  have htl : ts.length = m := by simpa using hs.len1
  by_cases hnm : n = m
  · subst hnm
    obtain ⟨F, hF⟩ : ∃ F, lfFind alefB xs ts th = F := ⟨_, rfl⟩
    have HF := Lib.hid (show lfUpto alefB xs ts th n = F by rw [← hF]; unfold lfFind; rw [if_pos (by rw [hxl, htl]), hxl])
    rw [hF]
    have HXL := Lib.hid hxl
    have HTL := Lib.hid htl
    have HR := Lib.hid hr
    have HS := Lib.hid hs
    clear hr hs hxl htl hF
    go_enter Try.func31, Try.ntmps31
    go_wp2_with fail
    go_loopw [7, 8] (fun v i wr => ∃ (k : Nat) (l : List Sp), k ≤ n ∧ i = .int .i64 k ∧ wr.ownsRow w.heap.size 37 2 v l.length (cellsS l) ∧ l = lfUpto alefB xs ts th k ∧ Below w.heap.size w wr) (fun _ i _ => n - (intOf i).toNat)
    case atStart => exact ⟨0, [], Nat.zero_le _, rfl, ⟨rfl, .inl ⟨rfl, rfl⟩⟩, rfl, Below.refl _ _⟩
    case round =>
      obtain ⟨k, l, hk, rfl, hown, hl, hb⟩ := hrel
      have HB := Lib.hid hb
      have HO := Lib.hid hown
      have HRD := Lib.hid (HR.out.below hb)
      have HSD := Lib.hid (HS.out.below hb)
      have hll : l.length ≤ k := by rw [hl]; exact lfUpto_le _ _ _ _ _
      by_cases hlt : k < n
      · obtain ⟨x, hxk⟩ : ∃ x, xs[k]? = some x := ⟨_, List.getElem?_eq_getElem (by rw [HXL.out]; exact hlt)⟩
        have hcell := HRD.out.at_ hlt
        obtain ⟨ad, rfl, _, hc⟩ := hcell
        have cs : wr.cell? (ad.add k) = some (.int .i64 x) := hc _ (by rw [List.getElem?_map, hxk]; rfl)
        have HBE := Lib.hid (refBehind_any B n d ts k wr HSD.out (by omega))
        rw [show jBehind ts k = jFirst ts (k + 1) by unfold jBehind; rw [if_pos ⟨by omega, by rw [HTL.out]; omega⟩, Int.toNat_natCast]] at HBE
        have hup := lfUpto_succ alefB xs ts th k
        rw [← hl] at hup
        clear hb hown hl hc
        by_cases hx : x = 1604
        · subst hx
          have hat : lfAt alefB xs ts th k = if 0 ≤ jFirst ts (k + 1) ∧ alefB (xs.getD (jFirst ts (k + 1)).toNat 0) = true ∧ (th = true ∨ jFirst ts (k + 1) = (k : Int) + 1) then [((k : Int), jFirst ts (k + 1))] else [] := by
            unfold lfAt; rw [if_pos hxk]
          have hbr := jFirst_gt ts (k + 1)
          obtain ⟨b, hbe⟩ : ∃ b, jFirst ts (k + 1) = b := ⟨_, rfl⟩
          rw [hbe] at HBE hat hbr
          rw [HTL.out] at hbr
          rw [hat] at hup
          clear hat hbe hxk
          by_cases hb0 : b = -1
          · subst hb0
            rw [if_neg (fun h => by omega), List.append_nil] at hup
            have HUP := Lib.hid hup
            clear hup hbr
            go_wp2_with (first
              | (go_at_call 18; with_reducible refine HBE.out.mono ?_; rintro e w1 ⟨rfl, rfl⟩)
              | fail)
            go_roundw
            case rel => exact ⟨k + 1, l, by omega, by go_num, HO.out, HUP.out.symm, HB.out⟩
            case measure => simp [intOf]; omega
          · obtain ⟨b, rfl⟩ : ∃ bn : Nat, b = bn := ⟨b.toNat, by omega⟩
            have hbn : b < n := by omega
            obtain ⟨y, hy⟩ : ∃ y, xs[b]? = some y := ⟨_, List.getElem?_eq_getElem (by rw [HXL.out]; exact hbn)⟩
            have cy : wr.cell? (ad.add b) = some (.int .i64 y) := HRD.out.news b _ (by rw [List.getElem?_map, hy]; rfl)
            have hyd : xs.getD b 0 = y := by simp [hy]
            rw [Int.toNat_natCast, hyd] at hup
            have HAL := Lib.hid (fun w => refAlef_any y w)
            obtain ⟨al, hal⟩ : ∃ al, alefB y = al := ⟨_, rfl⟩
            rw [hal] at HAL hup
            clear hy hyd hal hbr hb0
            by_cases hadd : al = true ∧ (th = true ∨ (b : Int) = (k : Int) + 1)
            · rw [if_pos ⟨by omega, hadd⟩] at hup
              obtain ⟨rfl, hth⟩ := hadd
              have HUP := Lib.hid hup
              clear hup
              have key : th = true ∨ (th = false ∧ (b : Int) = (k : Int) + 1) := by cases th with
                | true => exact .inl rfl
                | false => exact .inr ⟨rfl, hth.elim (fun h => absurd h (by decide)) id⟩
              clear hth
              rcases key with rfl | ⟨rfl, hth⟩
              · go_wp2_with (first
                  | (go_at_call 18; with_reducible refine HBE.out.mono ?_; rintro e w1 ⟨rfl, rfl⟩)
                  | (go_at_call 33; with_reducible refine (HAL.out _).mono ?_; rintro e w2 ⟨rfl, hb2⟩)
                  | (at_builtin; refine wpList_app rfl _ _ _ rfl pairSliceR (by decide) _ l.length _ rfl ((own_below HO.out hb2).alloc _) ⟨w2.heap.size, 0, none⟩ 1 1 [.int .i64 (k : Int), .int .i64 (b : Int)] rfl rfl (cells_new w2 [_, _] _) (oneInt2 _ _ _) (by omega) (by unfold maxLen; omega) (Nat.le_trans (below_self HB.out hb2).size (by simp)) ?_; intro v1 w3 hown1 hg1 hat1)
                  | fail)
                have hb3 := below_self HB.out hb2
                have hgr := below_app (hb3.alloc hb3.size _) hg1 ((own_below HO.out hb2).alloc _) (Nat.le_trans hb3.size (by simp))
                go_roundw
                case rel => exact ⟨k + 1, _, by omega, by go_num, by simpa [cellsS, encS] using hown1, HUP.out.symm, hgr⟩
                case measure => simp [intOf]; omega
              · have g9 : ((b : Int) == (k : Int) + 1) = true := by simp only [beq_iff_eq]; exact hth
                have g8 : decide ((b : Int) = (k : Int) + 1) = true := decide_eq_true hth
                clear hth
                go_wp2_with (first
                  | (go_at_call 18; with_reducible refine HBE.out.mono ?_; rintro e w1 ⟨rfl, rfl⟩)
                  | (go_at_call 33; with_reducible refine (HAL.out _).mono ?_; rintro e w2 ⟨rfl, hb2⟩)
                  | (at_builtin; refine wpList_app rfl _ _ _ rfl pairSliceR (by decide) _ l.length _ rfl ((own_below HO.out hb2).alloc _) ⟨w2.heap.size, 0, none⟩ 1 1 [.int .i64 (k : Int), .int .i64 (b : Int)] rfl rfl (cells_new w2 [_, _] _) (oneInt2 _ _ _) (by omega) (by unfold maxLen; omega) (Nat.le_trans (below_self HB.out hb2).size (by simp)) ?_; intro v1 w3 hown1 hg1 hat1)
                  | fail)
                have hb3 := below_self HB.out hb2
                have hgr := below_app (hb3.alloc hb3.size _) hg1 ((own_below HO.out hb2).alloc _) (Nat.le_trans hb3.size (by simp))
                go_roundw
                case rel => exact ⟨k + 1, _, by omega, by go_num, by simpa [cellsS, encS] using hown1, HUP.out.symm, hgr⟩
                case measure => simp [intOf]; omega
            · rw [if_neg (fun h => hadd h.2), List.append_nil] at hup
              have HUP := Lib.hid hup
              clear hup
              cases al
              · clear hadd
                go_wp2_with (first
                  | (go_at_call 18; with_reducible refine HBE.out.mono ?_; rintro e w1 ⟨rfl, rfl⟩)
                  | (go_at_call 33; with_reducible refine (HAL.out _).mono ?_; rintro e w2 ⟨rfl, hb2⟩)
                  | fail)
                go_roundw
                case rel => exact ⟨k + 1, l, by omega, by go_num, own_below HO.out hb2, HUP.out.symm, below_self HB.out hb2⟩
                case measure => simp [intOf]; omega
              · obtain rfl : th = false := by cases th with
                  | false => rfl
                  | true => exact absurd ⟨rfl, .inl rfl⟩ hadd
                have g9 : ((b : Int) == (k : Int) + 1) = false := by simp only [beq_eq_false_iff_ne]; exact fun h => hadd ⟨rfl, .inr h⟩
                have g8 : decide ((b : Int) = (k : Int) + 1) = false := decide_eq_false (fun h => hadd ⟨rfl, .inr h⟩)
                clear hadd
                go_wp2_with (first
                  | (go_at_call 18; with_reducible refine HBE.out.mono ?_; rintro e w1 ⟨rfl, rfl⟩)
                  | (go_at_call 33; with_reducible refine (HAL.out _).mono ?_; rintro e w2 ⟨rfl, hb2⟩)
                  | fail)
                go_roundw
                case rel => exact ⟨k + 1, l, by omega, by go_num, own_below HO.out hb2, HUP.out.symm, below_self HB.out hb2⟩
                case measure => simp [intOf]; omega
        · have he : lfAt alefB xs ts th k = [] := by
            unfold lfAt
            rw [if_neg (fun h => hx (by rw [hxk] at h; exact Option.some.inj h))]
          rw [he, List.append_nil] at hup
          have HUP := Lib.hid hup
          have g1 : (x == 1604) = false := by simp [hx]
          clear hx he hup hxk
          go_wp2_with (first
            | (go_at_call 18; with_reducible refine HBE.out.mono ?_; rintro e w1 ⟨rfl, rfl⟩)
            | fail)
          go_roundw
          case rel => exact ⟨k + 1, l, by omega, by go_num, HO.out, HUP.out.symm, HB.out⟩
          case measure => simp [intOf]; omega
      · obtain rfl : k = n := by omega
        have hlf := hl.trans HF.out
        rw [hlf] at HO
        clear hown hb hl hlf hll
        go_wp2_with fail
        go_ret
        exact ⟨⟨_, rfl, HO.out⟩, HB.out⟩
  · rw [show lfFind alefB xs ts th = [] from if_neg (by rw [hxl, htl]; exact hnm)]
    have g1 : ((n : Int) == (m : Int)) = false := by simp; omega
    have g2 : ((n : Int) != (m : Int)) = true := by simp; omega
    clear hr hs hxl htl hnm
    go_enter Try.func31, Try.ntmps31
    go_wp2_with fail
    go_ret
    exact ⟨⟨_, rfl, ⟨rfl, .inl ⟨rfl, rfl⟩⟩⟩, Below.refl _ _⟩
end Go.Proofs.Ytcjcimdembkbkaa
