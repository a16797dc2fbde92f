/- naskhlaw22.ExplicitPlain, walked. -/
import Derived.Test.YtflbiblkphaagaaExA
import Derived.Test.YtflbiblkphaagaaFindI
import Derived.Test.YtflbiblkphaagaaPaI
import Derived.Laws.EntriesVeiled
import Derived.Deep.DeepCutAuto
namespace Go.Proofs.Ytflbiblkphaagaa
open Go.RowKit

def plP (c : Int) : Bool := !leftC c && !opB c
theorem plF_step {xs : List Int} {k : Nat} {x : Int} (h : xs[k]? = some x) : (xs.take (k + 1)).filter plP = (xs.take k).filter plP ++ (if plP x = true then [x] else []) := by
  rw [List.take_add_one, h, List.filter_append]
  show _ = _ ++ _
  congr 1
  simp only [Option.toList_some, List.filter_cons, List.filter_nil]
theorem plF_le (xs : List Int) (k : Nat) : ((xs.take k).filter plP).length ≤ k := Nat.le_trans (List.length_filter_le _ _) (List.length_take_le _ _)
set_option maxRecDepth 100000 in
theorem plain1_any (b : Nat) (base x : Int) (w : World) (h : w.cell? ⟨b, 0, none⟩ = some (.int .i64 base)) : Calls Try.prog 36 #[.int .i64 x, .pointer (some ⟨b, 0, none⟩)] w fun e w' => e = .returned (.bool (x != base)) ∧ w = w' := by
  go_enter Try.func36, Try.ntmps36
  go_wp2
  go_ret
  exact ⟨rfl, rfl⟩
set_option maxRecDepth 100000 in
set_option maxHeartbeats 4000000 in
theorem explicitPlain_any (A : Option Addr) (n c : Nat) (xs : List Int) (level : Int) (w : World) (hr : Rd w 1 A n (xs.map (Value.int .i64))) (_hnc : n ≤ c) (hn : n ≤ maxLen) :
    Calls Try.prog 9 #[.slice A n c, .int .i64 level] w fun e w' => e = .returned (.bool true) ∧ Below w.heap.size w w' := by
  unfold maxLen at hn
  by_cases hs : n ≤ 500
  · have hn500 : (n : Int) ≤ 500 := by omega
    have hlen : xs.length = n := by simpa using hr.len1
    have HL := Lib.hid hlen
    have HR := Lib.hid hr
    obtain ⟨base, hbase⟩ : ∃ base, baseL level = base := ⟨_, rfl⟩
    have HBI := Lib.hid (hbase ▸ base_in level : 0 ≤ base ∧ base ≤ 1)
    have hmm : min (max level 0) 1 = base := hbase
    obtain ⟨l0, hl0⟩ : ∃ l0, (if level < 0 then 0 else level) = l0 := ⟨_, rfl⟩
    have hmi : (if 1 < l0 then 1 else l0) = base := by
      rw [← hmm, ← hl0]
      repeat' split
      all_goals omega
    have HBE := Lib.hid hbase
    have HO0 : Hid (w.ownsRow w.heap.size 3 1 (.slice none 0 0) ((xs.take 0).filter plP).length (((xs.take 0).filter plP).map (Value.int .i64))) := Lib.hid ⟨rfl, .inl ⟨rfl, rfl⟩⟩
    clear hr hbase hmm hlen
    go_enter Try.func9, Try.ntmps9
    go_wp2_with fail
    go_loopw [17, 5] (fun i v wr => ∃ k : Nat, k ≤ n ∧ i = .int .i64 (k : Int) ∧ wr.ownsRow w.heap.size 3 1 v ((xs.take k).filter plP).length (((xs.take k).filter plP).map (Value.int .i64)) ∧ Below w.heap.size w wr) (fun i _ _ => n - (intOf i).toNat)
    case atStart => exact ⟨0, Nat.zero_le _, rfl, HO0.out, Below.refl _ _⟩
    case round =>
      obtain ⟨k, hk, rfl, hO, hB⟩ := hrel
      have HO := Lib.hid hO
      have HB := Lib.hid hB
      obtain ⟨V, cv, rfl, hcv⟩ := own_form hO
      have hqn := plF_le xs k
      by_cases hlt : k < n
      · obtain ⟨x, hx⟩ : ∃ x, xs[k]? = some x := ⟨_, List.getElem?_eq_getElem (by rw [HL.out]; exact hlt)⟩
        obtain ⟨ad, rfl, hab, hcell⟩ := (HR.out.below HB.out).at_ hlt
        have cx := hcell _ (by rw [List.getElem?_map, hx]; rfl)
        have HST := Lib.hid (plF_step hx)
        obtain ⟨q, hq⟩ : ∃ q, ((xs.take k).filter plP).length = q := ⟨_, rfl⟩
        rw [hq] at HO hqn hcv ⊢
        have hkn : (k : Int) < (n : Int) := by omega
        have hk0 : (0 : Int) ≤ (k : Int) := by omega
        have hk5 : (k : Int) ≤ 500 := by omega
        obtain ⟨o, ho⟩ : ∃ o, opB x = o := ⟨_, rfl⟩
        have HOp := Lib.hid (fun W => rfOpens_of x o ho W)
        have HLf := Lib.hid (fun W => exLeft_any x W)
        obtain ⟨lf, hlf⟩ : ∃ lf, leftC x = lf := ⟨_, rfl⟩
        rw [hlf] at HLf
        have hpx : plP x = (!lf && !o) := by unfold plP; rw [hlf, ho]
        rw [hpx] at HST
        have HQ := Lib.hid hq
        clear hO hB hcell hx ho hlf hpx hq hl0
        cases lf with
        | true =>
          have HO3 : Hid (wr.ownsRow w.heap.size 3 1 (.slice V q cv) ((xs.take (k + 1)).filter plP).length (((xs.take (k + 1)).filter plP).map (Value.int .i64))) := Lib.hid (by rw [HST.out]; simpa [HQ.out] using HO.out)
          go_wp2_with fail
          refine (HLf.out _).mono ?_
          rintro e w2 ⟨rfl, rfl⟩
          go_wp2_with fail
          go_roundw
          case rel => exact ⟨k + 1, by omega, by go_num, HO3.out, HB.out⟩
          case measure => simp [intOf]; omega
        | false =>
          cases o with
          | true =>
            have HO3 : Hid (wr.ownsRow w.heap.size 3 1 (.slice V q cv) ((xs.take (k + 1)).filter plP).length (((xs.take (k + 1)).filter plP).map (Value.int .i64))) := Lib.hid (by rw [HST.out]; simpa [HQ.out] using HO.out)
            go_wp2_with fail
            refine (HLf.out _).mono ?_
            rintro e w2 ⟨rfl, rfl⟩
            go_wp2_with fail
            refine (HOp.out _).mono ?_
            rintro e w2 ⟨rfl, rfl⟩
            go_wp2_with fail
            go_roundw
            case rel => exact ⟨k + 1, by omega, by go_num, HO3.out, HB.out⟩
            case measure => simp [intOf]; omega
          | false =>
            go_wp2_with fail
            refine (HLf.out _).mono ?_
            rintro e w2 ⟨rfl, rfl⟩
            go_wp2_with fail
            refine (HOp.out _).mono ?_
            rintro e w2 ⟨rfl, rfl⟩
            go_wp2_with (at_builtin; refine wpList_app rfl _ _ _ rfl intSliceM (by decide) _ q _ rfl (HO.out.alloc _) ⟨wr.heap.size, 0, none⟩ 1 1 [.int .i64 x] rfl rfl (cells_new wr [_] _) (oneInt _ _) (by omega) (by unfold maxLen; omega) (Nat.le_trans HB.out.size (by simp)) ?_; intro v1 w3 hown3 hg3 hat3)
            have HB3 := Lib.hid (below_app (below_self HB.out (below_new wr _)) hg3 (HO.out.alloc _) (Nat.le_trans HB.out.size (by simp)))
            have HO3 : Hid (w3.ownsRow w.heap.size 3 1 v1 ((xs.take (k + 1)).filter plP).length (((xs.take (k + 1)).filter plP).map (Value.int .i64))) := Lib.hid (by rw [HST.out]; simpa [HQ.out] using hown3)
            clear hown3 hg3 hat3
            go_wp2_with fail
            go_roundw
            case rel => exact ⟨k + 1, by omega, by go_num, HO3.out, HB3.out⟩
            case measure => simp [intOf]; omega
      · obtain rfl : k = n := by omega
        rw [List.take_of_length_le (by rw [HL.out]; exact Nat.le_refl _)] at HO hqn hcv ⊢
        obtain ⟨ys, hys⟩ : ∃ ys, xs.filter plP = ys := ⟨_, rfl⟩
        have hyp : ∀ y ∈ ys, leftC y = false ∧ opB y = false := by
          rw [← hys]
          intro y hy
          have := (List.mem_filter.1 hy).2
          unfold plP at this
          simpa using this
        rw [hys] at HO hqn hcv ⊢
        obtain ⟨q, hq⟩ : ∃ q, ys.length = q := ⟨_, rfl⟩
        rw [hq] at HO hqn hcv ⊢
        have HPL := Lib.hid (plain_all HBI.out hyp)
        rw [hq] at HPL
        have HQ := Lib.hid hq
        clear hO hB hys hyp hq
        obtain ⟨W, hW⟩ : ∃ W, wr.alloc (.cells #[.int .i64 base] 3) = W := ⟨_, rfl⟩
        have hbn := below_new wr (.cells #[.int .i64 base] 3)
        have cx := cells_new wr [.int .i64 base] 3 0 _ rfl
        rw [addNew] at cx
        rw [show (wr.alloc (.cells [Value.int .i64 base].toArray 3)) = W from hW] at cx
        rw [hW] at hbn
        obtain ⟨bx, hbx⟩ : ∃ bx, wr.heap.size = bx := ⟨_, rfl⟩
        rw [hbx] at cx
        have HBW := Lib.hid (below_self HB.out hbn)
        have HRW := Lib.hid ((Rd.of_own HO.out).below hbn)
        have HLV := Lib.hid (exLevels_any V q cv ys level W HRW.out (by omega) hcv)
        rw [HBE.out] at HLV
        clear hbn
        go_wp2_with fail
        refine HLV.out.mono ?_
        rintro e w2 ⟨⟨ga, gb, rfl, hra, hrb⟩, hb2⟩
        rw [HPL.out.1] at hrb
        have HRA := Lib.hid hra
        have HRB := Lib.hid hrb
        have HRY := Lib.hid (HRW.out.below hb2)
        have HB2 := Lib.hid (below_self HBW.out hb2)
        have cx2 := cell_below hb2 cx
        clear hra hrb hb2 cx hmi hl0
        go_wp2_with fail
        refine (equalInt_b _ _ q q q cv ys ys w2 HRB.out HRY.out (by unfold maxLen; omega) (by unfold maxLen; omega)).mono ?_
        rintro e w3 ⟨rfl, hb3⟩
        rw [decide_eq_true rfl]
        have HB3 := Lib.hid (below_self HB2.out hb3)
        have HRA3 := Lib.hid (HRA.out.below hb3)
        have cx3 := cell_below hb3 cx2
        clear hb3 cx2
        have HCF := Lib.hid (containsFuncI_any 36 #[.pointer (some ⟨bx, 0, none⟩)] (enters_of Try.func36 (by kernel_rfl) rfl) (some ⟨ga, 0, none⟩) q q (lvL ys base q) (fun x => x != base) (fun _ W => W = w3) w3 (by rw [lvL_len]) (by omega) rfl (fun _ W e => by rw [e]; exact HRA3.out) (fun k x W _ e => by
          rw [e]
          exact (plain1_any bx base x w3 cx3).mono (fun _ _ h => ⟨h.1, h.2.symm⟩)))
        have HNO : Hid ((lvL ys base q).any (fun x => x != base) = false) := Lib.hid (by
          rw [List.any_eq_false]
          intro x hx
          have := HPL.out.2 x hx
          simp [this])
        go_wp2_with fail
        refine HCF.out.mono ?_
        rintro e w4 ⟨rfl, h4⟩
        rcases h4 with ⟨-, rfl⟩ | ⟨h5, -⟩
        · rw [HNO.out]
          go_wp2_with fail
          refine (awakeEx_any _).mono ?_
          rintro e w9 ⟨rfl, hb9⟩
          have HB9 := Lib.hid (below_self HB3.out hb9)
          clear hb9
          go_wp2
          go_ret
          exact ⟨rfl, HB9.out⟩
        · rw [HNO.out] at h5
          cases h5
  · have hn500 : (500 : Int) < (n : Int) := by omega
    clear hr
    go_enter Try.func9, Try.ntmps9
    go_wp2_with fail
    refine (awakeEx_any _).mono ?_
    rintro e w4 ⟨rfl, hb4⟩
    have HB4 := Lib.hid hb4
    clear hb4
    go_wp2
    go_ret
    exact ⟨rfl, HB4.out⟩
end Go.Proofs.Ytflbiblkphaagaa
