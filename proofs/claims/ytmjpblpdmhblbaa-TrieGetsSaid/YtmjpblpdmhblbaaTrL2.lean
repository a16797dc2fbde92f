/- naskhlaw06.TrieGets, where what comes in can be cloned. -/
import Derived.Test.YtmjpblpdmhblbaaTrL1
import Derived.Test.YtmjpblpdmhblbaaTrR2
import Derived.Test.YtmjpblpdmhblbaaCloneG
import Derived.Test.YtmjpblpdmhblbaaEqG
import Derived.Deep.RegionHeld3
namespace Go.Proofs.Ytmjpblpdmhblbaa
open Go.RowKit

theorem getG_mem {l : List Rg} {z : Int} (h : Srt l) {s : Rg} (hs : s ∈ l) {c : Int} (h0 : s.1 ≤ c) (h1 : c ≤ s.2.1) : getG l z c = s.2.2 := by
  induction l with
  | nil => cases hs
  | cons t l ih =>
    rcases List.mem_cons.1 hs with rfl | hs
    · rw [getG, if_pos ⟨h0, h1⟩]
    · have := (List.pairwise_cons.1 h.1).1 s hs
      rw [getG_behind (by omega)]
      exact ih h.tail hs
theorem rise_of_err {l : List Rg} (h : errG l = 0) : riseB (-1) l = true := by
  unfold errG at h
  split at h
  · cases h
  · split at h
    · assumption
    · cases h
def GetsAt (w2 : World) (m : Nat) (i : Value) (wr : World) : Prop := ∃ k : Nat, k ≤ m ∧ i = .int .i64 k ∧ Below w2.heap.size w2 wr
set_option maxRecDepth 100000 in
set_option maxHeartbeats 4000000 in
theorem trieGets_any (A : Option Addr) (n c : Nat) (l : List Rg) (z : Int) (B : Option Addr) (m d : Nat) (codes : List Int) (w : World) (hr : Rd w 3 A n (cellsG l)) (hn : n ≤ maxLen) (hnc : n ≤ c) (hm24 : n * 24 ≤ 140737488355328)
    (hs : Rd w 1 B m (codes.map (Value.int .i64))) (hfz : FitI z) (hfl : ∀ s ∈ l, FitI s.2.2) :
    Calls Try.prog 3 #[.slice A n c, .int .i64 z, .slice B m d] w fun e w' => e = .returned (.bool true) ∧ Below w.heap.size w w' := by
  have HR := Lib.hid hr
  have HL := Lib.hid hr.lenG
  have HN := Lib.hid hn
  have HS := Lib.hid hs
  have hcl : codes.length = m := by simpa using hs.len1
  have HCL := Lib.hid hcl
  have HFL := Lib.hid hfl
  have H1 := Lib.hid (show ∀ u ∈ cellsG l, u.oneCell' = true from fun u hu => by
    simp only [cellsG, List.mem_flatMap] at hu
    obtain ⟨s, _, hu⟩ := hu
    simp [encG] at hu
    rcases hu with rfl | rfl | rfl <;> rfl)
  clear hr hs hcl hfl
  unfold maxLen at hn
  have hc : (300 < n ∧ n ≤ 4096) ∨ (n ≤ 300 ∧ 500 < m) ∨ (4096 < n ∧ 500 < m) ∨ (n ≤ 300 ∧ m ≤ 500) ∨ (4096 < n ∧ m ≤ 500) := by omega
  rcases hc with ⟨h, h'⟩ | ⟨h, h'⟩ | ⟨h, h'⟩ | hgo
  · go_enter Try.func3, Try.ntmps3
    go_wp2_with fail
    refine (awakeT_any _).mono ?_
    rintro e w1 ⟨rfl, hb⟩
    go_wp2
    go_ret
    exact ⟨rfl, hb⟩
  · go_enter Try.func3, Try.ntmps3
    go_wp2_with fail
    refine (awakeT_any _).mono ?_
    rintro e w1 ⟨rfl, hb⟩
    go_wp2
    go_ret
    exact ⟨rfl, hb⟩
  · go_enter Try.func3, Try.ntmps3
    go_wp2_with fail
    refine (awakeT_any _).mono ?_
    rintro e w1 ⟨rfl, hb⟩
    go_wp2
    go_ret
    exact ⟨rfl, hb⟩
  · have hm5 : m ≤ 500 := by omega
    have hg : (n ≤ 300 ∧ m ≤ 500) ∨ (4096 < n ∧ m ≤ 500) := hgo
    clear hgo
    rcases hg with ⟨hn3, _⟩ | ⟨hn3, _⟩
    all_goals (
      go_enter Try.func3, Try.ntmps3
      go_wp2_with fail
      refine (cloneG_any A n c _ w HR.out H1.out hm24).mono ?_
      rintro e w1 ⟨v, rfl, hown, hb1⟩
      obtain ⟨Ac, cc, rfl, _⟩ := own_form hown
      have HRc := Lib.hid (Rd.of_own hown)
      clear hown
      go_wp2_with fail
      refine (prBuild_any A n c z l w1 (HR.out.below hb1) HN.out hnc hfz HFL.out).mono ?_
      rintro e w2 ⟨hp, hb⟩
      have hb2 := below_self hb1 hb
      have HRc2 := Lib.hid (HRc.out.below hb)
      clear hb hb1 HRc
      have hbz := Below.refl w2.heap.size w2
      rcases hp with ⟨he, b, nb, rfl, hT⟩ | ⟨he, rfl⟩
      · have HE := Lib.hid he
        have HT := Lib.hid hT
        have HRI := Lib.hid (rise_of_err he)
        clear he hT
        go_wp2_with (first
          | (go_at_call 13; with_reducible refine (refCheckG_any A n c l _ (HR.out.below (below_self hb2 hbz)) HN.out).mono ?_; rintro e w3 ⟨rfl, h9⟩; replace hbz := below_self hbz h9; clear h9; rw [HE.out])
          | (go_at_call 14; with_reducible refine (equalG_b A Ac n n c cc l l _ (HR.out.below (below_self hb2 hbz)) (HRc2.out.below hbz) HN.out HN.out).mono ?_; rintro e w3 ⟨rfl, h9⟩; replace hbz := below_self hbz h9; clear h9; rw [show decide (l = l) = true by simp])
          | fail)
        go_loopw [58] (GetsAt w2 m) (fun i _ => m - (intOf i).toNat)
        case atStart => exact ⟨0, Nat.zero_le _, rfl, hbz⟩
        case round =>
          clear hbz
          obtain ⟨k, hk, rfl, hbz⟩ := hrel
          by_cases hlt : k < m
          · obtain ⟨x, hxk⟩ : ∃ x, codes[k]? = some x := ⟨_, List.getElem?_eq_getElem (by rw [HCL.out]; exact hlt)⟩
            obtain ⟨ad, rfl, _, hcx⟩ := (HS.out.below (below_self hb2 hbz)).at_ hlt
            have cx : wr.cell? (ad.add k) = some (.int .i64 x) := hcx _ (by rw [List.getElem?_map, hxk]; rfl)
            clear hxk hcx
            go_wp2_with (first
              | (go_at_call 15; with_reducible refine (prGet_any b nb l z x _ (HT.out.below hbz) HRI.out).mono ?_; rintro e w3 ⟨rfl, h9⟩; replace hbz := below_self hbz h9; clear h9)
              | (go_at_call 16; with_reducible refine (refGetG_any A n c l z x _ (HR.out.below (below_self hb2 hbz)) HN.out).mono ?_; rintro e w3 ⟨rfl, rfl⟩)
              | fail)
            go_roundw
            case rel => exact ⟨k + 1, by omega, by go_num, hbz⟩
            case measure => simp [intOf]; omega
          · go_wp2
            go_loopw [73] (GetsAt w2 n) (fun i _ => n - (intOf i).toNat)
            case atStart => exact ⟨0, Nat.zero_le _, rfl, hbz⟩
            case round =>
              clear hbz
              obtain ⟨k2, hk2, rfl, hbz⟩ := hrel
              by_cases hlt2 : k2 < n
              · obtain ⟨s, hsk⟩ : ∃ s, l[k2]? = some s := ⟨_, List.getElem?_eq_getElem (by rw [HL.out]; exact hlt2)⟩
                obtain ⟨ad2, rfl, hab, y1, y2, y3⟩ := (HR.out.below (below_self hb2 hbz)).rg hsk
                have hsm := List.mem_of_getElem? hsk
                obtain ⟨lo, hi, sv⟩ := s
                have hle := (srt_of_rise HRI.out).1.2 _ hsm
                have HG1 := Lib.hid (getG_mem (z := z) (srt_of_rise HRI.out).1 hsm (c := lo) (Int.le_refl _) hle)
                have HG2 := Lib.hid (getG_mem (z := z) (srt_of_rise HRI.out).1 hsm (c := hi) hle (Int.le_refl _))
                simp only at y1 y2 y3
                clear hsk hsm hle
                have hb5 := below_new wr (.cells #[.int .i64 lo, .int .i64 hi, .int .i64 sv] 27)
                have e0 : (wr.alloc (.cells #[.int .i64 lo, .int .i64 hi, .int .i64 sv] 27)).cell? ⟨wr.heap.size, 0, none⟩ = some (.int .i64 lo) := by rw [World.cell?_alloc_at _ _ _ _ rfl]; rfl
                have e1 : (wr.alloc (.cells #[.int .i64 lo, .int .i64 hi, .int .i64 sv] 27)).cell? ⟨wr.heap.size, 1, none⟩ = some (.int .i64 hi) := by rw [World.cell?_alloc_at _ _ _ _ rfl]; rfl
                have e2 : (wr.alloc (.cells #[.int .i64 lo, .int .i64 hi, .int .i64 sv] 27)).cell? ⟨wr.heap.size, 2, none⟩ = some (.int .i64 sv) := by rw [World.cell?_alloc_at _ _ _ _ rfl]; rfl
                go_wp2
                generalize (wr.alloc (.cells #[.int .i64 lo, .int .i64 hi, .int .i64 sv] 27)) = w0 at *
                obtain ⟨bx, hbx⟩ : ∃ bx, wr.heap.size = bx := ⟨_, rfl⟩
                simp only [hbx] at e0 e1 e2 ⊢
                have hb6 := below_self hbz hb5
                clear hbx hb5 y1 y2 y3
                go_region_held3 (fun w' => w'.cell? ⟨bx, 0, none⟩ = some (.int .i64 lo) ∧ w'.cell? ⟨bx, 1, none⟩ = some (.int .i64 hi) ∧ w'.cell? ⟨bx, 2, none⟩ = some (.int .i64 sv) ∧ Below w0.heap.size w0 w')
                  (first
                    | exact ⟨e0, e1, e2, (Below.refl _ _).drew⟩
                    | exact ⟨cell_below h1 (by assumption : _ ∧ _ ∧ _ ∧ Below w0.heap.size w0 _).1, cell_below h1 (by assumption : _ ∧ _ ∧ _ ∧ Below w0.heap.size w0 _).2.1, cell_below h1 (by assumption : _ ∧ _ ∧ _ ∧ Below w0.heap.size w0 _).2.2.1, below_self (by assumption : _ ∧ _ ∧ _ ∧ Below w0.heap.size w0 _).2.2.2 h1⟩
                    | exact ⟨cell_below h1 e0, cell_below h1 e1, cell_below h1 e2, below_self (Below.refl _ _).drew h1⟩)
                  (first
                    | (go_at_call 15; with_reducible refine (prGet_any b nb l z lo _ (HT.out.below (below_self hb6 (by first | exact (Below.refl _ _).drew | exact (by assumption : _ ∧ _ ∧ _ ∧ Below w0.heap.size w0 _).2.2.2))) HRI.out).mono ?_; rintro e w3 ⟨rfl, h1⟩; rw [HG1.out])
                    | (go_at_call 15; with_reducible refine (prGet_any b nb l z hi _ (HT.out.below (below_self hb6 (by first | exact (Below.refl _ _).drew | exact (by assumption : _ ∧ _ ∧ _ ∧ Below w0.heap.size w0 _).2.2.2))) HRI.out).mono ?_; rintro e w3 ⟨rfl, h1⟩; rw [HG2.out])
                    | fail)
                have hfin := (by assumption : _ ∧ _ ∧ _ ∧ Below w0.heap.size w0 _).2.2.2
                have hbn := below_self hb6 hfin
                go_wp2
                go_roundw
                case rel => exact ⟨k2 + 1, by omega, by go_num, hbn⟩
                case measure => simp [intOf]; omega
              · go_wp2_with (first
                  | (go_at_call 10; with_reducible refine (awakeT_any _).mono ?_; rintro e w3 ⟨rfl, h9⟩; replace hbz := below_self hbz h9; clear h9)
                  | fail)
                go_ret
                exact ⟨rfl, below_self hb2 hbz⟩
      · obtain ⟨er, her⟩ : ∃ er, errG l = er := ⟨_, rfl⟩
        rw [her] at he ⊢
        have HE := Lib.hid her
        have g1 : (er == 0) = false := by simp [he]
        have g2 : (er != 0) = true := by simp [he]
        have g3 : ¬ er = 0 := he
        clear her he
        go_wp2_with (first
          | (go_at_call 13; with_reducible refine (refCheckG_any A n c l _ (HR.out.below (below_self hb2 hbz)) HN.out).mono ?_; rintro e w3 ⟨rfl, h9⟩; replace hbz := below_self hbz h9; clear h9; rw [HE.out])
          | (go_at_call 14; with_reducible refine (equalG_b A Ac n n c cc l l _ (HR.out.below (below_self hb2 hbz)) (HRc2.out.below hbz) HN.out HN.out).mono ?_; rintro e w3 ⟨rfl, h9⟩; replace hbz := below_self hbz h9; clear h9; rw [show decide (l = l) = true by simp])
          | (go_at_call 10; with_reducible refine (awakeT_any _).mono ?_; rintro e w3 ⟨rfl, h9⟩; replace hbz := below_self hbz h9; clear h9)
          | fail)
        go_ret
        exact ⟨rfl, below_self hb2 hbz⟩)
end Go.Proofs.Ytmjpblpdmhblbaa
