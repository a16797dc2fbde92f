/- Texts of one claim, one behind the other. -/
import Derived.Deep.RegionWith
import Derived.Test.YtdgomaoikeffhaaGreatMgAp1
import Derived.Test.YtdgomaoikeffhaaGreatMgAp2
import Derived.Test.YtdgomaoikeffhaaGreatMgAp3
/- para's held, First, Level, walked. -/
namespace Go.Proofs.YtdgomaoikeffhaaGreat
open Go.RowKit

/-- The ends of what a span has of n places. -/
def hiF (s : Sp) (n : Nat) : Nat := (min (max s.2 0) (n : Int)).toNat
def loF (s : Sp) (n : Nat) : Nat := (min (max s.1 0) (hiF s n : Int)).toNat
theorem hi_le (s : Sp) (n : Nat) : hiF s n ≤ n := by unfold hiF; omega
theorem lo_le (s : Sp) (n : Nat) : loF s n ≤ hiF s n := by unfold loF; omega
theorem hi_eq (s : Sp) (n : Nat) : min (max s.2 0) (n : Int) = (hiF s n : Int) := by unfold hiF; omega
theorem lo_eq (s : Sp) (n : Nat) : min (max s.1 0) (hiF s n : Int) = (loF s n : Int) := by unfold loF; omega
theorem spanOf_eq (xs : List Int) (s : Sp) : spanOf xs s = (xs.drop (loF s xs.length)).take (hiF s xs.length - loF s xs.length) := by
  unfold spanOf
  have h1 := hi_eq s xs.length
  have h2 := lo_eq s xs.length
  have h3 := lo_le s xs.length
  by_cases h : max s.1 0 < min (max s.2 0) xs.length
  · rw [if_pos h]
    have : (max s.1 0).toNat = loF s xs.length := by omega
    rw [this]
    have : (min (max s.2 0) (xs.length : Int)).toNat = hiF s xs.length := rfl
    rw [this]
  · rw [if_neg h, show hiF s xs.length - loF s xs.length = 0 by omega, List.take_zero]
theorem Rd.sub {w : World} {A : Option Addr} {n : Nat} {xs : List Int} (hr : Rd w 1 A n (xs.map (Value.int .i64))) {lo hi : Nat} (h1 : lo ≤ hi) (h2 : hi ≤ n) {B : Option Addr} (hB : lo < hi → B = A.map (·.add lo)) : Rd w 1 B (hi - lo) (((xs.drop lo).take (hi - lo)).map (Value.int .i64)) := by
  have hlen : xs.length = n := by simpa using hr.len1
  refine ⟨by simp; omega, fun hn => ?_⟩
  obtain ⟨ad, rfl, hb, hc⟩ := hr.2 (by omega)
  rw [hB (by omega)]
  refine ⟨ad.add lo, rfl, by rw [blockAdd]; exact hb, fun j u hu => ?_⟩
  rw [addAdd]
  refine hc _ u ?_
  rw [List.getElem?_map, List.getElem?_take] at hu
  split at hu
  · rw [List.getElem?_drop] at hu
    rw [List.getElem?_map]
    exact hu
  · cases hu
def HeldAns (w w' : World) (ys : List Int) (e : Ending) : Prop := ∃ (B : Option Addr) (m k : Nat), e = .returned (.slice B m k) ∧ Rd w' 1 B m (ys.map (Value.int .i64)) ∧ Below w.heap.size w w'
set_option maxRecDepth 100000 in
set_option maxHeartbeats 1000000 in
theorem prHeld_any (A : Option Addr) (n c : Nat) (xs : List Int) (lo hi : Int) (w : World) (hr : Rd w 1 A n (xs.map (Value.int .i64))) (hn : n ≤ 1000000) (hnc : n ≤ c) (hl : Fit lo) (hh : Fit hi) :
    Calls Tryz.prog 50 #[.slice A n c, .agg #[.int .i64 lo, .int .i64 hi]] w fun e w' => HeldAns w w' (spanOf xs (lo, hi)) e := by
  have hlen : xs.length = n := by simpa using hr.len1
  have h1 := hi_eq (lo, hi) n
  have h2 := lo_eq (lo, hi) n
  have h3 := lo_le (lo, hi) n
  have h4 := hi_le (lo, hi) n
  have he := spanOf_eq xs (lo, hi)
  rw [hlen] at he
  obtain ⟨H, hH⟩ : ∃ H, hiF (lo, hi) n = H := ⟨_, rfl⟩
  obtain ⟨L, hL⟩ : ∃ L, loF (lo, hi) n = L := ⟨_, rfl⟩
  rw [hH, hL] at he h3
  rw [hH] at h1 h2 h4
  rw [hL] at h2
  simp only at h1 h2
  have h1' : (if (n : Int) < (if hi < 0 then 0 else hi) then (n : Int) else (if hi < 0 then 0 else hi)) = (H : Int) := by
    rw [← h1]; split <;> split <;> omega
  have h2' : (if (H : Int) < (if lo < 0 then 0 else lo) then (H : Int) else (if lo < 0 then 0 else lo)) = (L : Int) := by
    rw [← h2]; split <;> split <;> omega
  clear h1 h2
  have HE := Lib.hid he
  have s1 := SpanBlk.new_ w lo hi 33
  have hbn := below_new w (.cells #[.int .i64 lo, .int .i64 hi] 33)
  obtain ⟨c0, c1, _, _⟩ := s1
  simp only at c0 c1
  have HR := Lib.hid (hr.below hbn)
  have HB := Lib.hid hbn
  have k0 : (0 : Int) ≤ (L : Int) := by omega
  have k1 : (L : Int) ≤ (H : Int) := by omega
  have k2 : (H : Int) ≤ (c : Int) := by omega
  clear hr hbn he hH hL hl hh
  go_enter Tryz.func50, Tryz.ntmps50
  go_wp2
  all_goals first
    | (have e9 : H = L := ‹H = L›
       exact bodyPost_ret (v := .slice A 0 0) (by simp [results, go_sem]) rfl ⟨A, 0, 0, rfl, by rw [HE.out, e9, Nat.sub_self]; exact Rd.nil_, HB.out⟩)
    | exact bodyPost_ret (v := .slice (A.map fun x => x.add L) (H - L) (H - L)) (by simp [results, go_sem]) rfl ⟨_, _, _, rfl, by rw [HE.out]; exact HR.out.sub h3 h4 (fun _ => rfl), HB.out⟩
end Go.Proofs.YtdgomaoikeffhaaGreat
/- para's First, walked. -/
namespace Go.Proofs.YtdgomaoikeffhaaGreat
open Go.RowKit

set_option maxRecDepth 100000 in
set_option maxHeartbeats 2000000 in
theorem prFirst_any (A : Option Addr) (n c : Nat) (xs : List Int) (lo hi : Int) (w : World) (hr : Rd w 1 A n (xs.map (Value.int .i64))) (hn : n ≤ 1000000) (hnc : n ≤ c) (hl : Fit lo) (hh : Fit hi) :
    Calls Tryz.prog 36 #[.slice A n c, .agg #[.int .i64 lo, .int .i64 hi]] w fun e w' => e = .returned (.int .i64 (firstF xs (lo, hi))) ∧ Below w.heap.size w w' := by
  have hlen : xs.length = n := by simpa using hr.len1
  have hbn := below_new w (.cells #[.int .i64 lo, .int .i64 hi] 33)
  have s1 := SpanBlk.new_ w lo hi 33
  obtain ⟨c0, c1, _, _⟩ := s1
  simp only at c0 c1
  have HH := Lib.hid (prHeld_any A n c xs lo hi _ (hr.below hbn) hn hnc hl hh)
  have hsl : (spanOf xs (lo, hi)).length ≤ n := by
    rw [spanOf_eq, List.length_take, List.length_drop, hlen]
    have := hi_le (lo, hi) n
    omega
  obtain ⟨ys, hys⟩ : ∃ ys, spanOf xs (lo, hi) = ys := ⟨_, rfl⟩
  have HF := Lib.hid (show firstF xs (lo, hi) = fstF ys 0 by unfold firstF; rw [hys])
  rw [hys] at HH hsl
  clear hys hr hlen
  go_enter Tryz.func36, Tryz.ntmps36
  go_wp2_with fail
  refine HH.out.mono ?_
  rintro e w1 ⟨B, m, k, rfl, hrd, hb1⟩
  have hym : ys.length = m := by simpa using hrd.len1
  have HYM := Lib.hid hym
  have HRD := Lib.hid hrd
  have hb1' := below_self hbn hb1
  have HB := Lib.hid hb1'
  rw [hym] at hsl
  clear hym hrd hb1 hb1' hbn c0 c1
  go_wp2_with fail
  go_loopw [5, 12] (fun d i wr => ∃ (j e : Nat), j ≤ m ∧ e ≤ j ∧ i = .int .i64 (j : Int) ∧ d = .int .i64 (e : Int) ∧ wr = w1 ∧ fstF ys 0 = fstF (ys.drop j) e) (fun _ i _ => m - (intOf i).toNat)
  case atStart => exact ⟨0, 0, Nat.zero_le _, Nat.le_refl _, rfl, rfl, rfl, rfl⟩
  case round =>
    obtain ⟨j, d, hj, hdj, rfl, rfl, rfl, hfs⟩ := hrel
    by_cases hlt : j < m
    · obtain ⟨x, hx⟩ : ∃ x, ys[j]? = some x := ⟨_, List.getElem?_eq_getElem (by rw [HYM.out]; exact hlt)⟩
      obtain ⟨ad, rfl, hab, hcell⟩ := HRD.out.at_ hlt
      have cx : wr.cell? (ad.add j) = some (.int .i64 x) := hcell _ (by rw [List.getElem?_map, hx]; rfl)
      rw [dropCons hx, fstF] at hfs
      obtain ⟨o, ho⟩ : ∃ o, opB x = o := ⟨_, rfl⟩
      have HI := Lib.hid (fun W => prIso_of x o ho W)
      rw [ho] at hfs
      clear hcell hx ho
      cases o with
      | true =>
        rw [if_pos rfl] at hfs
        have HS := Lib.hid hfs
        clear hfs
        go_wp2_with (first
          | (go_at_call 51; with_reducible refine (HI.out _).mono ?_; rintro e w2 ⟨rfl, rfl⟩)
          | fail)
        go_roundw
        case rel => exact ⟨j + 1, d + 1, by omega, by omega, by go_num, by go_num, trivial, HS.out⟩
        case measure => simp [intOf]; omega
      | false =>
        rw [if_neg (by decide)] at hfs
        by_cases h22 : x = 22
        · subst h22
          rw [if_pos rfl] at hfs
          have HS := Lib.hid hfs
          clear hfs
          rcases Nat.eq_zero_or_pos d with rfl | hd
          · have hm : ((0 : Nat) : Int) - 1 < 0 := by omega
            go_wp2_with (first
              | (go_at_call 51; with_reducible refine (HI.out _).mono ?_; rintro e w2 ⟨rfl, rfl⟩)
              | fail)
            go_roundw
            case rel => exact ⟨j + 1, 0, by omega, by omega, by go_num, rfl, trivial, HS.out⟩
            case measure => simp [intOf]; omega
          · obtain ⟨f, rfl⟩ : ∃ f, d = f + 1 := ⟨d - 1, by omega⟩
            have hm : ¬ (((f + 1 : Nat) : Int) - 1 < 0) := by omega
            have hm2 : ((f + 1 : Nat) : Int) - 1 = (f : Int) := by omega
            have hm3 : (0 : Int) ≤ (f : Int) := by omega
            have HS2 := Lib.hid (show fstF ys 0 = fstF (ys.drop (j + 1)) f from HS.out)
            obtain ⟨D, hD⟩ : ∃ D : Int, ((f + 1 : Nat) : Int) = D := ⟨_, rfl⟩
            have hm4 : D - 1 = (f : Int) := by omega
            have hDl : 0 ≤ D ∧ D ≤ 1000001 := by omega
            obtain ⟨hD1, hD2⟩ := hDl
            rw [hD]
            clear hD hm hm2 HS
            go_wp2_with (first
              | (go_at_call 51; with_reducible refine (HI.out _).mono ?_; rintro e w2 ⟨rfl, rfl⟩)
              | fail)
            go_roundw
            case rel => exact ⟨j + 1, f, by omega, by omega, by go_num, by go_num, trivial, HS2.out⟩
            case measure => simp [intOf]; omega
        · rw [if_neg h22] at hfs
          have g22 : (x == 22) = false := by simp [h22]
          rcases Nat.eq_zero_or_pos d with rfl | hd
          · rw [if_pos rfl] at hfs
            by_cases h0 : x = 0
            · subst h0
              rw [if_pos rfl] at hfs
              have HS := Lib.hid (HF.out.trans hfs)
              clear hfs h22
              go_wp2_with (first
                | (go_at_call 51; with_reducible refine (HI.out _).mono ?_; rintro e w2 ⟨rfl, rfl⟩)
                | fail)
              go_ret
              exact ⟨retI HS.out.symm, HB.out⟩
            · rw [if_neg h0] at hfs
              have g0 : (x == 0) = false := by simp [h0]
              by_cases h1 : x = 1
              · subst h1
                rw [if_pos (.inl rfl)] at hfs
                have HS := Lib.hid (HF.out.trans hfs)
                clear hfs h22 h0
                go_wp2_with (first
                  | (go_at_call 51; with_reducible refine (HI.out _).mono ?_; rintro e w2 ⟨rfl, rfl⟩)
                  | fail)
                go_ret
                exact ⟨retI HS.out.symm, HB.out⟩
              · have g1 : (x == 1) = false := by simp [h1]
                by_cases h2 : x = 2
                · subst h2
                  rw [if_pos (.inr rfl)] at hfs
                  have HS := Lib.hid (HF.out.trans hfs)
                  clear hfs h22 h0 h1
                  go_wp2_with (first
                    | (go_at_call 51; with_reducible refine (HI.out _).mono ?_; rintro e w2 ⟨rfl, rfl⟩)
                    | fail)
                  go_ret
                  exact ⟨retI HS.out.symm, HB.out⟩
                · rw [if_neg (by omega)] at hfs
                  have g2 : (x == 2) = false := by simp [h2]
                  have HS := Lib.hid hfs
                  clear hfs h22 h0 h1 h2
                  go_wp2_with (first
                    | (go_at_call 51; with_reducible refine (HI.out _).mono ?_; rintro e w2 ⟨rfl, rfl⟩)
                    | fail)
                  go_roundw
                  case rel => exact ⟨j + 1, 0, by omega, by omega, by go_num, rfl, trivial, HS.out⟩
                  case measure => simp [intOf]; omega
          · rw [if_neg (by omega)] at hfs
            have HS := Lib.hid hfs
            have hd' : (0 : Int) < (d : Int) := by omega
            clear hfs h22
            go_wp2_with (first
              | (go_at_call 51; with_reducible refine (HI.out _).mono ?_; rintro e w2 ⟨rfl, rfl⟩)
              | fail)
            go_roundw
            case rel => exact ⟨j + 1, d, by omega, by omega, by go_num, rfl, trivial, HS.out⟩
            case measure => simp [intOf]; omega
    · obtain rfl : j = m := by omega
      have HS := Lib.hid (show firstF xs (lo, hi) = -1 by
        rw [HF.out, hfs, List.drop_eq_nil_of_le (by rw [HYM.out]; exact Nat.le_refl _)]; rfl)
      clear hfs
      go_wp2
      go_ret
      exact ⟨retI HS.out.symm, HB.out⟩
end Go.Proofs.YtdgomaoikeffhaaGreat
/- para's Level, walked. -/
namespace Go.Proofs.YtdgomaoikeffhaaGreat
open Go.RowKit

set_option maxRecDepth 100000 in
set_option maxHeartbeats 1000000 in
theorem prLevel1_any (A : Option Addr) (n c bx : Nat) (xs : List Int) (other : Int) (w : World) (hr : Rd w 1 A n (xs.map (Value.int .i64))) (hn : n ≤ 1000000) (hnc : n ≤ c) (hbx : w.cell? ⟨bx, 0, none⟩ = some (.slice A n c)) :
    Calls Tryz.prog 35 #[.int .i64 other, .pointer (some ⟨bx, 0, none⟩)] w fun e w' => e = .returned (.int .i64 (if fstF xs 0 = -1 then other else fstF xs 0)) ∧ Below w.heap.size w w' := by
  have hlen : xs.length = n := by simpa using hr.len1
  have hall := spanOf_all xs
  rw [hlen] at hall
  have HF := Lib.hid (prFirst_any A n c xs 0 (n : Int) w hr hn hnc (by unfold Fit; omega) (by unfold Fit; omega))
  rw [show firstF xs (0, (n : Int)) = fstF xs 0 by unfold firstF; rw [hall]] at HF
  obtain ⟨f, hf⟩ : ∃ f, fstF xs 0 = f := ⟨_, rfl⟩
  rw [hf] at HF ⊢
  clear hr hlen hall hf
  by_cases h : f = -1
  · subst h
    rw [if_pos rfl]
    go_enter Tryz.func35, Tryz.ntmps35
    go_wp2_with fail
    refine HF.out.mono ?_
    rintro e w1 ⟨rfl, hb⟩
    go_wp2
    go_ret
    exact ⟨rfl, hb⟩
  · rw [if_neg h]
    have g : (f != -1) = true := by simp [h]
    clear h
    go_enter Tryz.func35, Tryz.ntmps35
    go_wp2_with fail
    refine HF.out.mono ?_
    rintro e w1 ⟨rfl, hb⟩
    go_wp2
    go_ret
    exact ⟨rfl, hb⟩
end Go.Proofs.YtdgomaoikeffhaaGreat
