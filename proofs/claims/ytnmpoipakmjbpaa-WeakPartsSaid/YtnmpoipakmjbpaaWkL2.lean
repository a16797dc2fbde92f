/- naskhlaw24: WeakParts. -/
import Derived.Test.YtnmpoipakmjbpaaWkL
import Derived.Test.YtnmpoipakmjbpaaJnGr
import Derived.Deep.RegionHeld3
import Derived.Deep.DeepCutAuto
namespace Go.Proofs.Ytnmpoipakmjbpaa
open Go.RowKit

theorem addTo (a : Addr) (k : Nat) : a.add (k + 1) = ⟨a.block, a.off + (k + 1), none⟩ := by unfold Addr.add; simp
theorem part_cut {ya yb : List Int} {s : Int} {n : Nat} (h : ya.length = n) : (ya ++ s :: yb).take n = ya ∧ (ya ++ s :: yb).drop (n + 1) = yb ∧ (ya ++ s :: yb)[n]? = some s := by
  subst h
  refine ⟨by simp, ?_, by simp⟩
  rw [List.drop_append]
  simp
set_option maxRecDepth 100000 in
set_option maxHeartbeats 8000000 in
theorem weakParts_any (A B : Option Addr) (n m c d : Nat) (xs zs : List Int) (b : Bool) (w : World) (hr : Rd w 1 A n (xs.map (Value.int .i64))) (hs : Rd w 1 B m (zs.map (Value.int .i64))) (hn : n ≤ maxLen) (hm : m ≤ maxLen) :
    Calls Try.prog 7 #[.slice A n c, .slice B m d, .bool b] w fun e w' => e = .returned (.bool true) ∧ Below w.heap.size w w' := by
  unfold maxLen at hn hm
  by_cases hh : n ≤ 150 ∧ m ≤ 150
  · obtain ⟨hn1, hm1⟩ := hh
    obtain ⟨s, hsos⟩ : ∃ s : Int, s = if b = true then 1 else 0 := ⟨_, rfl⟩
    have hcar : carF s = s := by rw [hsos]; cases b <;> decide
    have hs01 : s = 0 ∨ s = 1 := by rw [hsos]; cases b <;> decide
    have hxl : xs.length = n := by simpa using hr.len1
    have hzl : zs.length = m := by simpa using hs.len1
    obtain ⟨ya, hya⟩ : ∃ ya, wAll 0 xs = ya := ⟨_, rfl⟩
    obtain ⟨yb, hyb⟩ : ∃ yb, wAll s zs = yb := ⟨_, rfl⟩
    have hal : ya.length = n := by rw [← hya, wAll_len, hxl]
    have hbl : yb.length = m := by rw [← hyb, wAll_len, hzl]
    have HALL := Lib.hid (show wAll 0 (xs ++ s :: zs) = ya ++ s :: yb by rw [all_part hs01, hya, hyb])
    obtain ⟨hcut1, hcut2, hcut3⟩ := part_cut (yb := yb) (s := s) hal
    have HAL := Lib.hid hal
    have HBL := Lib.hid hbl
    have HR := Lib.hid hr
    have HS := Lib.hid hs
    have HXL := Lib.hid hxl
    have HZL := Lib.hid hzl
    have HC1 := Lib.hid hcut1
    have HC2 := Lib.hid hcut2
    have HC3 := Lib.hid hcut3
    have HA1 := Lib.hid (fun W (hb : Below w.heap.size w W) => wkAll_any B m d zs yb s W hcar hyb (hs.below hb) (by omega))
    have HA2 := Lib.hid (fun W (hb : Below w.heap.size w W) => wkAll_any A n c xs ya 0 W (by decide) hya (hr.below hb) (by omega))
    have hk : Below w.heap.size w ((w.alloc (.cells #[.int .i64 s] 3)).alloc (.cells #[.slice A n c, .slice (some ⟨w.heap.size, 0, none⟩) 1 1, .slice B m d] 22)) := ((Below.refl _ _).alloc (Nat.le_refl _) _).alloc (by simp) _
    have hQ := concat_any (w.heap.size + 1) 3 3 [(A, n, c, xs), (some ⟨w.heap.size, 0, none⟩, 1, 1, [s]), (B, m, d, zs)] rfl
      ((w.alloc (.cells #[.int .i64 s] 3)).alloc (.cells #[.slice A n c, .slice (some ⟨w.heap.size, 0, none⟩) 1 1, .slice B m d] 22))
      (by
        have h := heap_alloc_new (w.alloc (.cells #[.int .i64 s] 3)) (.cells #[.slice A n c, .slice (some ⟨w.heap.size, 0, none⟩) 1 1, .slice B m d] 22)
        rw [World.size_alloc] at h
        exact h)
      (by
        intro q hq
        have hz1 : Rd (w.alloc (.cells #[.int .i64 s] 3)) 1 (some ⟨w.heap.size, 0, none⟩) 1 (([s] : List Int).map (Value.int .i64)) := Rd.new_ w [.int .i64 s] _
        simp only [List.mem_cons, List.not_mem_nil, or_false] at hq
        rcases hq with rfl | rfl | rfl
        · exact ⟨hxl, hr.below hk⟩
        · exact ⟨rfl, hz1.alloc _⟩
        · exact ⟨hzl, hs.below hk⟩)
      (by simp [catL]; omega) (by simp [catL]; omega) (by omega)
    have hcat : catL [(A, n, c, xs), (some ⟨w.heap.size, 0, none⟩, 1, 1, [s]), (B, m, d, zs)] = xs ++ s :: zs := by simp [catL]
    rw [hcat] at hQ
    have hlen : (xs ++ s :: zs).length = n + 1 + m := by simp; omega
    rw [hlen] at hQ
    have HQ := Lib.hid hQ
    have HK := Lib.hid hk
    clear hr hs hya hyb hal hbl hcut1 hcut2 hcut3 hQ hcat hlen hk hcar hs01 hxl hzl
    cases b
    · simp only [Bool.false_eq_true, if_false] at hsos
      subst hsos
      go_enter Try.func7, Try.ntmps7
      go_wp2_with fail
      refine HQ.out.mono ?_
      rintro e w2 ⟨⟨v, rfl, hown⟩, hb2⟩
      obtain ⟨V, cv, rfl, hcv, hrv⟩ := rd_ownW hown
      have HB2 := Lib.hid (below_self HK.out hb2)
      have HRV := Lib.hid hrv
      clear hown hb2 hrv
      go_wp2_with fail
      refine (wkAll_any V (n + 1 + m) cv _ _ 0 w2 (by decide) HALL.out HRV.out (by omega)).mono ?_
      rintro e w3 ⟨⟨v, rfl, hown⟩, hb3⟩
      obtain ⟨T, ct, rfl, hct, hrt⟩ := rd_ownW hown
      have HB3 := Lib.hid (below_self HB2.out hb3)
      have HRT := Lib.hid hrt
      obtain ⟨ad, rfl, _, hcell⟩ := hrt.at_ (show n < n + 1 + m by omega)
      have cs := hcell _ (by rw [List.getElem?_map, HC3.out]; rfl)
      clear hown hb3 hrt hcell
      obtain ⟨tt, htt⟩ : ∃ tt, n + 1 + m = tt := ⟨_, rfl⟩
      have HTT := Lib.hid htt
      have h6 : ((n : Int) + 1 + (m : Int)) = (tt : Int) := by omega
      have hni : (0 : Int) ≤ (n : Int) := by omega
      have hni1 : (0 : Int) ≤ (n : Int) + 1 := by omega
      have hn5 : (n : Int) < (tt : Int) := by omega
      have hn6 : (n : Int) + 1 ≤ (tt : Int) := by omega
      have hn9 : (n : Int) ≤ (tt : Int) := by omega
      have hn7 : (tt : Int) ≤ (ct : Int) := by omega
      have hn10 : (n : Int) ≤ (ct : Int) := by omega
      have hw1 : IntKind.i64.wrap ((n : Int) + 1) = (n : Int) + 1 := by rw [IntKind.wrap_i64]; omega
      rw [htt] at HRT ⊢
      have HCA : Hid (∀ W : World, Below w3.heap.size w3 W → Rd W 1 (some ad) n (ya.map (Value.int .i64))) := Lib.hid (fun W hb => by
        refine Rd.below ⟨by simp [HAL.out], fun _ => ?_⟩ hb
        obtain ⟨ad2, e2, hl2, hc2⟩ := HRT.out.2 (by omega)
        obtain rfl := Option.some.inj e2
        refine ⟨_, rfl, hl2, fun j u hu => hc2 j u ?_⟩
        rw [List.map_append, List.getElem?_append_left]
        · exact hu
        · exact (List.getElem?_eq_some_iff.1 hu).1)
      by_cases hcc : ct = n + 1
      · have hm0 : m = 0 := by omega
        have HCU : Hid (∀ W : World, Below w3.heap.size w3 W → Rd W 1 (some ad) (tt - (n + 1)) (yb.map (Value.int .i64))) := Lib.hid (fun W _ => by
          have e : yb = [] := List.eq_nil_of_length_eq_zero (by rw [HBL.out]; exact hm0)
          rw [e]
          exact ⟨by simp; omega, fun h => absurd h (by omega)⟩)
        subst hcc
        have hn11 : (n : Int) ≤ (n : Int) + 1 := by omega
        have hn12 : n ≤ n + 1 := by omega
        clear hm0
        go_upto_region 9 with fail
        go_region_held3 (fun w' => w'.cell? (ad.add n) = some (.int .i64 0) ∧ Below w3.heap.size w3 w')
          (first
            | exact ⟨cs, (Below.refl _ _).drew⟩
            | exact ⟨cell_below h1 (by assumption : _ ∧ Below w3.heap.size w3 _).1, below_self (by assumption : _ ∧ Below w3.heap.size w3 _).2 h1⟩
            | exact ⟨cell_below h1 cs, below_self (Below.refl _ _).drew h1⟩
            | fail)
          (first
            | (go_at_call 21; with_reducible refine (HA1.out _ (below_self HB3.out (by first | exact (Below.refl _ _).drew | exact (by assumption : _ ∧ Below w3.heap.size w3 _).2))).mono ?_; rintro e w4 ⟨⟨v4, rfl, hown4⟩, h1⟩; obtain ⟨V4, c4, rfl, hc4, hr4⟩ := rd_ownW hown4)
            | (go_at_call 13; with_reducible refine (equalInt_b _ _ _ m _ _ yb yb _ (HCU.out _ (by first | exact (Below.refl _ _).drew | exact (by assumption : _ ∧ Below w3.heap.size w3 _).2)) hr4 (by unfold maxLen; omega) (by unfold maxLen; omega)).mono ?_; rintro e w5 ⟨rfl, h1⟩; rw [decide_eq_true rfl])
            | (go_at_call 21; with_reducible refine (HA2.out _ (below_self HB3.out (by first | exact (Below.refl _ _).drew | exact (by assumption : _ ∧ Below w3.heap.size w3 _).2))).mono ?_; rintro e w6 ⟨⟨v6, rfl, hown6⟩, h1⟩; obtain ⟨V6, c6, rfl, hc6, hr6⟩ := rd_ownW hown6)
            | (go_at_call 13; with_reducible refine (equalInt_b _ _ _ n _ _ ya ya _ (HCA.out _ (by first | exact (Below.refl _ _).drew | exact (by assumption : _ ∧ Below w3.heap.size w3 _).2)) hr6 (by unfold maxLen; omega) (by unfold maxLen; omega)).mono ?_; rintro e w7 ⟨rfl, h1⟩; rw [decide_eq_true rfl])
            | (go_at_call 20; with_reducible refine (awakeWk_any _).mono ?_; rintro e w8 ⟨rfl, h1⟩)
            | fail)
        have hfin := (by assumption : _ ∧ Below w3.heap.size w3 _).2
        have HFI := Lib.hid (below_self HB3.out hfin)
        go_wp2
        go_ret
        exact ⟨rfl, HFI.out⟩
      · have HCU : Hid (∀ W : World, Below w3.heap.size w3 W → Rd W 1 (some ⟨ad.block, ad.off + (n + 1), none⟩) (tt - (n + 1)) (yb.map (Value.int .i64))) := Lib.hid (fun W hb => by
          have h9 := HRT.out.cut (k := n + 1) (cap := ct) (by omega) (by omega)
          rw [if_neg hcc, Nat.mul_one, ← List.map_drop, HC2.out, Option.map_some, addTo] at h9
          exact h9.below hb)
        go_upto_region 9 with fail
        go_region_held3 (fun w' => w'.cell? (ad.add n) = some (.int .i64 0) ∧ Below w3.heap.size w3 w')
          (first
            | exact ⟨cs, (Below.refl _ _).drew⟩
            | exact ⟨cell_below h1 (by assumption : _ ∧ Below w3.heap.size w3 _).1, below_self (by assumption : _ ∧ Below w3.heap.size w3 _).2 h1⟩
            | exact ⟨cell_below h1 cs, below_self (Below.refl _ _).drew h1⟩
            | fail)
          (first
            | (go_at_call 21; with_reducible refine (HA1.out _ (below_self HB3.out (by first | exact (Below.refl _ _).drew | exact (by assumption : _ ∧ Below w3.heap.size w3 _).2))).mono ?_; rintro e w4 ⟨⟨v4, rfl, hown4⟩, h1⟩; obtain ⟨V4, c4, rfl, hc4, hr4⟩ := rd_ownW hown4)
            | (go_at_call 13; with_reducible refine (equalInt_b _ _ _ m _ _ yb yb _ (HCU.out _ (by first | exact (Below.refl _ _).drew | exact (by assumption : _ ∧ Below w3.heap.size w3 _).2)) hr4 (by unfold maxLen; omega) (by unfold maxLen; omega)).mono ?_; rintro e w5 ⟨rfl, h1⟩; rw [decide_eq_true rfl])
            | (go_at_call 21; with_reducible refine (HA2.out _ (below_self HB3.out (by first | exact (Below.refl _ _).drew | exact (by assumption : _ ∧ Below w3.heap.size w3 _).2))).mono ?_; rintro e w6 ⟨⟨v6, rfl, hown6⟩, h1⟩; obtain ⟨V6, c6, rfl, hc6, hr6⟩ := rd_ownW hown6)
            | (go_at_call 13; with_reducible refine (equalInt_b _ _ _ n _ _ ya ya _ (HCA.out _ (by first | exact (Below.refl _ _).drew | exact (by assumption : _ ∧ Below w3.heap.size w3 _).2)) hr6 (by unfold maxLen; omega) (by unfold maxLen; omega)).mono ?_; rintro e w7 ⟨rfl, h1⟩; rw [decide_eq_true rfl])
            | (go_at_call 20; with_reducible refine (awakeWk_any _).mono ?_; rintro e w8 ⟨rfl, h1⟩)
            | fail)
        have hfin := (by assumption : _ ∧ Below w3.heap.size w3 _).2
        have HFI := Lib.hid (below_self HB3.out hfin)
        go_wp2
        go_ret
        exact ⟨rfl, HFI.out⟩
    · simp only [if_true] at hsos
      subst hsos
      go_enter Try.func7, Try.ntmps7
      go_wp2_with fail
      refine HQ.out.mono ?_
      rintro e w2 ⟨⟨v, rfl, hown⟩, hb2⟩
      obtain ⟨V, cv, rfl, hcv, hrv⟩ := rd_ownW hown
      have HB2 := Lib.hid (below_self HK.out hb2)
      have HRV := Lib.hid hrv
      clear hown hb2 hrv
      go_wp2_with fail
      refine (wkAll_any V (n + 1 + m) cv _ _ 0 w2 (by decide) HALL.out HRV.out (by omega)).mono ?_
      rintro e w3 ⟨⟨v, rfl, hown⟩, hb3⟩
      obtain ⟨T, ct, rfl, hct, hrt⟩ := rd_ownW hown
      have HB3 := Lib.hid (below_self HB2.out hb3)
      have HRT := Lib.hid hrt
      obtain ⟨ad, rfl, _, hcell⟩ := hrt.at_ (show n < n + 1 + m by omega)
      have cs := hcell _ (by rw [List.getElem?_map, HC3.out]; rfl)
      clear hown hb3 hrt hcell
      obtain ⟨tt, htt⟩ : ∃ tt, n + 1 + m = tt := ⟨_, rfl⟩
      have HTT := Lib.hid htt
      have h6 : ((n : Int) + 1 + (m : Int)) = (tt : Int) := by omega
      have hni : (0 : Int) ≤ (n : Int) := by omega
      have hni1 : (0 : Int) ≤ (n : Int) + 1 := by omega
      have hn5 : (n : Int) < (tt : Int) := by omega
      have hn6 : (n : Int) + 1 ≤ (tt : Int) := by omega
      have hn9 : (n : Int) ≤ (tt : Int) := by omega
      have hn7 : (tt : Int) ≤ (ct : Int) := by omega
      have hn10 : (n : Int) ≤ (ct : Int) := by omega
      have hw1 : IntKind.i64.wrap ((n : Int) + 1) = (n : Int) + 1 := by rw [IntKind.wrap_i64]; omega
      rw [htt] at HRT ⊢
      have HCA : Hid (∀ W : World, Below w3.heap.size w3 W → Rd W 1 (some ad) n (ya.map (Value.int .i64))) := Lib.hid (fun W hb => by
        refine Rd.below ⟨by simp [HAL.out], fun _ => ?_⟩ hb
        obtain ⟨ad2, e2, hl2, hc2⟩ := HRT.out.2 (by omega)
        obtain rfl := Option.some.inj e2
        refine ⟨_, rfl, hl2, fun j u hu => hc2 j u ?_⟩
        rw [List.map_append, List.getElem?_append_left]
        · exact hu
        · exact (List.getElem?_eq_some_iff.1 hu).1)
      by_cases hcc : ct = n + 1
      · have hm0 : m = 0 := by omega
        have HCU : Hid (∀ W : World, Below w3.heap.size w3 W → Rd W 1 (some ad) (tt - (n + 1)) (yb.map (Value.int .i64))) := Lib.hid (fun W _ => by
          have e : yb = [] := List.eq_nil_of_length_eq_zero (by rw [HBL.out]; exact hm0)
          rw [e]
          exact ⟨by simp; omega, fun h => absurd h (by omega)⟩)
        subst hcc
        have hn11 : (n : Int) ≤ (n : Int) + 1 := by omega
        have hn12 : n ≤ n + 1 := by omega
        clear hm0
        go_upto_region 9 with fail
        go_region_held3 (fun w' => w'.cell? (ad.add n) = some (.int .i64 1) ∧ Below w3.heap.size w3 w')
          (first
            | exact ⟨cs, (Below.refl _ _).drew⟩
            | exact ⟨cell_below h1 (by assumption : _ ∧ Below w3.heap.size w3 _).1, below_self (by assumption : _ ∧ Below w3.heap.size w3 _).2 h1⟩
            | exact ⟨cell_below h1 cs, below_self (Below.refl _ _).drew h1⟩
            | fail)
          (first
            | (go_at_call 21; with_reducible refine (HA1.out _ (below_self HB3.out (by first | exact (Below.refl _ _).drew | exact (by assumption : _ ∧ Below w3.heap.size w3 _).2))).mono ?_; rintro e w4 ⟨⟨v4, rfl, hown4⟩, h1⟩; obtain ⟨V4, c4, rfl, hc4, hr4⟩ := rd_ownW hown4)
            | (go_at_call 13; with_reducible refine (equalInt_b _ _ _ m _ _ yb yb _ (HCU.out _ (by first | exact (Below.refl _ _).drew | exact (by assumption : _ ∧ Below w3.heap.size w3 _).2)) hr4 (by unfold maxLen; omega) (by unfold maxLen; omega)).mono ?_; rintro e w5 ⟨rfl, h1⟩; rw [decide_eq_true rfl])
            | (go_at_call 21; with_reducible refine (HA2.out _ (below_self HB3.out (by first | exact (Below.refl _ _).drew | exact (by assumption : _ ∧ Below w3.heap.size w3 _).2))).mono ?_; rintro e w6 ⟨⟨v6, rfl, hown6⟩, h1⟩; obtain ⟨V6, c6, rfl, hc6, hr6⟩ := rd_ownW hown6)
            | (go_at_call 13; with_reducible refine (equalInt_b _ _ _ n _ _ ya ya _ (HCA.out _ (by first | exact (Below.refl _ _).drew | exact (by assumption : _ ∧ Below w3.heap.size w3 _).2)) hr6 (by unfold maxLen; omega) (by unfold maxLen; omega)).mono ?_; rintro e w7 ⟨rfl, h1⟩; rw [decide_eq_true rfl])
            | (go_at_call 20; with_reducible refine (awakeWk_any _).mono ?_; rintro e w8 ⟨rfl, h1⟩)
            | fail)
        have hfin := (by assumption : _ ∧ Below w3.heap.size w3 _).2
        have HFI := Lib.hid (below_self HB3.out hfin)
        go_wp2
        go_ret
        exact ⟨rfl, HFI.out⟩
      · have HCU : Hid (∀ W : World, Below w3.heap.size w3 W → Rd W 1 (some ⟨ad.block, ad.off + (n + 1), none⟩) (tt - (n + 1)) (yb.map (Value.int .i64))) := Lib.hid (fun W hb => by
          have h9 := HRT.out.cut (k := n + 1) (cap := ct) (by omega) (by omega)
          rw [if_neg hcc, Nat.mul_one, ← List.map_drop, HC2.out, Option.map_some, addTo] at h9
          exact h9.below hb)
        go_upto_region 9 with fail
        go_region_held3 (fun w' => w'.cell? (ad.add n) = some (.int .i64 1) ∧ Below w3.heap.size w3 w')
          (first
            | exact ⟨cs, (Below.refl _ _).drew⟩
            | exact ⟨cell_below h1 (by assumption : _ ∧ Below w3.heap.size w3 _).1, below_self (by assumption : _ ∧ Below w3.heap.size w3 _).2 h1⟩
            | exact ⟨cell_below h1 cs, below_self (Below.refl _ _).drew h1⟩
            | fail)
          (first
            | (go_at_call 21; with_reducible refine (HA1.out _ (below_self HB3.out (by first | exact (Below.refl _ _).drew | exact (by assumption : _ ∧ Below w3.heap.size w3 _).2))).mono ?_; rintro e w4 ⟨⟨v4, rfl, hown4⟩, h1⟩; obtain ⟨V4, c4, rfl, hc4, hr4⟩ := rd_ownW hown4)
            | (go_at_call 13; with_reducible refine (equalInt_b _ _ _ m _ _ yb yb _ (HCU.out _ (by first | exact (Below.refl _ _).drew | exact (by assumption : _ ∧ Below w3.heap.size w3 _).2)) hr4 (by unfold maxLen; omega) (by unfold maxLen; omega)).mono ?_; rintro e w5 ⟨rfl, h1⟩; rw [decide_eq_true rfl])
            | (go_at_call 21; with_reducible refine (HA2.out _ (below_self HB3.out (by first | exact (Below.refl _ _).drew | exact (by assumption : _ ∧ Below w3.heap.size w3 _).2))).mono ?_; rintro e w6 ⟨⟨v6, rfl, hown6⟩, h1⟩; obtain ⟨V6, c6, rfl, hc6, hr6⟩ := rd_ownW hown6)
            | (go_at_call 13; with_reducible refine (equalInt_b _ _ _ n _ _ ya ya _ (HCA.out _ (by first | exact (Below.refl _ _).drew | exact (by assumption : _ ∧ Below w3.heap.size w3 _).2)) hr6 (by unfold maxLen; omega) (by unfold maxLen; omega)).mono ?_; rintro e w7 ⟨rfl, h1⟩; rw [decide_eq_true rfl])
            | (go_at_call 20; with_reducible refine (awakeWk_any _).mono ?_; rintro e w8 ⟨rfl, h1⟩)
            | fail)
        have hfin := (by assumption : _ ∧ Below w3.heap.size w3 _).2
        have HFI := Lib.hid (below_self HB3.out hfin)
        go_wp2
        go_ret
        exact ⟨rfl, HFI.out⟩
  · clear hr hs
    have hmain : Calls Try.prog 7 #[.slice A n c, .slice B m d, .bool b] w fun e w' => e = .returned (.bool true) ∧ Below w.heap.size w w' := by
      by_cases h1 : n ≤ 150
      · have h2 : ¬ m ≤ 150 := fun h => hh ⟨h1, h⟩
        clear hh
        go_enter Try.func7, Try.ntmps7
        go_wp2_with fail
        refine (awakeWk_any _).mono ?_
        rintro e w4 ⟨rfl, hb4⟩
        have HB4 := Lib.hid hb4
        clear hb4
        go_wp2_with fail
        go_ret
        exact ⟨rfl, HB4.out⟩
      · clear hh
        go_enter Try.func7, Try.ntmps7
        go_wp2_with fail
        refine (awakeWk_any _).mono ?_
        rintro e w4 ⟨rfl, hb4⟩
        have HB4 := Lib.hid hb4
        clear hb4
        go_wp2_with fail
        go_ret
        exact ⟨rfl, HB4.out⟩
    exact hmain
end Go.Proofs.Ytnmpoipakmjbpaa
