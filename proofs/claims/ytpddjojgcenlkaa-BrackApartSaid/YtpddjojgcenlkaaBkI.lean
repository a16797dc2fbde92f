/- brack's side, sideOf, between and Inside, walked. -/
import Derived.Test.YtpddjojgcenlkaaNtD
import Derived.Test.YtpddjojgcenlkaaAnd1
import Derived.Test.YtpddjojgcenlkaaHp
import Derived.Test.YtpddjojgcenlkaaMem2
namespace Go.Proofs.Ytpddjojgcenlkaa
open Go.RowKit

/-- Which sides there are in classes. -/
def insS (l : List Int) (level : Int) : Bool × Bool := (l.any fun x => decide (sideF x = ofL level), l.any fun x => decide (0 ≤ sideF x ∧ sideF x ≠ ofL level))
theorem ins_sub {l : List Int} {lo hi : Nat} (level : Int) (h2 : hi ≤ l.length) : insF l ((lo : Int) - 1) hi level = insS ((l.take hi).drop lo) level := by
  have key : ∀ P : Int → Bool, ((List.range l.length).any fun i => decide ((lo : Int) - 1 < (i : Int) ∧ (i : Int) < hi) && P (l.getD i 0)) = ((l.take hi).drop lo).any P := by
    intro P
    rw [Bool.eq_iff_iff, List.any_eq_true, List.any_eq_true]
    constructor
    · rintro ⟨i, hi', h⟩
      rw [List.mem_range] at hi'
      rw [Bool.and_eq_true, decide_eq_true_eq] at h
      obtain ⟨⟨a, b⟩, c⟩ := h
      refine ⟨l.getD i 0, List.mem_of_getElem? (i := i - lo) ?_, c⟩
      rw [List.getElem?_drop, show lo + (i - lo) = i by omega, List.getElem?_take_of_lt (by omega), List.getD_eq_getElem?_getD, List.getElem?_eq_getElem hi']
      rfl
    · rintro ⟨x, hx, h⟩
      obtain ⟨i, hi'⟩ := List.getElem?_of_mem hx
      rw [List.getElem?_drop] at hi'
      have hl := (List.getElem?_eq_some_iff.1 hi').1
      rw [List.length_take] at hl
      rw [List.getElem?_take_of_lt (by omega)] at hi'
      refine ⟨lo + i, by rw [List.mem_range]; omega, ?_⟩
      rw [Bool.and_eq_true, decide_eq_true_eq, List.getD_eq_getElem?_getD, hi']
      exact ⟨by omega, h⟩
  unfold insF insS
  rw [← key, ← key]
  congr 1
  · congr 1
    funext i
    rw [Bool.eq_iff_iff]
    simp only [Bool.and_eq_true, decide_eq_true_eq]
    constructor
    · rintro ⟨a, b, c⟩; exact ⟨⟨a, b⟩, c⟩
    · rintro ⟨⟨a, b⟩, c⟩; exact ⟨a, b, c⟩
  · congr 1
    funext i
    rw [Bool.eq_iff_iff]
    simp only [Bool.and_eq_true, decide_eq_true_eq]
    constructor
    · rintro ⟨a, b, c⟩; exact ⟨⟨a, b⟩, c⟩
    · rintro ⟨⟨a, b⟩, c⟩; exact ⟨a, b, c⟩
theorem insS_step {l : List Int} {k : Nat} {x level : Int} {a b : Bool} (hx : l[k]? = some x) (h : insS (l.take k) level = (a, b)) : insS (l.take (k + 1)) level = (a || decide (sideF x = ofL level), b || decide (0 ≤ sideF x ∧ sideF x ≠ ofL level)) := by
  unfold insS at h ⊢
  injection h with h1 h2
  rw [List.take_add_one, hx, Option.toList_some, List.any_append, List.any_append, h1, h2]
  simp
set_option maxRecDepth 100000 in
theorem bkSide_any (x v : Int) (hv : sideF x = v) (w : World) : Calls Try.prog 52 #[.int .i64 x] w fun e w' => e = .returned (.int .i64 v) ∧ w = w' := by
  unfold sideF at hv
  by_cases h0 : x = 0
  · subst h0
    rw [if_pos rfl] at hv
    subst hv
    go_enter Try.func52, Try.ntmps52
    go_wp2; go_ret; exact ⟨rfl, rfl⟩
  · rw [if_neg h0] at hv
    have g0 : (x == 0) = false := by simp [h0]
    by_cases h1 : x = 1
    · subst h1
      rw [if_pos (.inl rfl)] at hv
      subst hv
      clear h0 g0
      go_enter Try.func52, Try.ntmps52
      go_wp2; go_ret; exact ⟨rfl, rfl⟩
    · have g1 : (x == 1) = false := by simp [h1]
      by_cases h3 : x = 3
      · subst h3
        rw [if_pos (.inr (.inl rfl))] at hv
        subst hv
        clear h0 h1 g0 g1
        go_enter Try.func52, Try.ntmps52
        go_wp2; go_ret; exact ⟨rfl, rfl⟩
      · have g3 : (x == 3) = false := by simp [h3]
        by_cases h6 : x = 6
        · subst h6
          rw [if_pos (.inr (.inr rfl))] at hv
          subst hv
          clear h0 h1 h3 g0 g1 g3
          go_enter Try.func52, Try.ntmps52
          go_wp2; go_ret; exact ⟨rfl, rfl⟩
        · have g6 : (x == 6) = false := by simp [h6]
          rw [if_neg (by omega)] at hv
          subst hv
          clear h0 h1 h3 h6
          go_enter Try.func52, Try.ntmps52
          go_wp2; go_ret; exact ⟨rfl, rfl⟩
set_option maxRecDepth 100000 in
theorem bkSideOf_any (n v : Int) (hv : ofL n = v) (w : World) : Calls Try.prog 34 #[.int .i64 n] w fun e w' => e = .returned (.int .i64 v) ∧ w = w' := by
  obtain ⟨y, hy⟩ : ∃ y, n % 2 = y := ⟨_, rfl⟩
  have hbit : bits .and .i64 n 1 = y := by rw [and1_i64, hy]
  have hy2 : y = 0 ∨ y = 1 := by omega
  unfold ofL at hv
  rw [hy] at hv
  clear hy
  rcases hy2 with h0 | h0
  · rw [if_pos h0] at hv
    subst hv
    rw [h0] at hbit
    clear h0
    go_enter Try.func34, Try.ntmps34
    go_wp2; go_ret; exact ⟨rfl, rfl⟩
  · rw [if_neg (by omega)] at hv
    subst hv
    rw [h0] at hbit
    clear h0
    go_enter Try.func34, Try.ntmps34
    go_wp2; go_ret; exact ⟨rfl, rfl⟩
/-- What lies between lo and hi. -/
def cutV (A : Option Addr) (c lo hi : Nat) : Value := .slice (if c = lo then A else A.map (·.add lo)) (hi - lo) (c - lo)
set_option maxRecDepth 100000 in
set_option maxHeartbeats 2000000 in
theorem bkBetween_any (A : Option Addr) (n c lo hi : Nat) (h1 : lo ≤ n) (h2 : lo ≤ hi) (h3 : hi ≤ n) (h4 : n ≤ c) (hn : n ≤ 1000000) (w : World) :
    Calls Try.prog 51 #[.slice A n c, .agg #[.int .i64 ((lo : Int) - 1), .int .i64 (hi : Int)]] w fun e w' => e = .returned (cutV A c lo hi) ∧ Below w.heap.size w w' := by
  have hb := below_new w (.cells #[.int .i64 ((lo : Int) - 1), .int .i64 (hi : Int)] 27)
  have hbx := heap_alloc_new w (.cells #[.int .i64 ((lo : Int) - 1), .int .i64 (hi : Int)] 27)
  obtain ⟨o, ho⟩ : ∃ o : Int, (lo : Int) - 1 = o := ⟨_, rfl⟩
  rw [ho] at hb hbx ⊢
  obtain ⟨wo, hwo⟩ : ∃ wo, w.alloc (.cells #[.int .i64 o, .int .i64 (hi : Int)] 27) = wo := ⟨_, rfl⟩
  rw [hwo] at hb hbx
  have c0 := hp_cell (j := 0) hbx rfl
  have c1 := hp_cell (j := 1) hbx rfl
  have m1 : (if o < -1 then -1 else o) = o := by rw [if_neg (by omega)]
  have m2 : (if (n : Int) - 1 < o then (n : Int) - 1 else o) = o := by rw [if_neg (by omega)]
  have m3 : o + 1 = (lo : Int) := by omega
  have m4 : (if (hi : Int) < (lo : Int) then (lo : Int) else (hi : Int)) = (hi : Int) := by rw [if_neg (by omega)]
  have m5 : (if (n : Int) < (hi : Int) then (n : Int) else (hi : Int)) = (hi : Int) := by rw [if_neg (by omega)]
  have HB := Lib.hid (show Below w.heap.size w (w.alloc (.cells #[.int .i64 o, .int .i64 (hi : Int)] 27)) by rw [hwo]; exact hb)
  subst hwo
  clear ho hbx hb
  go_enter Try.func51, Try.ntmps51
  go_wp2
  · go_ret
    exact ⟨by simp [cutV], HB.out⟩
  · go_ret
    exact ⟨by simp [cutV, h], HB.out⟩
theorem cutV_rd {A : Option Addr} {n c lo hi : Nat} {l : List Int} {w : World} (hr : Rd w 1 A n (l.map (Value.int .i64))) (h2 : lo ≤ hi) (h3 : hi ≤ n) (h4 : n ≤ c) : Rd w 1 (if c = lo then A else A.map (·.add lo)) (hi - lo) (((l.take hi).drop lo).map (Value.int .i64)) := by
  have hl : l.length = n := by simpa using hr.len1
  have h := hr.cut (show lo ≤ n by omega) h4
  simp only [Nat.mul_one] at h
  refine ⟨by simp; omega, fun h0 => ?_⟩
  obtain ⟨ad, e, hb, hc⟩ := h.2 (by omega)
  refine ⟨ad, e, hb, fun j u hj => hc j u ?_⟩
  have hj2 := (List.getElem?_eq_some_iff.1 hj).1
  rw [List.length_map, List.length_drop, List.length_take] at hj2
  rw [List.getElem?_map, List.getElem?_drop, List.getElem?_take_of_lt (by omega)] at hj
  rw [List.getElem?_drop, List.getElem?_map]
  exact hj
set_option maxRecDepth 100000 in
set_option maxHeartbeats 2000000 in
theorem bkInside_any (A : Option Addr) (n c lo hi : Nat) (l : List Int) (level : Int) (va vb : Bool) (hv : insS ((l.take hi).drop lo) level = (va, vb)) (h2 : lo ≤ hi) (h3 : hi ≤ n) (h4 : n ≤ c) (hn : n ≤ 1000000) (w : World) (hr : Rd w 1 A n (l.map (Value.int .i64))) :
    Calls Try.prog 33 #[.slice A n c, .agg #[.int .i64 ((lo : Int) - 1), .int .i64 (hi : Int)], .int .i64 level] w fun e w' => e = .returned (.tuple #[.bool va, .bool vb]) ∧ Below w.heap.size w w' := by
  have hb := below_new w (.cells #[.int .i64 ((lo : Int) - 1), .int .i64 (hi : Int)] 27)
  have hbx := heap_alloc_new w (.cells #[.int .i64 ((lo : Int) - 1), .int .i64 (hi : Int)] 27)
  have HC := Lib.hid (fun W => bkBetween_any A n c lo hi (by omega) h2 h3 h4 hn W)
  have HRC := Lib.hid (cutV_rd hr h2 h3 h4)
  obtain ⟨o, ho⟩ : ∃ o : Int, (lo : Int) - 1 = o := ⟨_, rfl⟩
  rw [ho] at hb hbx HC ⊢
  obtain ⟨D, hD⟩ : ∃ D, (if c = lo then A else A.map (·.add lo)) = D := ⟨_, rfl⟩
  obtain ⟨m, hm⟩ : ∃ m, hi - lo = m := ⟨_, rfl⟩
  obtain ⟨d, hd⟩ : ∃ d, c - lo = d := ⟨_, rfl⟩
  unfold cutV at HC
  rw [hD, hm, hd] at HC
  rw [hD, hm] at HRC
  obtain ⟨S, hS⟩ : ∃ S, (l.take hi).drop lo = S := ⟨_, rfl⟩
  rw [hS] at HRC hv
  have hm6 : m ≤ 1000000 := by omega
  have hSl : S.length = m := by simpa using HRC.out.len1
  have HSL := Lib.hid hSl
  have HV := Lib.hid hv
  obtain ⟨s, hs⟩ : ∃ s, ofL level = s := ⟨_, rfl⟩
  have HS := Lib.hid hs
  have HSO := Lib.hid (fun W => bkSideOf_any level s hs W)
  have hs01 : s = 0 ∨ s = 1 := by rw [← hs]; exact ofL_in level
  obtain ⟨wo, hwo⟩ : ∃ wo, w.alloc (.cells #[.int .i64 o, .int .i64 (hi : Int)] 27) = wo := ⟨_, rfl⟩
  rw [hwo] at hb hbx
  have c0 : wo.cell? ⟨w.heap.size, 0, none⟩ = some (.int .i64 o) := hp_cell (j := 0) hbx rfl
  have c1 : wo.cell? ⟨w.heap.size, 1, none⟩ = some (.int .i64 (hi : Int)) := hp_cell (j := 1) hbx rfl
  subst hwo
  clear ho hbx hD hm hd hS hSl hv hs hr h2 h3 h4
  go_enter Try.func33, Try.ntmps33
  go_wp2_with (first
    | (go_at_call 51; refine (HC.out _).mono ?_; rintro e w2 ⟨rfl, hb2⟩)
    | fail)
  have HB2 := Lib.hid (hb.trans (hb2.mono hb.size))
  have HR2 := Lib.hid (HRC.out.below HB2.out)
  clear hb hb2 c0 c1
  go_loopw [8, 9, 16] (fun a b i wr => wr = w2 ∧ ∃ (k : Nat) (ba bb : Bool), k ≤ m ∧ i = .int .i64 (k : Int) ∧ a = .bool ba ∧ b = .bool bb ∧ insS (S.take k) level = (ba, bb)) (fun _ _ i _ => m - (intOf i).toNat)
  case atStart => exact ⟨rfl, 0, false, false, Nat.zero_le _, rfl, rfl, rfl, rfl⟩
  case round =>
    obtain ⟨rfl, k, ba, bb, hk, rfl, rfl, rfl, hst⟩ := hrel
    have HST := Lib.hid hst
    clear hst
    by_cases hlt : k < m
    · obtain ⟨x, hx⟩ : ∃ x, S[k]? = some x := ⟨_, List.getElem?_eq_getElem (by rw [HSL.out]; exact hlt)⟩
      obtain ⟨ad, rfl, hab, hcell⟩ := HR2.out.at_ hlt
      have cx := hcell (.int .i64 x) (by rw [List.getElem?_map, hx]; rfl)
      have HN := Lib.hid (insS_step hx HST.out)
      obtain ⟨v, hv⟩ : ∃ v, sideF x = v := ⟨_, rfl⟩
      have HSI := Lib.hid (fun W => bkSide_any x v hv W)
      have hvc := side_in x
      rw [hv] at hvc HN
      rw [HS.out] at HN
      have hkm : (k : Int) < (m : Int) := by omega
      clear hx hcell hv
      by_cases hv1 : v = -1
      · subst hv1
        have HN2 := Lib.hid (show insS (S.take (k + 1)) level = (ba, bb) by rw [HN.out, decide_eq_false (show ¬ (-1 : Int) = s by omega), decide_eq_false (show ¬ ((0 : Int) ≤ -1 ∧ (-1 : Int) ≠ s) by omega), Bool.or_false, Bool.or_false])
        go_wp2_with (first
          | (go_at_call 52; refine (HSI.out _).mono ?_; rintro e w3 ⟨rfl, rfl⟩)
          | fail)
        go_roundw
        case rel => exact ⟨by first | rfl | trivial, k + 1, ba, bb, by omega, by go_num, rfl, rfl, HN2.out⟩
        case measure => simp [intOf]; omega
      · have g1 : (v == -1) = false := by simp [hv1]
        by_cases hvs : v = s
        · have g2 : (v == s) = true := by simp [hvs]
          have HN2 := Lib.hid (show insS (S.take (k + 1)) level = (true, bb) by rw [HN.out, decide_eq_true hvs, decide_eq_false (show ¬ ((0 : Int) ≤ v ∧ v ≠ s) by omega), Bool.or_true, Bool.or_false])
          clear hvs hv1
          go_wp2_with (first
            | (go_at_call 52; refine (HSI.out _).mono ?_; rintro e w3 ⟨rfl, rfl⟩)
            | (go_at_call 34; refine (HSO.out _).mono ?_; rintro e w3 ⟨rfl, rfl⟩)
            | fail)
          go_roundw
          case rel => exact ⟨by first | rfl | trivial, k + 1, true, bb, by omega, by go_num, rfl, rfl, HN2.out⟩
          case measure => simp [intOf]; omega
        · have g2 : (v == s) = false := by simp [hvs]
          have HN2 := Lib.hid (show insS (S.take (k + 1)) level = (ba, true) by rw [HN.out, decide_eq_false hvs, decide_eq_true (show ((0 : Int) ≤ v ∧ v ≠ s) by omega), Bool.or_false, Bool.or_true])
          clear hvs hv1
          go_wp2_with (first
            | (go_at_call 52; refine (HSI.out _).mono ?_; rintro e w3 ⟨rfl, rfl⟩)
            | (go_at_call 34; refine (HSO.out _).mono ?_; rintro e w3 ⟨rfl, rfl⟩)
            | fail)
          go_roundw
          case rel => exact ⟨by first | rfl | trivial, k + 1, ba, true, by omega, by go_num, rfl, rfl, HN2.out⟩
          case measure => simp [intOf]; omega
    · obtain rfl : k = m := by omega
      have HE := Lib.hid (show (ba, bb) = (va, vb) by rw [← HV.out, ← HST.out, List.take_of_length_le (by rw [HSL.out]; exact Nat.le_refl _)])
      go_wp2
      go_ret2
      have h := HE.out
      injection h with e1 e2
      exact ⟨by subst e1 e2; rfl, HB2.out⟩
end Go.Proofs.Ytpddjojgcenlkaa
