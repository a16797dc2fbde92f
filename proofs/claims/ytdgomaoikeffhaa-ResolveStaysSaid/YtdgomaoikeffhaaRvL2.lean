/- naskhlaw27.ResolveStays. -/
import Derived.Test.YtdgomaoikeffhaaRvAw
namespace Go.Proofs.Ytdgomaoikeffhaa
open Go.RowKit

theorem partF_at {l : List Int} {lo hi i : Nat} (h : lo + i < hi) : (partF l lo hi)[i]? = l[lo + i]? := by
  unfold partF
  rw [List.getElem?_take, if_pos (by omega), List.getElem?_drop]
theorem partF_dropcons {l : List Int} {lo hi i : Nat} {c : Int} (h : lo + i < hi) (hc : l[lo + i]? = some c) : (partF l lo hi).drop i = c :: (partF l lo hi).drop (i + 1) := by
  have := partF_at (l := l) h
  rw [hc] at this
  rw [List.drop_eq_getElem_cons (List.getElem?_eq_some_iff.1 this).1, (List.getElem?_eq_some_iff.1 this).2]
set_option maxRecDepth 100000 in
set_option maxHeartbeats 4000000 in
theorem resolveStays_any (A B : Option Addr) (n m c d : Nat) (cs ls : List Int) (x y base : Int) (w : World) (hr : Rd w 1 A n (cs.map (Value.int .i64))) (hs : Rd w 1 B m (ls.map (Value.int .i64))) (hn : n ≤ maxLen) (hm : m ≤ maxLen) (hnc : n ≤ c) (hmd : m ≤ d) :
    Calls Try.prog 4 #[.slice A n c, .slice B m d, .agg #[.int .i64 x, .int .i64 y], .int .i64 base] w fun e w' => e = .returned (.bool true) ∧ Below w.heap.size w w' := by
  unfold maxLen at hn hm
  have HAW := Lib.hid awakeRv_any
  have HB0 := Lib.hid (below_new w (.cells #[.int .i64 x, .int .i64 y] 24))
  have c1 : (w.alloc (.cells #[.int .i64 x, .int .i64 y] 24)).cell? ⟨w.heap.size, 0, none⟩ = some (.int .i64 x) := cells_new w [.int .i64 x, .int .i64 y] _ 0 _ rfl
  have c2 : (w.alloc (.cells #[.int .i64 x, .int .i64 y] 24)).cell? ⟨w.heap.size, 1, none⟩ = some (.int .i64 y) := cells_new w [.int .i64 x, .int .i64 y] _ 1 _ rfl
  by_cases hn3 : 200 < n
  · have g1 : decide ((200 : Int) < (n : Int)) = true := decide_eq_true (by omega)
    clear hr hs
    go_enter Try.func4, Try.ntmps4
    go_wp2_with (first
      | (go_at_call 7; refine (HAW.out _).mono ?_; rintro e w1 ⟨rfl, hb1⟩; have HB1 := Lib.hid (below_self HB0.out hb1); clear hb1)
      | fail)
    go_ret
    exact ⟨rfl, HB1.out⟩
  have g1 : decide ((200 : Int) < (n : Int)) = false := decide_eq_false (by omega)
  by_cases hnm : n = m
  · subst hnm
    by_cases hx0 : x < 0
    · have d1 : decide (x < 0) = true := decide_eq_true hx0
      clear hr hs
      go_enter Try.func4, Try.ntmps4
      go_wp2_with (first
        | (go_at_call 7; refine (HAW.out _).mono ?_; rintro e w1 ⟨rfl, hb1⟩; have HB1 := Lib.hid (below_self HB0.out hb1); clear hb1)
        | fail)
      go_ret
      exact ⟨rfl, HB1.out⟩
    · have d1 : decide (x < 0) = false := decide_eq_false hx0
      by_cases hxy : y ≤ x
      · have d2 : decide (y ≤ x) = true := decide_eq_true hxy
        clear hr hs
        go_enter Try.func4, Try.ntmps4
        go_wp2_with (first
          | (go_at_call 7; refine (HAW.out _).mono ?_; rintro e w1 ⟨rfl, hb1⟩; have HB1 := Lib.hid (below_self HB0.out hb1); clear hb1)
          | fail)
        go_ret
        exact ⟨rfl, HB1.out⟩
      · have d2 : decide (y ≤ x) = false := decide_eq_false hxy
        by_cases hyn : (n : Int) < y
        · have d3 : decide ((n : Int) < y) = true := decide_eq_true hyn
          clear hr hs
          go_enter Try.func4, Try.ntmps4
          go_wp2_with (first
            | (go_at_call 7; refine (HAW.out _).mono ?_; rintro e w1 ⟨rfl, hb1⟩; have HB1 := Lib.hid (below_self HB0.out hb1); clear hb1)
            | fail)
          go_ret
          exact ⟨rfl, HB1.out⟩
        · have d3 : decide ((n : Int) < y) = false := decide_eq_false hyn
          obtain ⟨lo, rfl⟩ : ∃ lo : Nat, x = (lo : Int) := ⟨x.toNat, by omega⟩
          obtain ⟨hi, rfl⟩ : ∃ hi : Nat, y = (hi : Int) := ⟨y.toNat, by omega⟩
          have e2 : decide (hi ≤ lo) = false := decide_eq_false (by omega)
          have e3 : decide (n < hi) = false := decide_eq_false (by omega)
          have hl : cs.length = n := by simpa using hr.len1
          have hl2 : ls.length = n := by simpa using hs.len1
          have HL := Lib.hid hl
          have HL2 := Lib.hid hl2
          have HR := Lib.hid hr
          have HS := Lib.hid hs
          have HF := Lib.hid (fun W (hB : Below w.heap.size w W) => rvLine_any A B n c n d cs ls lo hi base W (hr.below hB) (hs.below hB) (by omega) (by omega) hnc hmd)
          rw [show lineA cs ls ((lo : Int), (hi : Int)) base = lineF base (partF cs lo hi) (partF ls lo hi) by unfold lineA; rw [if_pos (by rw [hl, hl2]; exact ⟨rfl, by simp only; omega, by simp only; omega, by simp only; omega⟩)]; simp] at HF
          have hll : (lineF base (partF cs lo hi) (partF ls lo hi)).length = hi - lo := by rw [lineF_len _ _ _ (by rw [partF_len _ _ _ (by omega), partF_len _ _ _ (by omega)]), partF_len _ _ _ (by omega)]
          rw [hll] at HF
          have HLL := Lib.hid hll
          have HLH := Lib.hid (show (hi : Int) - (lo : Int) = ((hi - lo : Nat) : Int) by omega)
          have g5 : (((hi - lo : Nat) : Int) != (hi : Int) - (lo : Int)) = false := by simp; omega
          clear hr hs hl hl2 hll
          go_enter Try.func4, Try.ntmps4
          go_wp2_with (first
            | (go_at_call 9; with_reducible refine (HF.out _ HB0.out).mono ?_; rintro e w3 ⟨v3, rfl, hv3, hb3⟩; obtain ⟨A3, k3, he3, _⟩ := own_form hv3; subst he3; have HR3 := Lib.hid (Rd.of_own hv3); have HB3 := Lib.hid (below_self HB0.out hb3); have c3 := cell_below hb3 c1; have c4 := cell_below hb3 c2; clear hv3 hb3)
            | fail)
          go_loopw [58] (fun i wr => ∃ k : Nat, k ≤ hi - lo ∧ i = .int .i64 (k : Int) ∧ wr = w3) (fun i _ => n - (intOf i).toNat)
          case atStart => exact ⟨0, Nat.zero_le _, rfl, rfl⟩
          case round =>
            obtain ⟨k, hk, rfl, rfl⟩ := hrel
            by_cases hlt : k < hi - lo
            · obtain ⟨z, hz⟩ : ∃ z, cs[lo + k]? = some z := ⟨_, List.getElem?_eq_getElem (by rw [HL.out]; omega)⟩
              obtain ⟨v, hv⟩ : ∃ v, ls[lo + k]? = some v := ⟨_, List.getElem?_eq_getElem (by rw [HL2.out]; omega)⟩
              have hget := lineF_get base (cs := partF cs lo hi) (ns := partF ls lo hi) (i := k) ((partF_at (by omega)).trans hz) ((partF_at (by omega)).trans hv)
              rw [partF_dropcons (by omega) hz] at hget
              obtain ⟨a0, hae, _, ha⟩ := (HR.out.below HB3.out).at_ (show lo + k < n by omega)
              subst hae
              obtain ⟨b0, hbe, _, hb⟩ := (HS.out.below HB3.out).at_ (show lo + k < n by omega)
              subst hbe
              obtain ⟨l0, hle, _, hlc⟩ := HR3.out.at_ hlt
              subst hle
              have ca := ha (.int .i64 z) (by rw [List.getElem?_map, hz]; rfl)
              have cb := hb (.int .i64 v) (by rw [List.getElem?_map, hv]; rfl)
              obtain ⟨p, hp⟩ : ∃ p, lo + k = p := ⟨_, rfl⟩
              rw [hp] at ca cb
              have hpi : (lo : Int) + (k : Int) = (p : Int) := by omega
              have hpn : p < n := by omega
              have hki : (k : Int) < ((hi - lo : Nat) : Int) := by omega
              clear ha hb hz hv hp
              by_cases hst : z = 0 ∨ z = 1 ∨ z = 2 ∨ z = 3 ∨ z = 6
              · rw [ends_strong hst, if_neg (by decide)] at hget
                have cl := hlc (.int .i64 v) (by rw [List.getElem?_map, hget]; rfl)
                have g6 : (v != v) = false := by simp
                clear hlc hget
                rcases hst with rfl | rfl | rfl | rfl | rfl
                all_goals
                  go_wp2_with fail
                  go_roundw
                  case rel => exact ⟨k + 1, by omega, by go_num, by first | rfl | trivial⟩
                  case measure => simp [intOf]; omega
              · have z0 : (z == 0) = false := by simp; omega
                have z1 : (z == 1) = false := by simp; omega
                have z2 : (z == 2) = false := by simp; omega
                have z3 : (z == 3) = false := by simp; omega
                have z6 : (z == 6) = false := by simp; omega
                obtain ⟨q, hq⟩ : ∃ q, (if endsF (z :: (partF cs lo hi).drop (k + 1)) = true then base else v) = q := ⟨_, rfl⟩
                rw [hq] at hget
                have cl := hlc (.int .i64 q) (by rw [List.getElem?_map, hget]; rfl)
                have hqq : q = base ∨ q = v := by
                  rw [← hq]
                  split
                  · exact .inl rfl
                  · exact .inr rfl
                clear hlc hget hq hst
                rcases hqq with rfl | rfl
                · have g7 : (q != q) = false := by simp
                  cases g6 : (q != v) with
                  | true =>
                    go_wp2_with fail
                    go_roundw
                    case rel => exact ⟨k + 1, by omega, by go_num, by first | rfl | trivial⟩
                    case measure => simp [intOf]; omega
                  | false =>
                    go_wp2_with fail
                    go_roundw
                    case rel => exact ⟨k + 1, by omega, by go_num, by first | rfl | trivial⟩
                    case measure => simp [intOf]; omega
                · have g6 : (q != q) = false := by simp
                  go_wp2_with fail
                  go_roundw
                  case rel => exact ⟨k + 1, by omega, by go_num, by first | rfl | trivial⟩
                  case measure => simp [intOf]; omega
            · obtain rfl : k = hi - lo := by omega
              go_wp2_with (first
                | (go_at_call 7; refine (HAW.out _).mono ?_; rintro e w6 ⟨rfl, hb6⟩; have HB6 := Lib.hid (below_self HB3.out hb6); clear hb6)
                | fail)
              go_ret
              exact ⟨rfl, HB6.out⟩
  · have g2 : ((n : Int) != (m : Int)) = true := by simp; omega
    have g2' : (n != m) = true := by simp [hnm]
    clear hr hs
    go_enter Try.func4, Try.ntmps4
    go_wp2_with (first
      | (go_at_call 7; refine (HAW.out _).mono ?_; rintro e w1 ⟨rfl, hb1⟩; have HB1 := Lib.hid (below_self HB0.out hb1); clear hb1)
      | fail)
    go_ret
    exact ⟨rfl, HB1.out⟩
end Go.Proofs.Ytdgomaoikeffhaa
