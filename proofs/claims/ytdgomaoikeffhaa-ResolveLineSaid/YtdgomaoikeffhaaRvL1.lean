/- naskhlaw27.ResolveLine. -/
import Derived.Deep.RegionHeld3
import Derived.Test.YtdgomaoikeffhaaRvAw
namespace Go.Proofs.Ytdgomaoikeffhaa
open Go.RowKit

set_option maxRecDepth 100000 in
set_option maxHeartbeats 2000000 in
theorem resolveLine_any (A B : Option Addr) (n m c d : Nat) (cs ls : List Int) (x y base : Int) (w : World) (hr : Rd w 1 A n (cs.map (Value.int .i64))) (hs : Rd w 1 B m (ls.map (Value.int .i64))) (hn : n ≤ maxLen) (hm : m ≤ maxLen) (hnc : n ≤ c) (hmd : m ≤ d) :
    Calls Try.prog 3 #[.slice A n c, .slice B m d, .agg #[.int .i64 x, .int .i64 y], .int .i64 base] w fun e w' => e = .returned (.bool true) ∧ Below w.heap.size w w' := by
  unfold maxLen at hn hm
  have HAW := Lib.hid awakeRv_any
  have HB0 := Lib.hid (below_new w (.cells #[.int .i64 x, .int .i64 y] 24))
  by_cases hn3 : 200 < n
  · have g1 : decide ((200 : Int) < (n : Int)) = true := decide_eq_true (by omega)
    go_enter Try.func3, Try.ntmps3
    go_wp2_with (first
      | (go_at_call 7; refine (HAW.out _).mono ?_; rintro e w1 ⟨rfl, hb1⟩; have HB1 := Lib.hid (below_self HB0.out hb1); clear hb1)
      | fail)
    go_ret
    exact ⟨rfl, HB1.out⟩
  · have g1 : decide ((200 : Int) < (n : Int)) = false := decide_eq_false (by omega)
    by_cases hm3 : 200 < m
    · have g2 : decide ((200 : Int) < (m : Int)) = true := decide_eq_true (by omega)
      go_enter Try.func3, Try.ntmps3
      go_wp2_with (first
        | (go_at_call 7; refine (HAW.out _).mono ?_; rintro e w1 ⟨rfl, hb1⟩; have HB1 := Lib.hid (below_self HB0.out hb1); clear hb1)
        | fail)
      go_ret
      exact ⟨rfl, HB1.out⟩
    · have g2 : decide ((200 : Int) < (m : Int)) = false := decide_eq_false (by omega)
      have hll : (lineA cs ls (x, y) base).length ≤ 200 := by
        have hl2 : ls.length = m := by simpa using hs.len1
        unfold lineA
        split
        · rename_i h
          rw [lineF_len _ _ _ (by rw [partF_len _ _ _ (by omega), partF_len _ _ _ (by omega)]), partF_len _ _ _ (by omega)]
          omega
        · simp
      have HF := Lib.hid (fun W (hB : Below w.heap.size w W) => rvLine_any A B n c m d cs ls x y base W (hr.below hB) (hs.below hB) (by omega) (by omega) hnc hmd)
      have HG := Lib.hid (fun W (hB : Below w.heap.size w W) => rnLine_any A B n c m d cs ls x y base W (hr.below hB) (hs.below hB) (by omega) (by omega))
      obtain ⟨L, hL⟩ : ∃ L, lineA cs ls (x, y) base = L := ⟨_, rfl⟩
      rw [hL] at HF HG hll
      obtain ⟨K, hK⟩ : ∃ K, L.length = K := ⟨_, rfl⟩
      rw [hK] at HF HG hll
      clear hr hs hK hL
      have c1 : (w.alloc (.cells #[.int .i64 x, .int .i64 y] 24)).cell? ⟨w.heap.size, 0, none⟩ = some (.int .i64 x) := cells_new w [.int .i64 x, .int .i64 y] _ 0 _ rfl
      have c2 : (w.alloc (.cells #[.int .i64 x, .int .i64 y] 24)).cell? ⟨w.heap.size, 1, none⟩ = some (.int .i64 y) := cells_new w [.int .i64 x, .int .i64 y] _ 1 _ rfl
      obtain ⟨W0, hW0⟩ : ∃ W0, w.alloc (.cells #[.int .i64 x, .int .i64 y] 24) = W0 := ⟨_, rfl⟩
      rw [hW0] at HB0 c1 c2
      go_enter Try.func3, Try.ntmps3
      go_wp2_with fail
      go_region_held3 (fun w' => w'.cell? ⟨w.heap.size, 0, none⟩ = some (.int .i64 x) ∧ w'.cell? ⟨w.heap.size, 1, none⟩ = some (.int .i64 y) ∧ Below W0.heap.size W0 w')
        (first
          | exact ⟨c1, c2, (Below.refl _ _).drew⟩
          | exact ⟨cell_below h1 (by assumption : _ ∧ _ ∧ Below W0.heap.size W0 _).1, cell_below h1 (by assumption : _ ∧ _ ∧ Below W0.heap.size W0 _).2.1, below_self (by assumption : _ ∧ _ ∧ Below W0.heap.size W0 _).2.2 h1⟩
          | exact ⟨cell_below h1 c1, cell_below h1 c2, below_self (Below.refl _ _).drew h1⟩
          | fail)
        (first
          | (go_at_call 9; with_reducible refine (HF.out _ (below_self HB0.out (by first | exact (Below.refl _ _).drew | exact (by assumption : _ ∧ _ ∧ Below W0.heap.size W0 _).2.2))).mono ?_; rintro e w4 ⟨v4, rfl, hown4, h1⟩; obtain ⟨V4, c4, rfl, hc4⟩ := own_form hown4; have hr4 := Rd.of_own hown4)
          | (go_at_call 10; with_reducible refine (HG.out _ (below_self HB0.out (by first | exact (Below.refl _ _).drew | exact (by assumption : _ ∧ _ ∧ Below W0.heap.size W0 _).2.2))).mono ?_; rintro e w5 ⟨v5, rfl, hown5, h1⟩; obtain ⟨V5, c5, rfl, hc5⟩ := own_form hown5; have hr5 := Rd.of_own hown5; have hr45 := hr4.below h1)
          | (go_at_call 8; with_reducible refine (equalInt_b V4 V5 K K c4 c5 L L _ hr45 hr5 (by unfold maxLen; omega) (by unfold maxLen; omega)).mono ?_; rintro e w6 ⟨rfl, h1⟩; rw [decide_eq_true rfl])
          | (go_at_call 7; with_reducible refine (HAW.out _).mono ?_; rintro e w7 ⟨rfl, h1⟩)
          | fail)
      have hfin := (by assumption : _ ∧ _ ∧ Below W0.heap.size W0 _).2.2
      have HFI := Lib.hid (below_self HB0.out hfin)
      go_wp2
      go_ret
      exact ⟨rfl, HFI.out⟩
end Go.Proofs.Ytdgomaoikeffhaa
