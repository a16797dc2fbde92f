/- The laws of layer 5: small, awake, IndexBack. -/
import Derived.Test.YtpllgonjhljjkaaIdxP3
import Derived.Test.YtpllgonjhljjkaaIdxR2
import Derived.Test.YtpllgonjhljjkaaCloneI
import Derived.Test.YtpllgonjhljjkaaEq
import Derived.Test.YtpllgonjhljjkaaEqlS
import Derived.Deep.RegionHeld3
namespace Go.Proofs.Ytpllgonjhljjkaa
open Go.RowKit

set_option maxRecDepth 100000 in
set_option maxHeartbeats 1000000 in
theorem smallX_any (A : Option Addr) (n c : Nat) (l : List Int) (w : World) (hr : Rd w 1 A n (l.map (Value.int .i64))) (hn : n ≤ maxLen) :
    Calls Try.prog 11 #[.slice A n c] w fun e w' => (e = .returned (.bool false) ∨ e = .returned (.bool true) ∧ n ≤ 60) ∧ w = w' := by
  have hlen : l.length = n := by simpa using hr.len1
  have HL := Lib.hid hlen
  clear hlen
  unfold maxLen at hn
  go_enter Try.func11, Try.ntmps11
  go_wp2
  go_loop [7] (fun i => ∃ (k : Nat), k ≤ n ∧ i = .int .i64 k ∧ k ≤ 60) (fun i => n - (intOf i).toNat)
  case atStart => exact ⟨0, Nat.zero_le _, rfl, by omega⟩
  case round =>
    obtain ⟨k, hk, rfl, h60⟩ := hrel
    by_cases hlt : k < n
    · obtain ⟨s, hsk⟩ : ∃ s, l[k]? = some s := ⟨_, List.getElem?_eq_getElem (by rw [HL.out]; exact hlt)⟩
      obtain ⟨ad, rfl, _, hc⟩ := hr.at_ hlt
      have cs : w.cell? (ad.add k) = some (.int .i64 s) := hc _ (by rw [List.getElem?_map, hsk]; rfl)
      clear hsk hc
      have hc : 60 ≤ k ∨ (k < 60 ∧ s ≤ 1000) ∨ (k < 60 ∧ 1000 < s ∧ s ≤ 16777216) ∨ (k < 60 ∧ 1000 < s ∧ 16777216 < s) := by omega
      rcases hc with h | ⟨h, h1⟩ | ⟨h, h1, h2⟩ | ⟨h, h1, h2⟩
      · go_wp2
        go_ret
        exact ⟨.inl rfl, rfl⟩
      · go_wp2
        go_round
        case rel => exact ⟨k + 1, by omega, by go_num, by omega⟩
        case measure => simp [intOf]; omega
      · go_wp2
        go_ret
        exact ⟨.inl rfl, rfl⟩
      · go_wp2
        go_round
        case rel => exact ⟨k + 1, by omega, by go_num, by omega⟩
        case measure => simp [intOf]; omega
    · go_wp2
      go_ret
      exact ⟨.inr ⟨rfl, by omega⟩, rfl⟩

theorem Rd.newI (w : World) (xs : List Int) (t : TypeId) : Rd (w.alloc (.cells (xs.map (Value.int .i64)).toArray t)) 1 (some ⟨w.heap.size, 0, none⟩) xs.length (xs.map (Value.int .i64)) := by
  have := Rd.new_ w (xs.map (Value.int .i64)) t
  rwa [List.length_map] at this

set_option maxRecDepth 100000 in
set_option maxHeartbeats 2000000 in
theorem awakeX_any (w : World) : Calls Try.prog 12 #[] w fun e w' => e = .returned (.bool true) ∧ Below w.heap.size w w' := by
  have hg : Good [1, 2, 1] := errX_ok (by decide)
  have HG := Lib.hid hg
  have hi1 : InCode [1, 2, 1] 2 1 := by refine ⟨by decide, by decide, fun _ => by decide, fun h => absurd h (by decide)⟩
  have HI := Lib.hid hi1
  clear hg hi1
  go_enter Try.func12, Try.ntmps12
  go_wp2_with fail
  refine (prNew_any (some ⟨w.heap.size, 0, none⟩) 3 3 [1, 2, 1] _ (Rd.newI w [1, 2, 1] _) (by unfold maxLen; omega)).mono ?_
  rintro e w1 (⟨h, _⟩ | ⟨_, b, rfl, hx, hb⟩)
  · exact absurd (by decide) h
  have hb1 := below_self (below_new _ _) hb
  have HX := Lib.hid hx
  clear hx hb
  go_wp2_with fail
  refine (prSpan_any b [1, 2, 1] _ 1 HG.out HX.out).mono ?_
  rintro e w2 ⟨rfl, hb⟩
  rw [show spanX [1, 2, 1] 1 = .tuple #[.agg #[.int .i64 1, .int .i64 3], .int .i64 0] by rfl]
  have hb2 := below_self hb1 hb
  have HX2 := Lib.hid (HX.out.below hb)
  clear hb hb1 HX
  go_wp2_with fail
  have HX3 := Lib.hid (HX2.out.below (below_new w2 (.cells #[.int .i64 1, .int .i64 3] 35)))
  have hb3 := hb2.alloc hb2.size (.cells #[.int .i64 1, .int .i64 3] 35)
  have d0 : (w2.alloc (.cells #[.int .i64 1, .int .i64 3] 35)).cell? ⟨w2.heap.size, 0, none⟩ = some (.int .i64 1) := by rw [World.cell?_alloc_at _ _ _ _ rfl]; rfl
  have d1 : (w2.alloc (.cells #[.int .i64 1, .int .i64 3] 35)).cell? ⟨w2.heap.size, 1, none⟩ = some (.int .i64 3) := by rw [World.cell?_alloc_at _ _ _ _ rfl]; rfl
  refine (prCode_in b [1, 2, 1] _ 2 1 HG.out HX3.out HI.out (by decide)).mono ?_
  rintro e w3 ⟨rfl, hb⟩
  rw [show (2 : Int) - pre [1, 2, 1] 1 = 1 by decide]
  have hb4 := below_self hb3 hb
  have HX4 := Lib.hid (HX3.out.below hb)
  replace d0 := cell_below hb d0
  replace d1 := cell_below hb d1
  clear hb hb3 HX3
  go_wp2_with fail
  refine (prBreak_in b [1, 2, 1] _ 2 1 HG.out HX4.out HI.out).mono ?_
  rintro e w4 ⟨rfl, hb⟩
  rw [if_neg (by decide)]
  have hb5 := below_self hb4 hb
  have HX5 := Lib.hid (HX4.out.below hb)
  replace d0 := cell_below hb d0
  replace d1 := cell_below hb d1
  have heq := eqlS_same 1 3 w4
  clear hb hb4 HX4
  go_wp2_with fail
  refine (prUnits_any b [1, 2, 1] _ HG.out HX5.out).mono ?_
  rintro e w5 ⟨rfl, hb⟩
  rw [show ([1, 2, 1] : List Int).sum = 4 by decide]
  have hb6 := below_self hb5 hb
  go_wp2
  go_ret
  exact ⟨rfl, hb6⟩
end Go.Proofs.Ytpllgonjhljjkaa
