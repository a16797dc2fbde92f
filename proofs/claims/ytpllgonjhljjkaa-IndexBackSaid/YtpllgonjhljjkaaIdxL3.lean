/- naskhlaw05.IndexBack returns true for all sizes. -/
import Derived.Test.YtpllgonjhljjkaaIdxL1
namespace Go.Proofs.Ytpllgonjhljjkaa
open Go.RowKit

theorem inCode_of {l : List Int} {k : Nat} {s : Int} (hs : l[k]? = some s) {j : Nat} (hj : (j : Int) < s) : InCode l (pre l k + j) k := by
  have hk := (List.getElem?_eq_some_iff.1 hs).1
  refine ⟨by omega, by omega, fun _ => by rw [pre_succ hs]; omega, fun e => by omega⟩

set_option maxRecDepth 100000 in
set_option maxHeartbeats 4000000 in
theorem indexBack_any (A : Option Addr) (n c : Nat) (l : List Int) (w : World) (hr : Rd w 1 A n (l.map (Value.int .i64))) (hn : n ≤ maxLen) :
    Calls Try.prog 4 #[.slice A n c] w fun e w' => e = .returned (.bool true) ∧ Below w.heap.size w w' := by
  have hlen : l.length = n := by simpa using hr.len1
  have HL := Lib.hid hlen
  have HN := Lib.hid hn
  clear hlen
  go_enter Try.func4, Try.ntmps4
  go_wp2_with fail
  refine (smallX_any A n c l w hr HN.out).mono ?_
  rintro e w' ⟨rfl | ⟨rfl, h60⟩, rfl⟩
  · go_wp2_with fail
    refine (awakeX_any _).mono ?_
    rintro e w1 ⟨rfl, hb⟩
    go_wp2
    go_ret
    exact ⟨rfl, hb⟩
  clear hn
  go_wp2_with fail
  refine (prNew_any A n c l w hr HN.out).mono ?_
  rintro e w1 (⟨he, rfl, hb⟩ | ⟨he, b, rfl, hx, hb⟩)
  · have hne : (errX l != 0) = true := by simpa using he
    obtain ⟨x, hx⟩ : ∃ x, errX l = x := ⟨_, rfl⟩
    rw [hx] at hne ⊢
    clear he hx
    go_wp2_with fail
    refine (awakeX_any _).mono ?_
    rintro e w2 ⟨rfl, hb2⟩
    have hb3 := below_self hb hb2
    go_wp2
    go_ret
    exact ⟨rfl, hb3⟩
  have HG := Lib.hid (errX_ok he)
  have HX := Lib.hid hx
  clear he hx
  go_wp2_with fail
  go_loopw [5, 32] (fun u i wr => ∃ k : Nat, k ≤ n ∧ i = .int .i64 k ∧ u = .int .i64 (pre l k) ∧ IdxAt wr b l ∧ Below w.heap.size w wr) (fun _ i _ => n - (intOf i).toNat)
  case atStart => exact ⟨0, Nat.zero_le _, rfl, by rw [pre_zero], HX.out, hb⟩
  case round =>
    obtain ⟨k, hk, rfl, rfl, hx, hbr⟩ := hrel
    have HX1 := Lib.hid hx
    have p0 := pre_bd HG.out k
    clear hx HX
    by_cases hlt : k < n
    · obtain ⟨s, hsk⟩ : ∃ s, l[k]? = some s := ⟨_, List.getElem?_eq_getElem (by rw [HL.out]; exact hlt)⟩
      obtain ⟨ad, rfl, _, hc⟩ := (hr.below hbr).at_ hlt
      have cs : wr.cell? (ad.add k) = some (.int .i64 s) := hc _ (by rw [List.getElem?_map, hsk]; rfl)
      have hs1 := HG.out.1 s (List.mem_of_getElem? hsk)
      have p1 := pre_bd HG.out (k + 1)
      have hps := pre_succ hsk
      rw [hps] at p1
      have HS := Lib.hid hsk
      have HP := Lib.hid hps
      have HSP := Lib.hid (show spanX l k = .tuple #[.agg #[.int .i64 (pre l k), .int .i64 (pre l k + s)], .int .i64 0] by
        rw [show spanX l k = _ from if_pos ⟨by omega, by have := HL.out; omega⟩, Int.toNat_natCast, hps])
      clear hsk hc hps
      go_wp2_with fail
      refine (prSpan_any b l wr k HG.out HX1.out).mono ?_
      rintro e w2 ⟨rfl, hb2⟩
      rw [HSP.out]
      go_wp2_with fail
      have hbb := below_self hb2 (below_new w2 (.cells #[.int .i64 (pre l k), .int .i64 (pre l k + s)] 35))
      have hb3 := hbr.trans (hbb.mono hbr.size)
      have HX2 := Lib.hid (HX1.out.below hbb)
      clear HX1 hb2 hbb hbr cs
      generalize (w2.alloc (.cells #[.int .i64 (pre l k), .int .i64 (pre l k + s)] 35)) = wx at *
      go_loopw [60] (fun i wr => ∃ j : Nat, (j : Int) ≤ s ∧ i = .int .i64 j ∧ IdxAt wr b l ∧ Below w.heap.size w wr) (fun i _ => s.toNat - (intOf i).toNat)
      case atStart => exact ⟨0, by omega, rfl, HX2.out, hb3⟩
      case round =>
        obtain ⟨j, hj, rfl, hx, hbj⟩ := hrel
        have HX3 := Lib.hid hx
        clear hx HX2
        by_cases hjs : (j : Int) < s
        · have hi := inCode_of HS.out hjs
          have C := Lib.hid (fun w2 (h : IdxAt w2 b l) => prCode_in b l w2 (pre l k + j) k HG.out h hi (by rw [HL.out]; exact hlt))
          have HE := Lib.hid (show pre l k + (j : Int) - pre l k = j by omega)
          clear hi
          go_wp2_with fail
          refine (C.out _ HX3.out).mono ?_
          rintro e w3 ⟨rfl, hb4⟩
          rw [HE.out]
          have hb5 := hbj.trans (hb4.mono hbj.size)
          have HX4 := Lib.hid (HX3.out.below hb4)
          clear hb4 hbj HX3 C
          go_wp2
          go_roundw
          case rel => exact ⟨j + 1, by omega, by go_num, HX4.out, hb5⟩
          case measure => simp [intOf]; omega
        · obtain rfl : s = j := by omega
          go_wp2
          go_roundw
          case rel => exact ⟨k + 1, by omega, by go_num, by rw [HP.out], HX3.out, hbj⟩
          case measure => simp [intOf]; omega
    · have HK := Lib.hid (show pre l k = l.sum by rw [← pre_len]; congr 1; have := HL.out; omega)
      go_wp2_with fail
      refine (prUnits_any b l _ HG.out HX1.out).mono ?_
      rintro e w2 ⟨rfl, hb2⟩
      rw [HK.out]
      have hb3 := hbr.trans (hb2.mono hbr.size)
      go_wp2_with fail
      refine (awakeX_any _).mono ?_
      rintro e w3 ⟨rfl, hb4⟩
      have hb5 := hb3.trans (hb4.mono hb3.size)
      go_wp2
      go_ret
      exact ⟨rfl, hb5⟩
end Go.Proofs.Ytpllgonjhljjkaa
