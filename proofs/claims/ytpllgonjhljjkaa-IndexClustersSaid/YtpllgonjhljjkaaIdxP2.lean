/- The project's index: New, and what its methods tell of an index that New made. -/
import Derived.Test.YtpllgonjhljjkaaIdxP1
namespace Go.Proofs.Ytpllgonjhljjkaa
open Go.RowKit

/-- What New hands back. -/
def NewGives (w : World) (l : List Int) (e : Ending) (w' : World) : Prop :=
  (errX l ≠ 0 ∧ e = .returned (.tuple #[.pointer none, .int .i64 (errX l)]) ∧ Below w.heap.size w w') ∨
  (errX l = 0 ∧ ∃ b, e = .returned (.tuple #[.pointer (some ⟨b, 0, none⟩), .int .i64 0]) ∧ IdxAt w' b l ∧ Below w.heap.size w w')

set_option maxRecDepth 100000 in
set_option maxHeartbeats 2000000 in
theorem prNew_any (A : Option Addr) (n c : Nat) (l : List Int) (w : World) (hr : Rd w 1 A n (l.map (Value.int .i64))) (hn : n ≤ maxLen) :
    Calls Try.prog 14 #[.slice A n c] w (NewGives w l) := by
  have hlen : l.length = n := by simpa using hr.len1
  have HL := Lib.hid hlen
  have HN := Lib.hid hn
  clear hlen
  unfold maxLen at hn
  go_enter Try.func14, Try.ntmps14
  go_wp2
  go_loop [8] (fun i => ∃ (k : Nat), k ≤ n ∧ i = .int .i64 k ∧ Ones (l.take k)) (fun i => n - (intOf i).toNat)
  case atStart => exact ⟨0, Nat.zero_le _, rfl, fun s hs => by simp at hs⟩
  case round =>
    obtain ⟨k, hk, rfl, ho⟩ := hrel
    have HO := Lib.hid ho
    clear ho
    by_cases hlt : k < n
    · obtain ⟨s, hsk⟩ : ∃ s, l[k]? = some s := ⟨_, List.getElem?_eq_getElem (by rw [HL.out]; exact hlt)⟩
      obtain ⟨ad, rfl, _, hc⟩ := hr.at_ hlt
      have cs : w.cell? (ad.add k) = some (.int .i64 s) := hc _ (by rw [List.getElem?_map, hsk]; rfl)
      have HS := Lib.hid hsk
      clear hsk hc
      by_cases hs : s < 1
      · have HE := Lib.hid (errX_bad (List.mem_of_getElem? HS.out) hs)
        go_wp2
        go_ret2
        exact .inl ⟨by rw [HE.out]; decide, by rw [HE.out]; rfl, Below.refl _ _⟩
      · have HX := Lib.hid (ones_snoc HO.out HS.out (by omega))
        go_wp2
        go_round
        case rel => exact ⟨k + 1, by omega, by go_num, HX.out⟩
        case measure => simp [intOf]; omega
    · have ho : Ones l := by have := HO.out; rwa [List.take_of_length_le (by rw [HL.out]; omega)] at this
      have HF := Lib.hid (errX_ones ho)
      cases hl : longB 16777216 l with
      | true =>
        have HE := Lib.hid (show errX l = 6 by rw [HF.out, hl]; rfl)
        have C := Lib.hid (prLong_any A n c l w hr ho HN.out)
        rw [hl] at C
        clear hl
        go_wp2_with (go_at_call 44; refine C.out.mono ?_; rintro e w' ⟨rfl, rfl⟩)
        go_ret2
        exact .inl ⟨by rw [HE.out]; decide, by rw [HE.out]; rfl, Below.refl _ _⟩
      | false =>
        have HE := Lib.hid (show errX l = 0 by rw [HF.out, hl]; rfl)
        have C := Lib.hid (prLong_any A n c l w hr ho HN.out)
        have R := Lib.hid (prRuler_any A n c l w hr (errX_ok HE.out))
        rw [hl] at C
        clear hl
        go_wp2_with (first
          | (go_at_call 44; refine C.out.mono ?_; rintro e w' ⟨rfl, rfl⟩)
          | (go_at_call 45; refine R.out.mono ?_; rintro e w1 ⟨g, cc, rfl, hcc, hg, hge, hst, hb⟩))
        have hb2 := hb.alloc hb.size (.cells #[.slice (some ⟨g, 0, none⟩) (l.length + 1) cc] 82)
        have HI := Lib.hid (show IdxAt (w1.alloc (.cells #[.slice (some ⟨g, 0, none⟩) (l.length + 1) cc] 82)) w1.heap.size l from
          ⟨g, cc, by rw [World.cell?_alloc_at _ _ _ _ rfl]; rfl, hcc, by simp; omega, fun j u hj => cell_below (below_new _ _) (hst j u hj)⟩)
        go_ret2
        exact .inr ⟨HE.out, _, rfl, HI.out, hb2⟩

section
variable (b : Nat) (l : List Int) (w : World)
set_option maxRecDepth 100000 in
theorem prMade_any (h : IdxAt w b l) : Calls Try.prog 50 #[.pointer (some ⟨b, 0, none⟩)] w fun e w' => e = .returned (.bool true) ∧ w = w' := by
  obtain ⟨g, c, h1, h2, h3⟩ := h.stroke
  clear h3
  go_enter Try.func50, Try.ntmps50
  go_wp2
  go_ret
  exact ⟨rfl, rfl⟩
set_option maxRecDepth 100000 in
theorem prCodesR_any (hg : Good l) (h : IdxAt w b l) : Calls Try.prog 52 #[.pointer (some ⟨b, 0, none⟩)] w fun e w' => e = .returned (.int .i64 l.length) ∧ w = w' := by
  obtain ⟨g, c, h1, h2, h3⟩ := h.stroke
  have hlen := good_len hg
  have hw := Lib.hid (show (((l.length + 1 : Nat) : Int) - 1) = l.length by omega)
  clear h3 hg
  go_enter Try.func52, Try.ntmps52
  go_wp2
  go_ret
  exact ⟨retI (by omega), rfl⟩
set_option maxRecDepth 100000 in
theorem prUnitsR_any (hg : Good l) (h : IdxAt w b l) : Calls Try.prog 51 #[.pointer (some ⟨b, 0, none⟩)] w fun e w' => e = .returned (.int .i64 l.sum) ∧ Below w.heap.size w w' := by
  obtain ⟨g, c, h1, h2, h3⟩ := h.stroke
  have h4 := h3 l.length (Nat.le_refl _)
  rw [List.take_length] at h4
  have hlen := good_len hg
  clear h3
  have HI := Lib.hid h
  have HG := Lib.hid hg
  clear h hg
  go_enter Try.func51, Try.ntmps51
  go_wp2
  go_quiet ((go_at_call 52; exact quiet_eq (prCodesR_any b l _ HG.out (HI.out.drewN _))))
  go_wp2
  go_ret
  exact ⟨rfl, drewBelow _⟩
set_option maxRecDepth 100000 in
set_option maxHeartbeats 2000000 in
theorem prStretch_any (lo hi : Nat) (hg : Good l) (h : IdxAt w b l) (h1 : lo ≤ l.length) (h2 : hi ≤ l.length) :
    Calls Try.prog 47 #[.pointer (some ⟨b, 0, none⟩), .agg #[.int .i64 lo, .int .i64 hi]] w fun e w' => e = .returned (.agg #[.int .i64 (pre l lo), .int .i64 (pre l hi)]) ∧ Below w.heap.size w w' := by
  have hlen := good_len hg
  go_enter Try.func47, Try.ntmps47
  go_wp2
  have hb0 : Below w.heap.size w ((w.alloc (.cells #[.int .i64 lo, .int .i64 hi] 35)).alloc (.cells #[.int .i64 0, .int .i64 0] 35)) := (below_new _ _).alloc (by simp) _
  obtain ⟨g, c, k1, k2, k3⟩ := (h.below hb0).stroke
  have k4 := k3 lo h1
  have k5 := k3 hi h2
  have c0 : ((w.alloc (.cells #[.int .i64 lo, .int .i64 hi] 35)).alloc (.cells #[.int .i64 0, .int .i64 0] 35)).cell? ⟨w.heap.size, 0, none⟩ = some (.int .i64 lo) := by go_simp
  have c1 : ((w.alloc (.cells #[.int .i64 lo, .int .i64 hi] 35)).alloc (.cells #[.int .i64 0, .int .i64 0] 35)).cell? ⟨w.heap.size, 1, none⟩ = some (.int .i64 hi) := by go_simp
  clear k3 h hg
  go_region
  go_wp2
  refine bodyPost_ret (v := .agg #[.int .i64 (pre l lo), .int .i64 (pre l hi)]) (by simp [results, Try.results47, go_sem, pre]) rfl ⟨rfl, ?_⟩
  exact ((below_new _ _).alloc (by simp) _).drew
end
end Go.Proofs.Ytpllgonjhljjkaa
