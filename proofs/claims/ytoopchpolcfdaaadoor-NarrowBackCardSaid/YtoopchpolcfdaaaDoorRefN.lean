/- The reference's first: the code of a sequence of more than one byte at the beginning, or -1. -/
import Derived.Test.YtoopchpolcfdaaaDoorOneN
namespace Go.Proofs.YtoopchpolcfdaaaDoor
open Go.RowKit

theorem strOf_inj {a b : List Int} (ha : ∀ x ∈ a, Byte8 x) (hb : ∀ x ∈ b, Byte8 x) (h : (strOfNums a).data.toList = (strOfNums b).data.toList) : a = b := by
  rw [strOfNums_data, strOfNums_data] at h
  induction a generalizing b with
  | nil => cases b with
    | nil => rfl
    | cons _ _ => simp at h
  | cons x a ih => cases b with
    | nil => simp at h
    | cons y b =>
      simp only [List.map_cons, List.cons.injEq] at h
      obtain ⟨h1, h2⟩ := h
      have e := congrArg UInt8.toNat h1
      obtain ⟨x0, x1⟩ := ha x (by simp)
      obtain ⟨y0, y1⟩ := hb y (by simp)
      simp only [UInt8.toNat_ofNat'] at e
      rw [Nat.mod_eq_of_lt (by omega), Nat.mod_eq_of_lt (by omega)] at e
      rw [ih (fun z hz => ha z (by simp [hz])) (fun z hz => hb z (by simp [hz])) h2]
      congr 1
      omega

theorem refWhole_left (c : Int) (w : World) :
    Calls Tryd.prog 24 #[.int .i64 c] w fun e w' => e = .returned (.bool (wholeB c)) ∧ w' = w := (refWhole_any c w).mono fun _ _ ⟨h, h'⟩ => ⟨h, h'.symm⟩
/-- What the reference's first makes of the number c that the bytes spell: c, where its own bytes stand there. -/
def keptN (c : Int) (n : Nat) (bs : List Int) : Int := if 128 ≤ c ∧ wholeB c = true ∧ (oneN c).length ≤ n ∧ oneN c = bs.take (oneN c).length then c else -1
theorem one_byte (c : Int) : ∀ x ∈ oneN c, Byte8 x := by
  rcases partsN c with ⟨h, h'⟩ | ⟨h, h'⟩ | ⟨h, h'⟩ | ⟨h, h'⟩ | ⟨h, h', h''⟩ | ⟨h, h'⟩
  · rw [oneN_1 (sizeN_ill h h')]; intro x hx; simp at hx; unfold Byte8; omega
  · rw [oneN_0 (sizeN_0 h h')]; intro x hx; cases hx
  · rw [oneN_1 (sizeN_1 h h')]; intro x hx; simp at hx; unfold Byte8; omega
  · rw [oneN_2 (sizeN_2 h h')]; intro x hx; simp at hx; unfold Byte8; omega
  · rw [oneN_3 (sizeN_3 h h' h'')]; intro x hx; simp at hx; unfold Byte8; omega
  · rw [oneN_4 (sizeN_4 h h')]; intro x hx; simp at hx; unfold Byte8; omega

set_option maxHeartbeats 4000000 in
theorem refFirst_2 (ad : Addr) (n c : Nat) (x y : Int) (bs : List Int) (w : World) (hr : Rd w 1 (some ad) n (bs.map (Value.int .u8))) (hu : ∀ x ∈ bs, Byte8 x) (hn : 0 < n) (hc : n ≤ c) (h0 : w.cell? ad = some (.int .u8 x)) (c0 : 192 ≤ x) (c1 : x < 224) (l1 : ∀ q, Calls Tryd.prog 54 #[.slice (some ad) n c, .int .i64 1] (w.drewN q) fun e w' => e = .returned (.int .i64 (y % 64)) ∧ w' = w.drewN q) :
    Calls Tryd.prog 45 #[.slice (some ad) n c] w fun e w' => e = .returned (.int .i64 (keptN ((x - 192) * 64 + y % 64) n bs)) ∧ Below w.heap.size w w' := by
  have h0' : w.cell? (ad.add 0) = some (.int .u8 x) := h0
  have hlen : bs.length = n := by simpa using hr.len1
  have HN := Lib.hid hlen
  clear hlen
  have L1 := Lib.hid l1
  clear l1
  go_enter Tryd.func45, Tryd.ntmps45
  go_wp2
  go_quiet ((go_at_call 54; first | (with_reducible exact Calls.quiet_of_same (L1.out _))))
  go_wp2_with fail
  refine (one_any ((x - 192) * 64 + y % 64) _).mono ?_
  rintro e w1 ⟨vv, rfl, hown, hb⟩
  obtain ⟨A1, c2, rfl, hc2⟩ := own_form hown
  have hd1 := Rd.of_own hown
  have hb1 : Below w.heap.size w w1 := below_self (drewBelow nq) hb
  have hr1 := hr.below hb1
  clear hown hb
  go_wp2_with fail
  have hdec : ((x - 192) * 64 + y % 64) < 128 ∨ (¬ ((x - 192) * 64 + y % 64) < 128 ∧ wholeB ((x - 192) * 64 + y % 64) = false) ∨ (¬ ((x - 192) * 64 + y % 64) < 128 ∧ wholeB ((x - 192) * 64 + y % 64) = true ∧ n < (oneN ((x - 192) * 64 + y % 64)).length) ∨ (¬ ((x - 192) * 64 + y % 64) < 128 ∧ wholeB ((x - 192) * 64 + y % 64) = true ∧ ¬ n < (oneN ((x - 192) * 64 + y % 64)).length) := by
    by_cases d1 : ((x - 192) * 64 + y % 64) < 128
    · exact .inl d1
    · cases hw : wholeB ((x - 192) * 64 + y % 64) with
      | false => exact .inr (.inl ⟨d1, rfl⟩)
      | true =>
        by_cases d2 : n < (oneN ((x - 192) * 64 + y % 64)).length
        · exact .inr (.inr (.inl ⟨d1, rfl, d2⟩))
        · exact .inr (.inr (.inr ⟨d1, rfl, d2⟩))
  rcases hdec with d1 | ⟨d1, d2⟩ | ⟨d1, d2, d3⟩ | ⟨d1, d2, d3⟩
  · have HK := Lib.hid (show keptN ((x - 192) * 64 + y % 64) n bs = -1 from if_neg (fun h => by omega))
    go_quiet (fail)
    go_wp2
    go_ret
    exact ⟨retI HK.out.symm, below_drew hb1 _⟩
  · have HK := Lib.hid (show keptN ((x - 192) * 64 + y % 64) n bs = -1 from if_neg (fun h => by rw [d2] at h; exact absurd h.2.1 (by decide)))
    have hd : decide (((x - 192) * 64 + y % 64) < 128) = false := decide_eq_false d1
    go_quiet ((go_at_call 24; exact Calls.quiet_of_same (refWhole_left _ _)))
    go_wp2
    go_ret
    exact ⟨retI HK.out.symm, below_drew hb1 _⟩
  · have HK := Lib.hid (show keptN ((x - 192) * 64 + y % 64) n bs = -1 from if_neg (fun h => by omega))
    have hd : decide (((x - 192) * 64 + y % 64) < 128) = false := decide_eq_false d1
    have hd3 : decide (n < (oneN ((x - 192) * 64 + y % 64)).length) = true := decide_eq_true d3
    go_quiet ((go_at_call 24; exact Calls.quiet_of_same (refWhole_left _ _)))
    go_wp2
    go_ret
    exact ⟨retI HK.out.symm, below_drew hb1 _⟩
  · have hd : decide (((x - 192) * 64 + y % 64) < 128) = false := decide_eq_false d1
    have hd3 : decide (n < (oneN ((x - 192) * 64 + y % 64)).length) = false := decide_eq_false d3
    have hpre := hr1.pre (k := (oneN ((x - 192) * 64 + y % 64)).length) (by omega)
    rw [← List.map_take] at hpre
    have hv1 : ∀ q, (convert 39 9 (.slice A1 (oneN ((x - 192) * 64 + y % 64)).length c2)).run Tryd.prog (w1.drewN q) = .ok (.string (strOfNums (oneN ((x - 192) * 64 + y % 64)))) (w1.drewN q) := fun q => conv_str 39 9 5 Tryd.underlying39 Tryd.underlying5 Tryd.underlying9 _ _ _ _ _ (hd1.drewN q)
    have hv2 : ∀ q, (convert 39 9 (.slice (some ad) (oneN ((x - 192) * 64 + y % 64)).length c)).run Tryd.prog (w1.drewN q) = .ok (.string (strOfNums (bs.take (oneN ((x - 192) * 64 + y % 64)).length))) (w1.drewN q) := fun q => conv_str 39 9 5 Tryd.underlying39 Tryd.underlying5 Tryd.underlying9 _ _ _ _ _ (hpre.drewN q)
    by_cases he : oneN ((x - 192) * 64 + y % 64) = bs.take (oneN ((x - 192) * 64 + y % 64)).length
    · have HK := Lib.hid (show keptN ((x - 192) * 64 + y % 64) n bs = ((x - 192) * 64 + y % 64) from if_pos ⟨by omega, d2, by omega, he⟩)
      rw [← he] at hv2
      clear he hpre
      go_quiet ((go_at_call 24; exact Calls.quiet_of_same (refWhole_left _ _)))
      go_wp2
      go_ret
      exact ⟨retI HK.out.symm, below_drew hb1 _⟩
    · have HK := Lib.hid (show keptN ((x - 192) * 64 + y % 64) n bs = -1 from if_neg (fun h => he h.2.2.2))
      have hne : ((strOfNums (oneN ((x - 192) * 64 + y % 64))).toList == (strOfNums (bs.take (oneN ((x - 192) * 64 + y % 64)).length)).toList) = false := by
        rw [ByteArray.toList_eq, ByteArray.toList_eq]
        refine Bool.eq_false_iff.2 (fun h => he ?_)
        exact strOf_inj (one_byte _) (fun x hx => hu x (List.mem_of_mem_take hx)) (by simpa using h)
      clear he hpre
      go_quiet ((go_at_call 24; exact Calls.quiet_of_same (refWhole_left _ _)))
      go_wp2
      go_ret
      exact ⟨retI HK.out.symm, below_drew hb1 _⟩

set_option maxHeartbeats 4000000 in
theorem refFirst_3 (ad : Addr) (n c : Nat) (x y z : Int) (bs : List Int) (w : World) (hr : Rd w 1 (some ad) n (bs.map (Value.int .u8))) (hu : ∀ x ∈ bs, Byte8 x) (hn : 0 < n) (hc : n ≤ c) (h0 : w.cell? ad = some (.int .u8 x)) (c0 : 224 ≤ x) (c1 : x < 240) (l1 : ∀ q, Calls Tryd.prog 54 #[.slice (some ad) n c, .int .i64 1] (w.drewN q) fun e w' => e = .returned (.int .i64 (y % 64)) ∧ w' = w.drewN q) (l2 : ∀ q, Calls Tryd.prog 54 #[.slice (some ad) n c, .int .i64 2] (w.drewN q) fun e w' => e = .returned (.int .i64 (z % 64)) ∧ w' = w.drewN q) :
    Calls Tryd.prog 45 #[.slice (some ad) n c] w fun e w' => e = .returned (.int .i64 (keptN ((x - 224) * 4096 + y % 64 * 64 + z % 64) n bs)) ∧ Below w.heap.size w w' := by
  have h0' : w.cell? (ad.add 0) = some (.int .u8 x) := h0
  have hlen : bs.length = n := by simpa using hr.len1
  have HN := Lib.hid hlen
  clear hlen
  have L1 := Lib.hid l1
  clear l1
  have L2 := Lib.hid l2
  clear l2
  go_enter Tryd.func45, Tryd.ntmps45
  go_wp2
  go_quiet ((go_at_call 54; first | (with_reducible exact Calls.quiet_of_same (L1.out _)) | (with_reducible exact Calls.quiet_of_same (L2.out _))))
  go_wp2_with fail
  refine (one_any ((x - 224) * 4096 + y % 64 * 64 + z % 64) _).mono ?_
  rintro e w1 ⟨vv, rfl, hown, hb⟩
  obtain ⟨A1, c2, rfl, hc2⟩ := own_form hown
  have hd1 := Rd.of_own hown
  have hb1 : Below w.heap.size w w1 := below_self (drewBelow nq) hb
  have hr1 := hr.below hb1
  clear hown hb
  go_wp2_with fail
  have hdec : ((x - 224) * 4096 + y % 64 * 64 + z % 64) < 128 ∨ (¬ ((x - 224) * 4096 + y % 64 * 64 + z % 64) < 128 ∧ wholeB ((x - 224) * 4096 + y % 64 * 64 + z % 64) = false) ∨ (¬ ((x - 224) * 4096 + y % 64 * 64 + z % 64) < 128 ∧ wholeB ((x - 224) * 4096 + y % 64 * 64 + z % 64) = true ∧ n < (oneN ((x - 224) * 4096 + y % 64 * 64 + z % 64)).length) ∨ (¬ ((x - 224) * 4096 + y % 64 * 64 + z % 64) < 128 ∧ wholeB ((x - 224) * 4096 + y % 64 * 64 + z % 64) = true ∧ ¬ n < (oneN ((x - 224) * 4096 + y % 64 * 64 + z % 64)).length) := by
    by_cases d1 : ((x - 224) * 4096 + y % 64 * 64 + z % 64) < 128
    · exact .inl d1
    · cases hw : wholeB ((x - 224) * 4096 + y % 64 * 64 + z % 64) with
      | false => exact .inr (.inl ⟨d1, rfl⟩)
      | true =>
        by_cases d2 : n < (oneN ((x - 224) * 4096 + y % 64 * 64 + z % 64)).length
        · exact .inr (.inr (.inl ⟨d1, rfl, d2⟩))
        · exact .inr (.inr (.inr ⟨d1, rfl, d2⟩))
  rcases hdec with d1 | ⟨d1, d2⟩ | ⟨d1, d2, d3⟩ | ⟨d1, d2, d3⟩
  · have HK := Lib.hid (show keptN ((x - 224) * 4096 + y % 64 * 64 + z % 64) n bs = -1 from if_neg (fun h => by omega))
    go_quiet (fail)
    go_wp2
    go_ret
    exact ⟨retI HK.out.symm, below_drew hb1 _⟩
  · have HK := Lib.hid (show keptN ((x - 224) * 4096 + y % 64 * 64 + z % 64) n bs = -1 from if_neg (fun h => by rw [d2] at h; exact absurd h.2.1 (by decide)))
    have hd : decide (((x - 224) * 4096 + y % 64 * 64 + z % 64) < 128) = false := decide_eq_false d1
    go_quiet ((go_at_call 24; exact Calls.quiet_of_same (refWhole_left _ _)))
    go_wp2
    go_ret
    exact ⟨retI HK.out.symm, below_drew hb1 _⟩
  · have HK := Lib.hid (show keptN ((x - 224) * 4096 + y % 64 * 64 + z % 64) n bs = -1 from if_neg (fun h => by omega))
    have hd : decide (((x - 224) * 4096 + y % 64 * 64 + z % 64) < 128) = false := decide_eq_false d1
    have hd3 : decide (n < (oneN ((x - 224) * 4096 + y % 64 * 64 + z % 64)).length) = true := decide_eq_true d3
    go_quiet ((go_at_call 24; exact Calls.quiet_of_same (refWhole_left _ _)))
    go_wp2
    go_ret
    exact ⟨retI HK.out.symm, below_drew hb1 _⟩
  · have hd : decide (((x - 224) * 4096 + y % 64 * 64 + z % 64) < 128) = false := decide_eq_false d1
    have hd3 : decide (n < (oneN ((x - 224) * 4096 + y % 64 * 64 + z % 64)).length) = false := decide_eq_false d3
    have hpre := hr1.pre (k := (oneN ((x - 224) * 4096 + y % 64 * 64 + z % 64)).length) (by omega)
    rw [← List.map_take] at hpre
    have hv1 : ∀ q, (convert 39 9 (.slice A1 (oneN ((x - 224) * 4096 + y % 64 * 64 + z % 64)).length c2)).run Tryd.prog (w1.drewN q) = .ok (.string (strOfNums (oneN ((x - 224) * 4096 + y % 64 * 64 + z % 64)))) (w1.drewN q) := fun q => conv_str 39 9 5 Tryd.underlying39 Tryd.underlying5 Tryd.underlying9 _ _ _ _ _ (hd1.drewN q)
    have hv2 : ∀ q, (convert 39 9 (.slice (some ad) (oneN ((x - 224) * 4096 + y % 64 * 64 + z % 64)).length c)).run Tryd.prog (w1.drewN q) = .ok (.string (strOfNums (bs.take (oneN ((x - 224) * 4096 + y % 64 * 64 + z % 64)).length))) (w1.drewN q) := fun q => conv_str 39 9 5 Tryd.underlying39 Tryd.underlying5 Tryd.underlying9 _ _ _ _ _ (hpre.drewN q)
    by_cases he : oneN ((x - 224) * 4096 + y % 64 * 64 + z % 64) = bs.take (oneN ((x - 224) * 4096 + y % 64 * 64 + z % 64)).length
    · have HK := Lib.hid (show keptN ((x - 224) * 4096 + y % 64 * 64 + z % 64) n bs = ((x - 224) * 4096 + y % 64 * 64 + z % 64) from if_pos ⟨by omega, d2, by omega, he⟩)
      rw [← he] at hv2
      clear he hpre
      go_quiet ((go_at_call 24; exact Calls.quiet_of_same (refWhole_left _ _)))
      go_wp2
      go_ret
      exact ⟨retI HK.out.symm, below_drew hb1 _⟩
    · have HK := Lib.hid (show keptN ((x - 224) * 4096 + y % 64 * 64 + z % 64) n bs = -1 from if_neg (fun h => he h.2.2.2))
      have hne : ((strOfNums (oneN ((x - 224) * 4096 + y % 64 * 64 + z % 64))).toList == (strOfNums (bs.take (oneN ((x - 224) * 4096 + y % 64 * 64 + z % 64)).length)).toList) = false := by
        rw [ByteArray.toList_eq, ByteArray.toList_eq]
        refine Bool.eq_false_iff.2 (fun h => he ?_)
        exact strOf_inj (one_byte _) (fun x hx => hu x (List.mem_of_mem_take hx)) (by simpa using h)
      clear he hpre
      go_quiet ((go_at_call 24; exact Calls.quiet_of_same (refWhole_left _ _)))
      go_wp2
      go_ret
      exact ⟨retI HK.out.symm, below_drew hb1 _⟩

set_option maxHeartbeats 4000000 in
theorem refFirst_4 (ad : Addr) (n c : Nat) (x y z t : Int) (bs : List Int) (w : World) (hr : Rd w 1 (some ad) n (bs.map (Value.int .u8))) (hu : ∀ x ∈ bs, Byte8 x) (hn : 0 < n) (hc : n ≤ c) (h0 : w.cell? ad = some (.int .u8 x)) (c0 : 240 ≤ x) (c1 : x < 248) (l1 : ∀ q, Calls Tryd.prog 54 #[.slice (some ad) n c, .int .i64 1] (w.drewN q) fun e w' => e = .returned (.int .i64 (y % 64)) ∧ w' = w.drewN q) (l2 : ∀ q, Calls Tryd.prog 54 #[.slice (some ad) n c, .int .i64 2] (w.drewN q) fun e w' => e = .returned (.int .i64 (z % 64)) ∧ w' = w.drewN q) (l3 : ∀ q, Calls Tryd.prog 54 #[.slice (some ad) n c, .int .i64 3] (w.drewN q) fun e w' => e = .returned (.int .i64 (t % 64)) ∧ w' = w.drewN q) :
    Calls Tryd.prog 45 #[.slice (some ad) n c] w fun e w' => e = .returned (.int .i64 (keptN ((x - 240) * 262144 + y % 64 * 4096 + z % 64 * 64 + t % 64) n bs)) ∧ Below w.heap.size w w' := by
  have h0' : w.cell? (ad.add 0) = some (.int .u8 x) := h0
  have hlen : bs.length = n := by simpa using hr.len1
  have HN := Lib.hid hlen
  clear hlen
  have L1 := Lib.hid l1
  clear l1
  have L2 := Lib.hid l2
  clear l2
  have L3 := Lib.hid l3
  clear l3
  go_enter Tryd.func45, Tryd.ntmps45
  go_wp2
  go_quiet ((go_at_call 54; first | (with_reducible exact Calls.quiet_of_same (L1.out _)) | (with_reducible exact Calls.quiet_of_same (L2.out _)) | (with_reducible exact Calls.quiet_of_same (L3.out _))))
  go_wp2_with fail
  refine (one_any ((x - 240) * 262144 + y % 64 * 4096 + z % 64 * 64 + t % 64) _).mono ?_
  rintro e w1 ⟨vv, rfl, hown, hb⟩
  obtain ⟨A1, c2, rfl, hc2⟩ := own_form hown
  have hd1 := Rd.of_own hown
  have hb1 : Below w.heap.size w w1 := below_self (drewBelow nq) hb
  have hr1 := hr.below hb1
  clear hown hb
  go_wp2_with fail
  have hdec : ((x - 240) * 262144 + y % 64 * 4096 + z % 64 * 64 + t % 64) < 128 ∨ (¬ ((x - 240) * 262144 + y % 64 * 4096 + z % 64 * 64 + t % 64) < 128 ∧ wholeB ((x - 240) * 262144 + y % 64 * 4096 + z % 64 * 64 + t % 64) = false) ∨ (¬ ((x - 240) * 262144 + y % 64 * 4096 + z % 64 * 64 + t % 64) < 128 ∧ wholeB ((x - 240) * 262144 + y % 64 * 4096 + z % 64 * 64 + t % 64) = true ∧ n < (oneN ((x - 240) * 262144 + y % 64 * 4096 + z % 64 * 64 + t % 64)).length) ∨ (¬ ((x - 240) * 262144 + y % 64 * 4096 + z % 64 * 64 + t % 64) < 128 ∧ wholeB ((x - 240) * 262144 + y % 64 * 4096 + z % 64 * 64 + t % 64) = true ∧ ¬ n < (oneN ((x - 240) * 262144 + y % 64 * 4096 + z % 64 * 64 + t % 64)).length) := by
    by_cases d1 : ((x - 240) * 262144 + y % 64 * 4096 + z % 64 * 64 + t % 64) < 128
    · exact .inl d1
    · cases hw : wholeB ((x - 240) * 262144 + y % 64 * 4096 + z % 64 * 64 + t % 64) with
      | false => exact .inr (.inl ⟨d1, rfl⟩)
      | true =>
        by_cases d2 : n < (oneN ((x - 240) * 262144 + y % 64 * 4096 + z % 64 * 64 + t % 64)).length
        · exact .inr (.inr (.inl ⟨d1, rfl, d2⟩))
        · exact .inr (.inr (.inr ⟨d1, rfl, d2⟩))
  rcases hdec with d1 | ⟨d1, d2⟩ | ⟨d1, d2, d3⟩ | ⟨d1, d2, d3⟩
  · have HK := Lib.hid (show keptN ((x - 240) * 262144 + y % 64 * 4096 + z % 64 * 64 + t % 64) n bs = -1 from if_neg (fun h => by omega))
    go_quiet (fail)
    go_wp2
    go_ret
    exact ⟨retI HK.out.symm, below_drew hb1 _⟩
  · have HK := Lib.hid (show keptN ((x - 240) * 262144 + y % 64 * 4096 + z % 64 * 64 + t % 64) n bs = -1 from if_neg (fun h => by rw [d2] at h; exact absurd h.2.1 (by decide)))
    have hd : decide (((x - 240) * 262144 + y % 64 * 4096 + z % 64 * 64 + t % 64) < 128) = false := decide_eq_false d1
    go_quiet ((go_at_call 24; exact Calls.quiet_of_same (refWhole_left _ _)))
    go_wp2
    go_ret
    exact ⟨retI HK.out.symm, below_drew hb1 _⟩
  · have HK := Lib.hid (show keptN ((x - 240) * 262144 + y % 64 * 4096 + z % 64 * 64 + t % 64) n bs = -1 from if_neg (fun h => by omega))
    have hd : decide (((x - 240) * 262144 + y % 64 * 4096 + z % 64 * 64 + t % 64) < 128) = false := decide_eq_false d1
    have hd3 : decide (n < (oneN ((x - 240) * 262144 + y % 64 * 4096 + z % 64 * 64 + t % 64)).length) = true := decide_eq_true d3
    go_quiet ((go_at_call 24; exact Calls.quiet_of_same (refWhole_left _ _)))
    go_wp2
    go_ret
    exact ⟨retI HK.out.symm, below_drew hb1 _⟩
  · have hd : decide (((x - 240) * 262144 + y % 64 * 4096 + z % 64 * 64 + t % 64) < 128) = false := decide_eq_false d1
    have hd3 : decide (n < (oneN ((x - 240) * 262144 + y % 64 * 4096 + z % 64 * 64 + t % 64)).length) = false := decide_eq_false d3
    have hpre := hr1.pre (k := (oneN ((x - 240) * 262144 + y % 64 * 4096 + z % 64 * 64 + t % 64)).length) (by omega)
    rw [← List.map_take] at hpre
    have hv1 : ∀ q, (convert 39 9 (.slice A1 (oneN ((x - 240) * 262144 + y % 64 * 4096 + z % 64 * 64 + t % 64)).length c2)).run Tryd.prog (w1.drewN q) = .ok (.string (strOfNums (oneN ((x - 240) * 262144 + y % 64 * 4096 + z % 64 * 64 + t % 64)))) (w1.drewN q) := fun q => conv_str 39 9 5 Tryd.underlying39 Tryd.underlying5 Tryd.underlying9 _ _ _ _ _ (hd1.drewN q)
    have hv2 : ∀ q, (convert 39 9 (.slice (some ad) (oneN ((x - 240) * 262144 + y % 64 * 4096 + z % 64 * 64 + t % 64)).length c)).run Tryd.prog (w1.drewN q) = .ok (.string (strOfNums (bs.take (oneN ((x - 240) * 262144 + y % 64 * 4096 + z % 64 * 64 + t % 64)).length))) (w1.drewN q) := fun q => conv_str 39 9 5 Tryd.underlying39 Tryd.underlying5 Tryd.underlying9 _ _ _ _ _ (hpre.drewN q)
    by_cases he : oneN ((x - 240) * 262144 + y % 64 * 4096 + z % 64 * 64 + t % 64) = bs.take (oneN ((x - 240) * 262144 + y % 64 * 4096 + z % 64 * 64 + t % 64)).length
    · have HK := Lib.hid (show keptN ((x - 240) * 262144 + y % 64 * 4096 + z % 64 * 64 + t % 64) n bs = ((x - 240) * 262144 + y % 64 * 4096 + z % 64 * 64 + t % 64) from if_pos ⟨by omega, d2, by omega, he⟩)
      rw [← he] at hv2
      clear he hpre
      go_quiet ((go_at_call 24; exact Calls.quiet_of_same (refWhole_left _ _)))
      go_wp2
      go_ret
      exact ⟨retI HK.out.symm, below_drew hb1 _⟩
    · have HK := Lib.hid (show keptN ((x - 240) * 262144 + y % 64 * 4096 + z % 64 * 64 + t % 64) n bs = -1 from if_neg (fun h => he h.2.2.2))
      have hne : ((strOfNums (oneN ((x - 240) * 262144 + y % 64 * 4096 + z % 64 * 64 + t % 64))).toList == (strOfNums (bs.take (oneN ((x - 240) * 262144 + y % 64 * 4096 + z % 64 * 64 + t % 64)).length)).toList) = false := by
        rw [ByteArray.toList_eq, ByteArray.toList_eq]
        refine Bool.eq_false_iff.2 (fun h => he ?_)
        exact strOf_inj (one_byte _) (fun x hx => hu x (List.mem_of_mem_take hx)) (by simpa using h)
      clear he hpre
      go_quiet ((go_at_call 24; exact Calls.quiet_of_same (refWhole_left _ _)))
      go_wp2
      go_ret
      exact ⟨retI HK.out.symm, below_drew hb1 _⟩

set_option maxHeartbeats 4000000 in
theorem refFirst_0 (ad : Addr) (n c : Nat) (x : Int) (w : World) (hn : 0 < n) (h0 : w.cell? ad = some (.int .u8 x)) (c0 : x < 192 ∨ 248 ≤ x) :
    Calls Tryd.prog 45 #[.slice (some ad) n c] w fun e w' => e = .returned (.int .i64 (-1)) ∧ Below w.heap.size w w' := by
  have h0' : w.cell? (ad.add 0) = some (.int .u8 x) := h0
  rcases c0 with c0 | c0
  · go_enter Tryd.func45, Tryd.ntmps45
    go_wp2_with fail
    refine (one_any (-1) _).mono ?_
    rintro e w1 ⟨vv, rfl, hown, hb⟩
    go_wp2_with fail
    go_quiet (fail)
    go_wp2
    go_ret
    exact ⟨rfl, below_drew hb _⟩
  · go_enter Tryd.func45, Tryd.ntmps45
    go_wp2_with fail
    refine (one_any (-1) _).mono ?_
    rintro e w1 ⟨vv, rfl, hown, hb⟩
    go_wp2_with fail
    go_quiet (fail)
    go_wp2
    go_ret
    exact ⟨rfl, below_drew hb _⟩
end Go.Proofs.YtoopchpolcfdaaaDoor
