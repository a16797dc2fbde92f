/- The reference's Forms. -/
import Derived.Test.YtcjcimdembkbkaaJnA
import Derived.Test.YtcjcimdembkbkaaMem3
namespace Go.Proofs.Ytcjcimdembkbkaa
open Go.RowKit

theorem intSliceJ : SliceOf Try.prog 22 3 1 8 := .mk_ (z := .int .i64 0) Try.underlying22 (by kernel_rfl) rfl
theorem jJoined_last {ts : List Int} {k : Nat} (hk : k < ts.length) : jJoined ts (jAhead ts k) = jJoinI ts (jLast ts k) := by
  have := jLast_lt ts k
  unfold jAhead
  rw [if_pos ⟨by omega, by omega⟩, Int.toNat_natCast]
  unfold jJoined jJoinI
  by_cases c : 0 ≤ jLast ts k
  · rw [if_pos ⟨c, by omega⟩, if_pos c]
  · rw [if_neg (fun h => c h.1), if_neg c]
theorem jJoined_self {ts : List Int} {k : Nat} (hk : k < ts.length) : jJoined ts k = jJoin ts k := by
  unfold jJoined
  rw [if_pos ⟨by omega, by omega⟩, Int.toNat_natCast]
set_option maxRecDepth 100000 in
set_option maxHeartbeats 4000000 in
theorem refForms_any (A : Option Addr) (n c : Nat) (ts : List Int) (w : World) (hr : Rd w 1 A n (ts.map (Value.int .i64))) (hn : n ≤ 1000000) :
    Calls Try.prog 14 #[.slice A n c] w fun e w' => (∃ v, e = .returned v ∧ w'.ownsRow w.heap.size 3 1 v n ((jForms ts).map (Value.int .i64))) ∧ Below w.heap.size w w' := by
  have hlen : ts.length = n := by simpa using hr.len1
  have HL := Lib.hid hlen
  have HR := Lib.hid hr
  clear hlen hr
  go_enter Try.func14, Try.ntmps14
  go_wp2
  go_loopw [3, 4] (fun v i wr => ∃ (k : Nat) (acc : List Int), k ≤ n ∧ i = .int .i64 k ∧ wr.ownsRow w.heap.size 3 1 v k (acc.map (Value.int .i64)) ∧ acc = (jForms ts).take k ∧ Below w.heap.size w wr) (fun _ i _ => n - (intOf i).toNat)
  case atStart => exact ⟨0, [], Nat.zero_le _, rfl, ⟨rfl, .inl ⟨rfl, rfl⟩⟩, by simp, Below.refl _ _⟩
  case round =>
    obtain ⟨k, acc, hk, rfl, hown, hd, hb⟩ := hrel
    have hrd := HR.out.below hb
    by_cases hlt : k < n
    · obtain ⟨t, htk⟩ : ∃ t, ts[k]? = some t := ⟨_, List.getElem?_eq_getElem (by rw [HL.out]; exact hlt)⟩
      have hfk := jForms_at (ts := ts) (k := k) (by rw [HL.out]; exact hlt)
      have hacc : acc ++ [jForm ts k] = (jForms ts).take (k + 1) := by rw [hd, List.take_add_one, hfk]; rfl
      rw [jForm_at htk] at hacc
      have HA := Lib.hid (refAhead_any A n c ts k wr hrd hn)
      obtain ⟨q, hq⟩ : ∃ q, jAhead ts k = q := ⟨_, rfl⟩
      obtain ⟨a, ha⟩ : ∃ a, jJoinI ts (jLast ts k) = a := ⟨_, rfl⟩
      obtain ⟨j, hj⟩ : ∃ j, jJoin ts k = j := ⟨_, rfl⟩
      have hja := jJoined_last (ts := ts) (k := k) (by rw [HL.out]; exact hlt)
      have hjs := jJoined_self (ts := ts) (k := k) (by rw [HL.out]; exact hlt)
      rw [hq, ha] at hja
      rw [hj] at hjs
      rw [ha, hj] at hacc
      rw [hq] at HA
      have HJ1 := Lib.hid (fun w1 (h : Rd w1 1 A n (ts.map (Value.int .i64))) => refJoined_of A n c ts q a hja w1 h hn)
      have HJ2 := Lib.hid (fun w1 (h : Rd w1 1 A n (ts.map (Value.int .i64))) => refJoined_of A n c ts k j hjs w1 h hn)
      obtain ⟨ad, rfl, _, hc⟩ := hrd.at_ hlt
      have cs : wr.cell? (ad.add k) = some (.int .i64 t) := hc _ (by rw [List.getElem?_map, htk]; rfl)
      have hbz := Below.refl wr.heap.size wr
      have HO := Lib.hid hown
      have HB := Lib.hid hb
      have HRD := Lib.hid hrd
      by_cases hf : formedB t = true
      · have h3 : t = 3 ∨ t = 2 ∨ t = 4 := by
          unfold formedB at hf
          simpa [or_assoc] using hf
        rw [if_pos hf] at hacc
        have HX := Lib.hid hacc
        clear hf hacc hd hq ha hj hja hjs htk hfk hc hown hb hrd
        rcases h3 with rfl | rfl | rfl <;> cases a <;> cases j
        all_goals
          go_wp2_with (first
            | (go_at_call 16; with_reducible refine HA.out.mono ?_; rintro e w1 ⟨rfl, rfl⟩)
            | (go_at_call 20; with_reducible refine (HJ1.out _ (HRD.out.below hbz)).mono ?_; rintro e w1 ⟨rfl, h9⟩; replace hbz := below_self hbz h9; clear h9)
            | (go_at_call 20; with_reducible refine (HJ2.out _ (HRD.out.below hbz)).mono ?_; rintro e w1 ⟨rfl, h9⟩; replace hbz := below_self hbz h9; clear h9)
            | (at_builtin; refine wpList_app rfl _ _ _ rfl intSliceJ (by decide) _ k _ rfl ((own_below HO.out hbz).alloc _) _ 1 1 [.int .i64 _] rfl rfl (cell_one_new _ _ _) (oneInt _ _) (by omega) (by unfold maxLen; omega) (Nat.le_trans (below_self HB.out hbz).size (by simp)) ?_; intro v1 w2 hown1 hg1 hat1)
            | fail)
          have hb2 := below_self HB.out hbz
          have hgr := below_app (hb2.alloc hb2.size _) hg1 ((own_below HO.out hbz).alloc _) (Nat.le_trans hb2.size (by simp))
          go_roundw
          case rel => exact ⟨k + 1, _, by omega, by go_num, by simpa [formK] using hown1, HX.out, hgr⟩
          case measure => simp [intOf]; omega
      · have g3 : (t == 3) = false := by unfold formedB at hf; simp only [Bool.or_eq_true, not_or, Bool.not_eq_true] at hf; exact hf.1.1
        have g2 : (t == 2) = false := by unfold formedB at hf; simp only [Bool.or_eq_true, not_or, Bool.not_eq_true] at hf; exact hf.1.2
        have g4 : (t == 4) = false := by unfold formedB at hf; simp only [Bool.or_eq_true, not_or, Bool.not_eq_true] at hf; exact hf.2
        rw [if_neg hf] at hacc
        have HX := Lib.hid hacc
        clear hf hacc hd hq ha hj hja hjs htk hfk hc hown hb hrd
        go_wp2_with (first
          | (go_at_call 16; with_reducible refine HA.out.mono ?_; rintro e w1 ⟨rfl, rfl⟩)
          | (go_at_call 20; with_reducible refine (HJ1.out _ (HRD.out.below hbz)).mono ?_; rintro e w1 ⟨rfl, h9⟩; replace hbz := below_self hbz h9; clear h9)
          | (at_builtin; refine wpList_app rfl _ _ _ rfl intSliceJ (by decide) _ k _ rfl ((own_below HO.out hbz).alloc _) _ 1 1 [.int .i64 _] rfl rfl (cell_one_new _ _ _) (oneInt _ _) (by omega) (by unfold maxLen; omega) (Nat.le_trans (below_self HB.out hbz).size (by simp)) ?_; intro v1 w2 hown1 hg1 hat1)
          | fail)
        have hb2 := below_self HB.out hbz
        have hgr := below_app (hb2.alloc hb2.size _) hg1 ((own_below HO.out hbz).alloc _) (Nat.le_trans hb2.size (by simp))
        go_roundw
        case rel => exact ⟨k + 1, _, by omega, by go_num, by simpa using hown1, HX.out, hgr⟩
        case measure => simp [intOf]; omega
    · obtain rfl : k = n := by omega
      rw [hd, List.take_of_length_le (by rw [jForms_len, HL.out]; exact Nat.le_refl _)] at hown
      have HO := Lib.hid hown
      have HB := Lib.hid hb
      clear hown hd hb hrd
      go_wp2
      go_ret
      exact ⟨⟨_, rfl, HO.out⟩, HB.out⟩
end Go.Proofs.Ytcjcimdembkbkaa
