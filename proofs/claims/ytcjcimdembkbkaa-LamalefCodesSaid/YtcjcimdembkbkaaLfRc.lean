/- The reference's Codes. -/
import Derived.Test.YtcjcimdembkbkaaLfC
import Derived.Test.YtcjcimdembkbkaaJnR
namespace Go.Proofs.Ytcjcimdembkbkaa
open Go.RowKit

set_option maxRecDepth 100000 in
set_option maxHeartbeats 8000000 in
theorem refCodes_any (A B C : Option Addr) (n m q c d f : Nat) (xs ts : List Int) (l : List Sp) (w : World) (hr : Rd w 1 A n (xs.map (Value.int .i64))) (hs : Rd w 1 B m (ts.map (Value.int .i64))) (hl : Rd w 2 C q (cellsS l)) (hm : m ≤ 1000000) (hq : q ≤ 1000000) :
    Calls Try.prog 35 #[.slice A n c, .slice B m d, .slice C q f] w fun e w' => (∃ v, e = .returned v ∧ w'.ownsRow w.heap.size 3 1 v q ((lcAll xs ts l).map (Value.int .i64))) ∧ Below w.heap.size w w' := by
  have hxl : xs.length = n := by simpa using hr.len1
  have hll : l.length = q := by have := hl.1; rw [cellsS_len] at this; omega
  have HR := Lib.hid hr
  have HS := Lib.hid hs
  have HL := Lib.hid hl
  have HXL := Lib.hid hxl
  have HLL := Lib.hid hll
  clear hr hs hl hxl hll
  go_enter Try.func35, Try.ntmps35
  go_wp2_with fail
  go_loopw [7, 8] (fun v i wr => ∃ (k : Nat) (acc : List Int), k ≤ q ∧ i = .int .i64 k ∧ wr.ownsRow w.heap.size 3 1 v k (acc.map (Value.int .i64)) ∧ acc = (lcAll xs ts l).take k ∧ Below w.heap.size w wr) (fun _ i _ => q - (intOf i).toNat)
  case atStart => exact ⟨0, [], Nat.zero_le _, rfl, ⟨rfl, .inl ⟨rfl, rfl⟩⟩, by simp, Below.refl _ _⟩
  case round =>
    obtain ⟨k, acc, hk, rfl, hown, hd, hb⟩ := hrel
    by_cases hlt : k < q
    · obtain ⟨p, hpk⟩ : ∃ p, l[k]? = some p := ⟨_, List.getElem?_eq_getElem (by rw [HLL.out]; exact hlt)⟩
      have hsp := (HL.out.below hb).span hpk
      obtain ⟨cd, rfl, hcd, p1, p2⟩ := hsp
      have hacc : acc ++ [lfCode ligV xs ts p] = (lcAll xs ts l).take (k + 1) := by rw [hd, List.take_add_one]; unfold lcAll; rw [List.getElem?_map, hpk]; rfl
      obtain ⟨a, b⟩ := p
      simp only at p1 p2
      have hnb := below_new wr (.cells #[.int .i64 a, .int .i64 b] 37)
      have hbz := below_self hb hnb
      have HO := Lib.hid (own_below hown hnb)
      have HBR := Lib.hid hb
      by_cases hin : 0 ≤ a ∧ a < (n : Int) ∧ 0 ≤ b ∧ b < (n : Int)
      · obtain ⟨i1, i2, i3, i4⟩ := hin
        obtain ⟨bn, rfl⟩ : ∃ bn : Nat, b = bn := ⟨b.toNat, by omega⟩
        have hbn : bn < n := by omega
        obtain ⟨y, hy⟩ : ∃ y, xs[bn]? = some y := ⟨_, List.getElem?_eq_getElem (by rw [HXL.out]; exact hbn)⟩
        have hyd : xs.getD bn 0 = y := by simp [hy]
        obtain ⟨qa, hqa⟩ : ∃ qa, jAhead ts a = qa := ⟨_, rfl⟩
        obtain ⟨j, hj⟩ : ∃ j, jJoined ts qa = j := ⟨_, rfl⟩
        obtain ⟨fv, hfv⟩ : ∃ fv, (if j = true then (2 : Int) else 1) = fv := ⟨_, rfl⟩
        obtain ⟨x, ok, hx⟩ : ∃ x ok, ligF y fv = (x, ok) := ⟨_, _, rfl⟩
        have hc0 : lfCode ligV xs ts (a, (bn : Int)) = x := by
          unfold lfCode
          rw [HXL.out]
          simp only
          rw [if_pos ⟨i1, i2, i3, i4⟩, Int.toNat_natCast, hyd, hqa, hj, hfv]
          unfold ligV; rw [hx]
        rw [hc0] at hacc
        have HX := Lib.hid hacc
        have HA := Lib.hid (fun w1 (h : Rd w1 1 B m (ts.map (Value.int .i64))) => refAhead_any B m d ts a w1 h hm)
        rw [hqa] at HA
        have HJ := Lib.hid (fun w1 (h : Rd w1 1 B m (ts.map (Value.int .i64))) => refJoined_of B m d ts qa j hj w1 h hm)
        have HLI := Lib.hid (fun w => refLigate_any y fv x ok hx w)
        have hcell := (HR.out.below HBR.out).at_ hbn
        obtain ⟨ad, rfl, had, hcc⟩ := hcell
        have cy : wr.cell? (ad.add bn) = some (.int .i64 y) := hcc _ (by rw [List.getElem?_map, hy]; rfl)
        have cy0 := cell_below hnb cy
        have ha0 : (wr.alloc (.cells #[.int .i64 a, .int .i64 bn] 37)).cell? ⟨wr.heap.size, 1, none⟩ = some (.int .i64 bn) := by rw [World.cell?_alloc_at _ _ _ _ rfl]; rfl
        clear hacc hd hb hown hpk hx hyd hy hcc hqa hj hc0
        cases j
        all_goals
          simp only [if_true, Bool.false_eq_true, if_false] at hfv
          subst hfv
          go_wp2_with (first
            | (go_at_call 16; with_reducible refine (HA.out _ (HS.out.below hbz)).mono ?_; rintro e w1 ⟨rfl, rfl⟩)
            | (go_at_call 20; with_reducible refine (HJ.out _ (HS.out.below hbz)).mono ?_; rintro e w2 ⟨rfl, hb2⟩; have cy2 := cell_below hb2 cy0; have ha2 := cell_below hb2 ha0)
            | (go_at_call 51; with_reducible refine (HLI.out _).mono ?_; rintro e w3 ⟨rfl, hb3⟩)
            | (at_builtin; refine wpList_app rfl _ _ _ rfl intSliceJ (by decide) _ k _ rfl ((own_below (own_below HO.out hb2) hb3).alloc _) _ 1 1 [.int .i64 _] rfl rfl (cell_one_new _ _ _) (oneInt _ _) (by omega) (by unfold maxLen; omega) (Nat.le_trans (below_self (below_self hbz hb2) hb3).size (by simp)) ?_; intro v1 w4 hown1 hg1 hat1)
            | fail)
          have hb4 := below_self (below_self hbz hb2) hb3
          have hgr := below_app (hb4.alloc hb4.size _) hg1 ((own_below (own_below HO.out hb2) hb3).alloc _) (Nat.le_trans hb4.size (by simp))
          go_roundw
          case rel => exact ⟨k + 1, _, by omega, by go_num, by simpa using hown1, HX.out, hgr⟩
          case measure => simp [intOf]; omega
      · have hc0 : lfCode ligV xs ts (a, b) = 0 := by
          unfold lfCode
          rw [HXL.out]
          exact if_neg hin
        rw [hc0] at hacc
        have HX := Lib.hid hacc
        have hway : b < 0 ∨ (0 ≤ b ∧ (n : Int) ≤ b) ∨ (0 ≤ b ∧ b < n ∧ a < 0) ∨ (0 ≤ b ∧ b < n ∧ 0 ≤ a ∧ (n : Int) ≤ a) := by omega
        have hcn : ∀ (j : Nat) (u : Value), [Value.int .i64 0][j]? = some u → ((wr.alloc (.cells #[.int .i64 a, .int .i64 b] 37)).alloc (.cells #[.int .i64 0] 3)).cell? ((⟨wr.heap.size + 1, 0, none⟩ : Addr).add j) = some u := by
          have h := cell_one_new (wr.alloc (.cells #[.int .i64 a, .int .i64 b] 37)) (.int .i64 0) 3
          rwa [World.size_alloc] at h
        have HCN := Lib.hid hcn
        clear hacc hd hb hown hpk hc0 hin hcn
        rcases hway with h1 | ⟨h1, h2⟩ | ⟨h1, h2, h3⟩ | ⟨h1, h2, h3, h4⟩
        all_goals
          go_wp2_with (first
            | (at_builtin; refine wpList_app rfl _ _ _ rfl intSliceJ (by decide) _ k _ rfl (HO.out.alloc _) ⟨wr.heap.size + 1, 0, none⟩ 1 1 [.int .i64 0] rfl rfl HCN.out (oneInt _ _) (by omega) (by unfold maxLen; omega) (Nat.le_trans hbz.size (by simp)) ?_; intro v1 w4 hown1 hg1 hat1)
            | fail)
          have hgr := below_app (hbz.alloc hbz.size _) hg1 (HO.out.alloc _) (Nat.le_trans hbz.size (by simp))
          go_roundw
          case rel => exact ⟨k + 1, _, by omega, by go_num, by simpa using hown1, HX.out, hgr⟩
          case measure => simp [intOf]; omega
    · obtain rfl : k = q := by omega
      rw [hd, List.take_of_length_le (by unfold lcAll; rw [List.length_map, HLL.out]; exact Nat.le_refl _)] at hown
      have HO := Lib.hid hown
      have HB := Lib.hid hb
      clear hown hd hb
      go_wp2_with fail
      go_ret
      exact ⟨⟨_, rfl, HO.out⟩, HB.out⟩
end Go.Proofs.Ytcjcimdembkbkaa
