/- The reference's Decode of bytes hands back decN of the bytes. -/
import Derived.Test.YtoopchpolcfdaaaDoorDecN2
namespace Go.Proofs.YtoopchpolcfdaaaDoor
open Go.RowKit

theorem sizeN_illByte {x : Int} (h : 128 ≤ x) (h' : x ≤ 255) : sizeN (1114112 + x) = 1 := sizeN_ill (by omega) (by omega)
theorem refOf_one {x : Int} : refOf (x, 1) = -1 := rfl
theorem refOf_more {r : Int × Nat} (h : r.2 ≠ 1) : refOf r = r.1 := if_neg h

set_option maxHeartbeats 4000000 in
theorem refDecodeN_any (A : Option Addr) (n c : Nat) (us : List Int) (w : World) (hr : Rd w 1 A n (us.map (Value.int .u8))) (hu : ∀ x ∈ us, Byte8 x) (hm : n ≤ 1000000) (hc : n ≤ c) :
    Calls Tryd.prog 30 #[.slice A n c] w fun e w' => ∃ v, e = .returned v ∧ w'.ownsRow w.heap.size 3 1 v (decN us).length ((decN us).map (Value.int .i64)) ∧ Below w.heap.size w w' := by
  have hlen : us.length = n := by simpa using hr.len1
  have HL := Lib.hid hlen
  clear hlen
  go_enter Tryd.func30, Tryd.ntmps30
  go_wp2
  go_loopw [3, 4] (fun v i wr => ∃ (k : Nat) (acc : List Int), k ≤ n ∧ i = .int .i64 k ∧ wr.ownsRow w.heap.size 3 1 v acc.length (acc.map (Value.int .i64)) ∧ acc.length ≤ k ∧ decN us = acc ++ decN (us.drop k) ∧ Below w.heap.size w wr) (fun _ i _ => n - (intOf i).toNat)
  case atStart => exact ⟨0, [], Nat.zero_le _, rfl, ⟨rfl, .inl ⟨rfl, rfl⟩⟩, Nat.le_refl _, by simp, Below.refl _ _⟩
  case round =>
    obtain ⟨k, acc, hk, rfl, hown, hle, hd, hb⟩ := hrel
    have HD := Lib.hid hd
    clear hd
    by_cases hlt : k < n
    · have hcut := hr.cut (k := k) (cap := c) hk hc
      rw [Nat.mul_one, ← List.map_drop] at hcut
      have hu' : ∀ x ∈ us.drop k, Byte8 x := fun x hx => hu x (List.mem_of_mem_drop hx)
      have hne : us.drop k ≠ [] := by intro e; have := congrArg List.length e; rw [List.length_drop, HL.out] at this; simp at this; omega
      have hf1 : 1 ≤ (firstN (us.drop k)).2 := firstN4_pos _ _ _ _
      have hf2 := firstN_le _ hne
      rw [List.length_drop, HL.out] at hf2
      have HS := Lib.hid (decN_step _ hne)
      rw [List.drop_drop] at HS
      have hcs := firstN_cases _ hu'
      obtain ⟨x, hx⟩ : ∃ x, (us.drop k).getD 0 0 = x := ⟨_, rfl⟩
      have hxb := byte_getD hu' 0
      have hxk : us[k]? = some x := by
        rw [← hx, List.getD_eq_getElem?_getD, List.getElem?_drop, Nat.add_zero, List.getElem?_eq_getElem (by rw [HL.out]; exact hlt)]; rfl
      rw [hx] at hcs hxb
      obtain ⟨x0, x1⟩ := hxb
      have HF := Lib.hid (fun (W : World) (hW : Rd W 1 (if c = k then A else A.map (·.add (k * 1))) (n - k) ((us.drop k).map (Value.int .u8))) => refFirst_any _ (n - k) (c - k) (us.drop k) W hW hu' (by omega) (by omega) (by omega))
      obtain ⟨ad, rfl, hab, hcells⟩ := hr.2 (by omega)
      have hcx : w.cell? (ad.add k) = some (.int .u8 x) := hcells k _ (by rw [List.getElem?_map, hxk]; rfl)
      have hck : ¬ c = k := by omega
      rw [if_neg hck] at HF hcut
      simp only [Option.map_some, Nat.mul_one] at HF hcut
      clear hxk hcells hne hu' hx
      generalize firstN (us.drop k) = r at *
      rcases hcs with ⟨h1, rfl⟩ | ⟨h1, rfl⟩ | ⟨h1, h2, h3, h4⟩
      · have hz := sizeN_1 x0 h1
        rw [refOf_one] at HF
        go_wp2_with fail
        refine (HF.out _ (hcut.below hb)).mono ?_
        rintro e w1 ⟨rfl, hb1⟩
        have hb2 := below_go hb hb.size hb1
        have hown2 := own_below hown hb1
        have hcx2 : w1.cell? (ad.add k) = some (.int .u8 x) := (hb2.cell (by rw [blockAdd]; exact hab)).trans hcx
        clear hb1 HF
        go_wp2_with (first
          | (go_at_call 37; refine (refSizeN_any _ _).mono ?_; rintro e w' ⟨rfl, rfl⟩)
          | (at_builtin; refine wpList_app rfl _ _ _ rfl intSlice (by decide) u3 acc.length _ rfl (hown2.alloc _) ⟨w1.heap.size, 0, none⟩ 1 1 [.int .i64 (x)] rfl rfl (cell_one_new _ _ _) (oneInt _ _) (by omega) (by unfold maxLen; omega) (Nat.le_trans hb2.size (by simp)) ?_; intro v1 w2 hown1 hg1 hat1))
        have hgr := below_app (hb2.alloc hb2.size _) hg1 (hown2.alloc _) (Nat.le_trans hb2.size (by simp))
        go_roundw
        case rel => exact ⟨k + 1, acc ++ [x], by omega, by go_num, by simpa using hown1, by simp; omega, by rw [HD.out, HS.out]; simp, hgr⟩
        case measure => simp [intOf]; omega
      · have hz := sizeN_illByte h1 x1
        have hnx : ¬ x < 128 := by omega
        rw [refOf_one] at HF
        go_wp2_with fail
        refine (HF.out _ (hcut.below hb)).mono ?_
        rintro e w1 ⟨rfl, hb1⟩
        have hb2 := below_go hb hb.size hb1
        have hown2 := own_below hown hb1
        have hcx2 : w1.cell? (ad.add k) = some (.int .u8 x) := (hb2.cell (by rw [blockAdd]; exact hab)).trans hcx
        clear hb1 HF
        go_wp2_with (first
          | (go_at_call 37; refine (refSizeN_any _ _).mono ?_; rintro e w' ⟨rfl, rfl⟩)
          | (at_builtin; refine wpList_app rfl _ _ _ rfl intSlice (by decide) u3 acc.length _ rfl (hown2.alloc _) ⟨w1.heap.size, 0, none⟩ 1 1 [.int .i64 (1114112 + x)] rfl rfl (cell_one_new _ _ _) (oneInt _ _) (by omega) (by unfold maxLen; omega) (Nat.le_trans hb2.size (by simp)) ?_; intro v1 w2 hown1 hg1 hat1))
        have hgr := below_app (hb2.alloc hb2.size _) hg1 (hown2.alloc _) (Nat.le_trans hb2.size (by simp))
        go_roundw
        case rel => exact ⟨k + 1, acc ++ [1114112 + x], by omega, by go_num, by simpa using hown1, by simp; omega, by rw [HD.out, HS.out]; simp, hgr⟩
        case measure => simp [intOf]; omega
      · rw [refOf_more h2] at HF
        have hnx : ¬ x < 128 := by omega
        have hnn : ¬ r.1 < 0 := by omega
        clear h2
        obtain ⟨r1, r2⟩ := r
        simp only at h3 h4 HF HS hf1 hf2 hnn
        go_wp2_with fail
        refine (HF.out _ (hcut.below hb)).mono ?_
        rintro e w1 ⟨rfl, hb1⟩
        have hb2 := below_go hb hb.size hb1
        have hown2 := own_below hown hb1
        have hcx2 : w1.cell? (ad.add k) = some (.int .u8 x) := (hb2.cell (by rw [blockAdd]; exact hab)).trans hcx
        clear hb1 HF
        go_wp2_with (first
          | (go_at_call 37; refine (refSizeN_any _ _).mono ?_; rintro e w' ⟨rfl, rfl⟩)
          | (at_builtin; refine wpList_app rfl _ _ _ rfl intSlice (by decide) u3 acc.length _ rfl (hown2.alloc _) ⟨w1.heap.size, 0, none⟩ 1 1 [.int .i64 (r1)] rfl rfl (cell_one_new _ _ _) (oneInt _ _) (by omega) (by unfold maxLen; omega) (Nat.le_trans hb2.size (by simp)) ?_; intro v1 w2 hown1 hg1 hat1))
        have hgr := below_app (hb2.alloc hb2.size _) hg1 (hown2.alloc _) (Nat.le_trans hb2.size (by simp))
        go_roundw
        case rel => exact ⟨k + r2, acc ++ [r1], by omega, by go_num, by simpa using hown1, by simp; omega, by rw [HD.out, HS.out]; simp, hgr⟩
        case measure => simp [intOf]; omega
    · have HN := Lib.hid (show decN us = acc by rw [HD.out, List.drop_eq_nil_of_le (by rw [HL.out]; omega)]; simp [decN_nil])
      go_wp2
      go_ret
      exact ⟨u3, rfl, by rw [HN.out]; exact hown, hb⟩
end Go.Proofs.YtoopchpolcfdaaaDoor
