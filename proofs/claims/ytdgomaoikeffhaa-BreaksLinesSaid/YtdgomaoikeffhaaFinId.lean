/- cluster's Identity, walked. -/
import Derived.Test.YtdgomaoikeffhaaCliD
import Derived.Test.YtdgomaoikeffhaaMem3
namespace Go.Proofs.Ytdgomaoikeffhaa
open Go.RowKit

set_option maxRecDepth 100000 in
set_option maxHeartbeats 1000000 in
theorem prIdentity_any (n : Nat) (w : World) (hn : n ≤ 1000000) :
    Calls Try.prog 26 #[.int .i64 (n : Int)] w fun e w' => ∃ v, e = .returned v ∧ w'.ownsRow w.heap.size 63 4 v n (cellsC (identS n)) ∧ Below w.heap.size w w' := by
  have HLN := Lib.hid (identS_len n)
  go_enter Try.func26, Try.ntmps26
  go_wp2_with (at_make; refine wpList_mkZ rfl _ _ _ rfl Try.underlying51 clusInfo (z0 := .int .i64 0) (by decide) (by intro j hj; match j, hj with | 0, _ => rfl | 1, _ => rfl | 2, _ => rfl | 3, _ => rfl) (base := w.heap.size) (kl := .i64) (kc := .i64) n n n rfl rfl rfl rfl (by omega) (by unfold maxLen; omega) (Nat.le_refl _) ?_; intro w1 hown hg1)
  have hb1 := below_make (w := w) (w' := w1) hg1
  have HO := Lib.hid (show w1.ownsRow w.heap.size 63 4 (.slice (some ⟨w.heap.size, 0, none⟩) n n) n (fillC (identS n) 0) by rw [fillC_start, HLN.out]; exact hown)
  clear hown hg1
  go_loopw [15] (fun i wr => ∃ k : Nat, k ≤ n ∧ i = .int .i64 (k : Int) ∧ wr.ownsRow w.heap.size 63 4 (.slice (some ⟨w.heap.size, 0, none⟩) n n) n (fillC (identS n) k) ∧ Below w.heap.size w wr) (fun i _ => n - (intOf i).toNat)
  case atStart => exact ⟨0, Nat.zero_le _, rfl, HO.out, hb1⟩
  case round =>
    obtain ⟨k, hk, rfl, hown, hbr⟩ := hrel
    clear HO hb1
    by_cases hlt : k < n
    · have HF := Lib.hid (fillC_step (l := identS n) (k := k) (s := (((k : Int), (k : Int) + 1), ((k : Int), (k : Int) + 1))) (by unfold identS; rw [List.getElem?_map, List.getElem?_range hlt]; rfl))
      have ha := hown.alloc (.cells #[.int .i64 (k : Int), .int .i64 ((k : Int) + 1)] 24)
      obtain ⟨⟨u0, x0⟩, z0⟩ := own_slot ha (j := k * 4) (by omega)
      obtain ⟨⟨u1, x1⟩, z1⟩ := own_slot ha (j := k * 4 + 1) (by omega)
      obtain ⟨⟨u2, x2⟩, z2⟩ := own_slot ha (j := k * 4 + 2) (by omega)
      obtain ⟨⟨u3, x3⟩, z3⟩ := own_slot ha (j := k * 4 + 3) (by omega)
      have HS := Lib.hid (own_store4 ha (k * 4) (.int .i64 (k : Int)) (.int .i64 ((k : Int) + 1)) (.int .i64 (k : Int)) (.int .i64 ((k : Int) + 1)))
      have hbe := ((((hbr.alloc hbr.size (.cells #[.int .i64 (k : Int), .int .i64 ((k : Int) + 1)] 24)).setCell (p := ⟨w.heap.size, k * 4, none⟩) (Nat.le_refl _) (.int .i64 (k : Int))).setCell (p := ⟨w.heap.size, k * 4 + 1, none⟩) (Nat.le_refl _) (.int .i64 ((k : Int) + 1))).setCell (p := ⟨w.heap.size, k * 4 + 2, none⟩) (Nat.le_refl _) (.int .i64 (k : Int))).setCell (p := ⟨w.heap.size, k * 4 + 3, none⟩) (Nat.le_refl _) (.int .i64 ((k : Int) + 1))
      clear hown ha
      go_wp2_with fail
      go_roundw
      case rel => exact ⟨k + 1, by omega, by go_num, by rw [← HF.out]; exact HS.out, hbe⟩
      case measure => simp [intOf]; omega
    · have hkn : k = n := by omega
      have HK := Lib.hid hkn
      clear hkn
      go_wp2_with fail
      go_ret
      exact ⟨_, rfl, by have h9 := fillC_end (identS n); rw [HLN.out] at h9; rw [HK.out, h9] at hown; exact hown, hbr⟩
end Go.Proofs.Ytdgomaoikeffhaa
