/- runs.line's level, walked. -/
import Derived.Test.YtaiefneimjdmhaaTnM
import Derived.BigQuiet
namespace Go.Proofs.Ytaiefneimjdmhaa
open Go.RowKit
set_option maxRecDepth 100000 in
set_option maxHeartbeats 1000000 in
theorem ruLevel_any (X : Nat → Obj → Prop) (b g n : Nat) (R : List (TnR Nat)) (w0 w : World) (h : LnAt 62 65 X b g n R w0 w) (k : Nat) (t : TnR Nat) (hk : R[k]? = some t) (hm : R.length ≤ 100002) :
    Calls Try.prog 53 #[.pointer (some ⟨g, 0, none⟩), .int .i64 (k : Int)] w fun e w' => e = .returned (.int .i64 (t.lev : Int)) ∧ ∃ q, w' = w.drewN q := by
  obtain ⟨gR, m, c, j, hRm, hmj, hmc, hgs, c0, f0, c1, f1⟩ := h.row hk
  rw [hRm] at hm
  obtain ⟨lv, hlv⟩ : ∃ lv : Int, (t.lev : Int) = lv := ⟨_, rfl⟩
  rw [hlv] at c1 ⊢
  have i1 : (m : Int) - 1 - (k : Int) = (j : Int) := by omega
  have i2 : (0 : Int) ≤ (j : Int) := by omega
  have i3 : (j : Int) < (m : Int) := by omega
  have i4 : (m : Int) ≤ 100002 := by omega
  have i5 : (k : Int) ≤ 100002 := by omega
  clear h hk hRm hmj hlv
  go_enter Try.func53, Try.ntmps53
  go_wp2
  go_quiet (fail)
  go_wp2
  go_ret
  exact ⟨rfl, _, rfl⟩
end Go.Proofs.Ytaiefneimjdmhaa
