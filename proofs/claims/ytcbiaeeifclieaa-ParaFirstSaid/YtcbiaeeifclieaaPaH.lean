/- para's Level, walked. -/
import Derived.Test.YtcbiaeeifclieaaPaG
namespace Go.Proofs.Ytcbiaeeifclieaa
open Go.RowKit

set_option maxRecDepth 100000 in
set_option maxHeartbeats 1000000 in
theorem prLevel1_any (A : Option Addr) (n c bx : Nat) (xs : List Int) (other : Int) (w : World) (hr : Rd w 1 A n (xs.map (Value.int .i64))) (hn : n ≤ 1000000) (hnc : n ≤ c) (hbx : w.cell? ⟨bx, 0, none⟩ = some (.slice A n c)) :
    Calls Try.prog 57 #[.int .i64 other, .pointer (some ⟨bx, 0, none⟩)] w fun e w' => e = .returned (.int .i64 (if fstF xs 0 = -1 then other else fstF xs 0)) ∧ Below w.heap.size w w' := by
  have hlen : xs.length = n := by simpa using hr.len1
  have hall := spanOf_all xs
  rw [hlen] at hall
  have HF := Lib.hid (prFirst_any A n c xs 0 (n : Int) w hr hn hnc (by unfold Fit; omega) (by unfold Fit; omega))
  rw [show firstF xs (0, (n : Int)) = fstF xs 0 by unfold firstF; rw [hall]] at HF
  obtain ⟨f, hf⟩ : ∃ f, fstF xs 0 = f := ⟨_, rfl⟩
  rw [hf] at HF ⊢
  clear hr hlen hall hf
  by_cases h : f = -1
  · subst h
    rw [if_pos rfl]
    go_enter Try.func57, Try.ntmps57
    go_wp2_with fail
    refine HF.out.mono ?_
    rintro e w1 ⟨rfl, hb⟩
    go_wp2
    go_ret
    exact ⟨rfl, hb⟩
  · rw [if_neg h]
    have g : (f != -1) = true := by simp [h]
    clear h
    go_enter Try.func57, Try.ntmps57
    go_wp2_with fail
    refine HF.out.mono ?_
    rintro e w1 ⟨rfl, hb⟩
    go_wp2
    go_ret
    exact ⟨rfl, hb⟩
end Go.Proofs.Ytcbiaeeifclieaa
