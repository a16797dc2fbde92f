/- make of ints, as a run. -/
import Derived.Test.YtflbiblkphaagaaHp
import Derived.Laws.MakeOwn
namespace Go.Proofs.Ytflbiblkphaagaa
open Go.RowKit
theorem mk_intsZ (n : Nat) (hn : n ≤ 100000000) (w : World) : (Instr.makeSlice 55 (.int .i64 (n : Int)) (.int .i64 (n : Int))).run Try.prog w = .ok (.slice (some ⟨w.heap.size, 0, none⟩) n n) (w.alloc (.cells (intsZ (List.replicate n 0)).toArray 3)) := by
  have hin : (Try.prog.info? 3).map (fun i => (i.zero, i.size, i.bytes)) = some (some (.int .i64 0), 1, 8) := by kernel_rfl
  obtain ⟨i, h1, h2, h3, h4⟩ := info_parts hin
  have h := run_make (P := Try.prog) w 55 3 i (.int .i64 0) Try.underlying55 h1 h2 .i64 .i64 n n (by omega) (Int.le_refl _) (by rw [h4]; omega) (by omega)
  rw [h3] at h
  simp only [Int.toNat_natCast, Nat.mul_one] at h
  rw [h]
  refine congrArg (fun c => Result.ok _ (w.alloc (.cells c _))) ?_
  apply Array.toList_inj.1
  rw [show (Value.int .i64 0).cells = #[.int .i64 0] from rfl, toList_madeCells_one]
  simp [intsZ]
end Go.Proofs.Ytflbiblkphaagaa
