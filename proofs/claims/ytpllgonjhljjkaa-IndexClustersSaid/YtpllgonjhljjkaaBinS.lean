/- slices.BinarySearch at []int, by the shelf's contract at this program's numbers. -/
import Derived.Test.YtpllgonjhljjkaaMem
import Derived.Shelf.Slices.SearchI
namespace Go.Proofs.Ytpllgonjhljjkaa
open Go.RowKit Go.Shelf

def binRen : Ren := ⟨fun | 25 => 64 | 31 => 72 | 32 => 73 | 37 => 77 | n => n, fun | 22 => 22 | 3 => 3 | 4 => 4 | 40 => 110 | 0 => 0 | n => n, fun | n => n⟩
theorem binLays : Go.Proofs.Lays2.n25 Try.prog binRen := {
  mixed := by kernel_rfl
  f25 := Try.func64.trans (congrArg some (by kernel_rfl))
  f31 := Try.func72.trans (congrArg some (by kernel_rfl))
  f32 := Try.func73.trans (congrArg some (by kernel_rfl))
  f37 := Try.func77.trans (congrArg some (by kernel_rfl))
  t0 := Try.underlying0
  a0 := Try.isAgg0
  z0 := Try.sizeOf0
  v0 := Try.zeroValue0
  t3 := Try.underlying3
  a3 := Try.isAgg3
  z3 := Try.sizeOf3
  v3 := Try.zeroValue3
  t4 := Try.underlying4
  a4 := Try.isAgg4
  z4 := Try.sizeOf4
  v4 := Try.zeroValue4
  t22 := Try.underlying22
  a22 := Try.isAgg22
  z22 := Try.sizeOf22
  v22 := Try.zeroValue22
  t40 := Try.underlying110
  a40 := Try.isAgg110
  z40 := Try.sizeOf110
  v40 := Try.zeroValue110 }

/-- Of a sorted slice: how many elements are less, and whether the target is among them. -/
theorem binS_any (g n c : Nat) (zs : List Int) (x : Int) (w : World) (hz : zs.length = n) (hbig : n ≤ 1000000000) (hc : ∀ j u, (zs.map (Value.int .i64))[j]? = some u → w.cell? ⟨g, j, none⟩ = some u) (hs : zs.Pairwise (· ≤ ·)) :
    Calls Try.prog 64 #[.slice (some ⟨g, 0, none⟩) n c, .int .i64 x] w fun e w' => e = .returned (.tuple #[.int .i64 (zs.countP (· < x) : Nat), .bool (zs.contains x)]) ∧ Below w.heap.size w w' := by
  have h := Any.slices_BinarySearch_int binLays g 0 n c zs x w (by omega) (by omega) (fun j hj => by
    rw [Nat.zero_add]
    exact hc j _ (by simp [List.getElem?_eq_getElem hj, List.getD_eq_getElem?_getD])) (by rw [List.take_of_length_le (by omega)]; exact hs)
  rw [List.take_of_length_le (by omega)] at h
  exact h.mono fun _ _ ⟨he, q, hq⟩ => ⟨he, hq ▸ drewBelow q⟩
end Go.Proofs.Ytpllgonjhljjkaa
