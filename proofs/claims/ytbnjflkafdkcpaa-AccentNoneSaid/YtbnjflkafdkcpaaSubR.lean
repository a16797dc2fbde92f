/- What lies within a span, read. No function of the program. -/
import Derived.Test.YtbnjflkafdkcpaaSubD
import Derived.Test.YtbnjflkafdkcpaaLnE
import Derived.Test.YtbnjflkafdkcpaaMem
namespace Go.Proofs.Ytbnjflkafdkcpaa
open Go.RowKit

theorem subL_partF (xs : List Int) {lo hi : Nat} : subL xs ((lo : Int), (hi : Int)) = partF xs lo hi := by
  unfold subL partF
  simp only [Int.toNat_natCast]
  rw [List.drop_take]
theorem rd_sub {w : World} {ad : Addr} {n lo hi : Nat} {xs : List Int} (h : Rd w 1 (some ad) n (xs.map (Value.int .i64))) (hlh : lo < hi) (hhn : hi ≤ n) : Rd w 1 (some (ad.add lo)) (hi - lo) ((partF xs lo hi).map (Value.int .i64)) := by
  have hl : xs.length = n := by simpa using h.len1
  refine ⟨by rw [List.length_map, partF_len _ _ _ (by omega)]; omega, fun _ => ?_⟩
  obtain ⟨ad', e, hb, hc⟩ := h.2 (by omega)
  obtain rfl := Option.some.inj e
  refine ⟨_, rfl, by rw [blockAdd]; exact hb, fun j u hu => ?_⟩
  unfold partF at hu
  rw [List.getElem?_map, List.getElem?_take] at hu
  split at hu
  · rw [List.getElem?_drop] at hu
    have := hc (lo + j) u (by rw [List.getElem?_map]; exact hu)
    rwa [addAdd]
  · simp at hu
end Go.Proofs.Ytbnjflkafdkcpaa
