/- In which order places are seen, as numbers: what the reference answers. -/
import Derived.Test.YtbnjflkafdkcpaaRoX
import Derived.Test.YtbnjflkafdkcpaaRoQ
namespace Go.Proofs.Ytbnjflkafdkcpaa
open Go.RowKit

/-- In which order places are seen, as numbers. -/
def visI (ls : List Int) : List Int := (visF ls).map fun i => ((i : Nat) : Int)
theorem visI_len (ls : List Int) : (visI ls).length = ls.length := by unfold visI; rw [List.length_map, vis_len]
theorem visI_perm (ls : List Int) : permB (visI ls) = true := by
  have hp := vis_perm ls
  apply decide_eq_true
  refine ⟨fun x hx => ?_, ?_⟩
  · obtain ⟨i, hi, rfl⟩ := List.mem_map.1 hx
    have := List.mem_range.1 (hp.mem_iff.1 hi)
    rw [visI_len]
    omega
  · unfold visI
    rw [List.Nodup, List.pairwise_map]
    exact ((hp.nodup_iff.2 List.nodup_range) : (visF ls).Nodup).imp (fun {a b} h e => h (by omega))
theorem visI_nat (ls : List Int) : natL (visI ls) = visF ls := by
  unfold natL visI
  rw [List.map_map]
  exact List.map_id'' (fun x => by simp) _
theorem roVis_any (A : Option Addr) (n c : Nat) (ls : List Int) (w : World) (hr : Rd w 1 A n (ls.map (Value.int .i64))) (hn : n ≤ 100000) :
    Calls Try.prog 15 #[.slice A n c] w fun e w' => ∃ v, e = .returned v ∧ w'.ownsRow w.heap.size 3 1 v n ((visI ls).map (Value.int .i64)) ∧ Below w.heap.size w w' := by
  have h := roVisual_any A n c ls w hr hn
  have e : nV (visF ls) = (visI ls).map (Value.int .i64) := by unfold nV visI; rw [List.map_map]; rfl
  rw [e] at h
  exact h
end Go.Proofs.Ytbnjflkafdkcpaa
