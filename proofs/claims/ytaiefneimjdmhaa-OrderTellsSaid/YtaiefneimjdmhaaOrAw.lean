/- naskhlaw29.awake; what order.Visual and the reference answer, as numbers. -/
import Derived.Test.YtaiefneimjdmhaaOrVi
import Derived.Test.YtaiefneimjdmhaaOrPm
import Derived.Test.YtaiefneimjdmhaaRoX
import Derived.Test.YtaiefneimjdmhaaEq
namespace Go.Proofs.Ytaiefneimjdmhaa
open Go.RowKit

/-- In which order places are seen, as numbers. -/
def visI (ls : List Int) : List Int := (visF ls).map fun i => ((i : Nat) : Int)
theorem visI_len (ls : List Int) : (visI ls).length = ls.length := by unfold visI; rw [List.length_map, vis_len]
theorem visI_perm (ls : List Int) : permB (visI ls) = true := by
  have hp := vis_perm ls
  apply decide_eq_true
  refine ⟨fun x hx => ?_, ?_⟩
  · obtain ⟨i, hi, rfl⟩ := List.mem_map.1 hx
    have := List.mem_range.1 (hp.mem_iff.1 hi)
    rw [visI_len]
    omega
  · unfold visI
    rw [List.Nodup, List.pairwise_map]
    exact ((hp.nodup_iff.2 List.nodup_range) : (visF ls).Nodup).imp (fun {a b} h e => h (by omega))
theorem visI_nat (ls : List Int) : natL (visI ls) = visF ls := by
  unfold natL visI
  rw [List.map_map]
  exact List.map_id'' (fun x => by simp) _
theorem orVis_any (A : Option Addr) (n c : Nat) (ls : List Int) (w : World) (hr : Rd w 1 A n (ls.map (Value.int .i64))) (hn : n ≤ 100000) :
    Calls Try.prog 11 #[.slice A n c] w fun e w' => ∃ v, e = .returned v ∧ w'.ownsRow w.heap.size 3 1 v n ((visI ls).map (Value.int .i64)) ∧ Below w.heap.size w w' := by
  have := orVisual_any A n c ls w hr hn
  rw [natV_ints] at this
  exact this
theorem roVis_any (A : Option Addr) (n c : Nat) (ls : List Int) (w : World) (hr : Rd w 1 A n (ls.map (Value.int .i64))) (hn : n ≤ 100000) :
    Calls Try.prog 13 #[.slice A n c] w fun e w' => ∃ v, e = .returned v ∧ w'.ownsRow w.heap.size 3 1 v n ((visI ls).map (Value.int .i64)) ∧ Below w.heap.size w w' := by
  have h := roVisual_any A n c ls w hr hn
  have e : nV (visF ls) = (visI ls).map (Value.int .i64) := by unfold nV visI; rw [List.map_map]; rfl
  rw [e] at h
  exact h
theorem or_awake : visI [0, 1, 1, 0] = [0, 2, 1, 3] := by decide +kernel
theorem or_awake2 : permB [1, 0] = true := by decide +kernel
set_option maxRecDepth 100000 in
set_option maxHeartbeats 2000000 in
theorem awakeOr_any (w : World) : Calls Try.prog 10 #[] w fun e w' => e = .returned (.bool true) ∧ Below w.heap.size w w' := by
  have HV := Lib.hid (orVis_any (some ⟨w.heap.size, 0, none⟩) 4 4 [0, 1, 1, 0] _ (Rd.new_ w [.int .i64 0, .int .i64 1, .int .i64 1, .int .i64 0] 3) (by omega))
  rw [or_awake] at HV
  have HP := Lib.hid (fun W => orPermutes_any (some ⟨W.heap.size, 0, none⟩) 2 2 [1, 0] _ (Rd.new_ W [.int .i64 1, .int .i64 0] 3) (by omega))
  rw [or_awake2] at HP
  have HB1 := Lib.hid (below_new w (.cells #[.int .i64 0, .int .i64 1, .int .i64 1, .int .i64 0] 3))
  go_enter Try.func10, Try.ntmps10
  go_wp2_with (first
    | (go_at_call 11; refine HV.out.mono ?_; rintro e w3 ⟨v3, rfl, hv3, hb3⟩; obtain ⟨A3, c3, he3, _⟩ := own_form hv3; subst he3; have HV3 := Lib.hid hv3; have HB3 := Lib.hid (below_self HB1.out hb3); clear hv3 hb3)
    | (go_at_call 12; refine (equalInt_b A3 (some ⟨w3.heap.size, 0, none⟩) 4 4 c3 4 [0, 2, 1, 3] [0, 2, 1, 3] (w3.alloc (.cells #[.int .i64 0, .int .i64 2, .int .i64 1, .int .i64 3] 3)) ((Rd.of_own HV3.out).alloc _) (Rd.new_ w3 [.int .i64 0, .int .i64 2, .int .i64 1, .int .i64 3] _) (by unfold maxLen; omega) (by unfold maxLen; omega)).mono ?_; rintro e w5 ⟨rfl, hb5⟩; have HB5 := Lib.hid (below_self HB3.out (below_self (below_new w3 _) hb5)); clear hb5)
    | (go_at_call 14; refine (HP.out _).mono ?_; rintro e w6 ⟨rfl, hb6⟩; have HB6 := Lib.hid (below_self HB5.out (below_self (below_new w5 _) hb6)); clear hb6)
    | fail)
  go_ret
  exact ⟨rfl, HB6.out⟩
end Go.Proofs.Ytaiefneimjdmhaa
