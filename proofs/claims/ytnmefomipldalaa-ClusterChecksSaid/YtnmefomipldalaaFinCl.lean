/- cluster's clusters, walked. -/
import Derived.Test.YtnmefomipldalaaFinC
import Derived.Test.YtnmefomipldalaaFinLk
import Derived.Test.YtnmefomipldalaaClD
namespace Go.Proofs.Ytnmefomipldalaa
open Go.RowKit

def NC.cl (x : NC) : Cl := (((x.a : Int), (x.b : Int)), ((x.c : Int), (x.d : Int)))
theorem clusL_some {M : Nat → Option Sp} {m : Nat} (hv : ∀ k s, M k = some s → ∃ a b : Nat, s = ((a : Int), (b : Int)) ∧ a < b ∧ b ≤ m) {k y z : Nat} (h : M k = some ((y : Int), (z : Int))) : clusL M (k + 1) = clusL M k ++ [⟨if clusL M k = [] then 0 else k, k + 1, y, z⟩] := by
  obtain ⟨h1, h2⟩ := clus_inv hv k
  have e : clusAt M (k + 1) = ((clusAt M k).1 ++ (clusAt M k).2.toList, some ⟨if (clusAt M k).2 = none then 0 else k, k + 1, y, z⟩) := by
    rw [clusAt, h]; simp
  unfold clusL
  rw [e]
  rcases ho : (clusAt M k).2 with _ | x
  · rw [(h1 ho).1]; simp
  · simp
theorem clusL_none {M : Nat → Option Sp} {m : Nat} (hv : ∀ k s, M k = some s → ∃ a b : Nat, s = ((a : Int), (b : Int)) ∧ a < b ∧ b ≤ m) {k : Nat} (h : M k = none) : (clusL M k = [] ∧ clusL M (k + 1) = []) ∨ ∃ D x, clusL M k = D ++ [x] ∧ clusL M (k + 1) = D ++ [{ x with b := k + 1 }] := by
  obtain ⟨h1, h2⟩ := clus_inv hv k
  have e : clusAt M (k + 1) = ((clusAt M k).1, (clusAt M k).2.map fun x => { x with b := k + 1 }) := by rw [clusAt, h]
  unfold clusL
  rw [e]
  rcases ho : (clusAt M k).2 with _ | x
  · left; rw [(h1 ho).1]; simp
  · right; exact ⟨(clusAt M k).1, x, by simp, by simp⟩
theorem clusL_len (M : Nat → Option Sp) : ∀ k, (clusL M k).length ≤ k
  | 0 => by simp [clusL, clusAt]
  | k + 1 => by
    have h := clusL_len M k
    unfold clusL at h ⊢
    rw [clusAt]
    rcases hM : M k with _ | s
    · rcases ho : (clusAt M k).2 with _ | x
      · rw [ho] at h; simp at h ⊢; omega
      · rw [ho] at h; simp at h ⊢; omega
    · rcases ho : (clusAt M k).2 with _ | x
      · rw [ho] at h; simp at h ⊢; omega
      · rw [ho] at h; simp at h ⊢; omega
theorem cellsC_hi (D : List Cl) (x : Cl) (b : Int) : (cellsC (D ++ [x])).set (D.length * 4 + 1) (.int .i64 b) = cellsC (D ++ [((x.1.1, b), x.2)]) := by
  rw [cellsC_snoc, cellsC_snoc, List.set_append_right _ _ (by rw [cellsC_len]; omega), cellsC_len]
  rw [show D.length * 4 + 1 - D.length * 4 = 1 by omega]
  rfl
theorem MapAt.len {w : World} {m n : Nat} {M : Nat → Option Sp} (h : MapAt w m n M) (ty : TypeId) : (Builtin.len_ #[115] ty #[.map (some m)]).run Try.prog w = .ok (.int .i64 (cntM M n : Nat)) w := by
  obtain ⟨D, h1, h2, _⟩ := h
  rw [h1.len map_type ty, h2]
set_option maxRecDepth 100000 in
set_option maxHeartbeats 2000000 in
theorem clusters_any (B : Blk) (n m : Nat) (A : Sd) (hn : n ≤ 100000000) (hO : Ok n m A) (w : World) (hA : SdAt w B n A) :
    Calls Try.prog 50 #[.pointer (some ⟨B.b, 0, none⟩), .int .i64 (n : Int)] w fun e' w' => ∃ v, e' = .returned v ∧ w'.ownsRow w.heap.size 33 4 v (clusL A.M n).length (cellsC ((clusL A.M n).map NC.cl)) ∧ Below w.heap.size w w' := by
  have HV := Lib.hid hO.val
  have HA := Lib.hid hA
  have hlen := hA.map.len
  have c2 := hA.c2
  have hcl := cntM_le A.M n
  clear hA hO
  obtain ⟨cn, hcn⟩ : ∃ cn, cntM A.M n = cn := ⟨_, rfl⟩
  rw [hcn] at hcl
  simp only [hcn] at hlen
  clear hcn
  go_enter Try.func50, Try.ntmps50
  go_wp2_with (at_make; refine wpList_mk rfl _ _ _ rfl clusSlice (base := w.heap.size) _ cn rfl rfl rfl (by omega) (by unfold maxLen; omega) (Nat.le_refl _) ?_; intro v0 w3 hown0 hg0)
  have hb3 := below_make hg0
  clear hlen c2 hg0
  go_loopw [5, 6, 17] (fun v z i wr => ∃ k : Nat, k ≤ n ∧ i = .int .i64 (k : Int) ∧ z = .int .i64 ((if clusL A.M k = [] then 0 else k : Nat) : Int) ∧ wr.ownsRow w.heap.size 33 4 v (clusL A.M k).length (cellsC ((clusL A.M k).map NC.cl)) ∧ Below w.heap.size w wr) (fun _ _ i _ => n - (intOf i).toNat)
  case atStart => exact ⟨0, Nat.zero_le _, rfl, rfl, hown0, hb3⟩
  case round =>
    obtain ⟨k, hk, rfl, rfl, hown, hb⟩ := hrel
    have hA := HA.out.old (Kept.of_below hb [])
    have c2 := hA.c2
    have hlk := hA.map.look_ok (k := k) (by omega)
    clear hA
    obtain ⟨bg, hbg⟩ : ∃ bg : Nat, (if clusL A.M k = [] then 0 else k) = bg := ⟨_, rfl⟩
    simp only [hbg]
    have hbgn : bg ≤ k := by rw [← hbg]; split <;> omega
    by_cases hlt : k < n
    · rcases hM : A.M k with _ | s
      · rw [hM] at hlk
        unfold valS at hlk
        simp only [Option.getD_none, Option.isSome_none] at hlk
        have hown1 := hown.alloc (.cells #[.int .i64 0, .int .i64 0] 31)
        have hb1 := hb.alloc hb.size (.cells #[.int .i64 0, .int .i64 0] 31)
        rcases clusL_none HV.out hM with ⟨e1, e2⟩ | ⟨D, x, e1, e2⟩
        · rw [e1] at hown1
          have HE := Lib.hid (And.intro e1 e2)
          have hl0 : (clusL A.M k).length = 0 := by rw [e1]; rfl
          have hb0 : bg = 0 := by rw [← hbg, if_pos e1]
          obtain ⟨L0, c0, hu, _⟩ := own_form hown1
          subst hu
          clear e1 e2 hM hown hbg
          subst hb0
          go_wp2_with fail
          go_roundw
          case rel => exact ⟨k + 1, by omega, by go_num, by rw [HE.out.2]; rfl, by rw [HE.out.2]; exact hown1, hb1⟩
          case measure => simp [intOf]; omega
        · rw [e1] at hown1
          obtain ⟨q, hq⟩ : ∃ q, D.length = q := ⟨_, rfl⟩
          have HE := Lib.hid (And.intro e2 hq)
          simp only [List.length_append, List.length_cons, List.length_nil, Nat.zero_add, hq] at hown1
          obtain ⟨g, c0, rfl, hbg2, hgl⟩ := hown1.form (by omega)
          obtain ⟨⟨u, hu⟩, hfz⟩ := own_slot hown1 (j := q * 4 + 1) (by omega)
          have hst := (hown1.stored (q * 4 + 1) (.int .i64 ((k : Int) + 1))).1
          have hq2 : q ≤ 100000000 := by
            have := clusL_len A.M k
            rw [e1, List.length_append, hq] at this
            simp at this
            omega
          have h9 := cellsC_hi (D.map NC.cl) x.cl ((k : Int) + 1)
          rw [List.length_map, hq] at h9
          rw [List.map_append, show List.map NC.cl [x] = [x.cl] from rfl, h9] at hst
          have e3 : (clusL A.M (k + 1)).map NC.cl = D.map NC.cl ++ [((x.cl.1.1, (k : Int) + 1), x.cl.2)] := by rw [e2, List.map_append]; rfl
          have e4 : (clusL A.M (k + 1)).length = q + 1 := by rw [e2, List.length_append, hq]; rfl
          rw [← e3] at hst
          have HST := Lib.hid hst
          have HL4 := Lib.hid e4
          have hb2 := hb1.setCell (p := ⟨g, q * 4 + 1, none⟩) hbg2 (.int .i64 ((k : Int) + 1))
          have hne : ¬(clusL A.M (k + 1) = []) := by rw [e2]; simp
          have HNE := Lib.hid hne
          clear e1 e2 e3 e4 h9 hM hown hown1 hst hq hbg hne
          go_wp2_with fail
          go_roundw
          case rel => exact ⟨k + 1, by omega, by go_num, by rw [if_neg HNE.out]; go_num, by rw [HL4.out]; exact HST.out, hb2⟩
          case measure => simp [intOf]; omega
      · obtain ⟨y, z, rfl, _, _⟩ := HV.out _ _ hM
        rw [hM] at hlk
        unfold valS at hlk
        simp only [Option.getD_some, Option.isSome_some] at hlk
        have hsm := clusL_some HV.out hM
        rw [hbg] at hsm
        obtain ⟨q, hq⟩ : ∃ q, (clusL A.M k).length = q := ⟨_, rfl⟩
        have hq2 : q ≤ 100000000 := by have := clusL_len A.M k; omega
        have HSM := Lib.hid hsm
        have HQ := Lib.hid hq
        rw [hq] at hown
        have hown' := (hown.alloc (.cells #[.int .i64 (y : Int), .int .i64 (z : Int)] 31)).alloc (.cells #[.int .i64 (bg : Int), .int .i64 0, .int .i64 (y : Int), .int .i64 (z : Int)] 33)
        have hb2 := (hb.alloc hb.size (.cells #[.int .i64 (y : Int), .int .i64 (z : Int)] 31)).alloc (Nat.le_trans hb.size (by simp)) (.cells #[.int .i64 (bg : Int), .int .i64 0, .int .i64 (y : Int), .int .i64 (z : Int)] 33)
        have hnw := cells_new (wr.alloc (.cells #[.int .i64 (y : Int), .int .i64 (z : Int)] 31)) [.int .i64 (bg : Int), .int .i64 0, .int .i64 (y : Int), .int .i64 (z : Int)] 33
        rw [World.size_alloc] at hnw
        have HW := Lib.hid hnw
        clear hsm hq hM hnw hown hbg
        go_wp2_with (at_builtin; refine wpList_app rfl _ _ _ rfl clusSlice (by decide) u5 q _ rfl hown' ⟨wr.heap.size + 1, 0, none⟩ 1 1 _ rfl rfl HW.out (oneInt4 _ _ _ _ _) (by omega) (by unfold maxLen; omega) hb2.size ?_; intro v1 w1 hown1 hg1 hat1; have hb3 := below_app hb2 hg1 hown' hb2.size; obtain ⟨g, c0, rfl, hbg2, hgl⟩ := hown1.form (by omega); obtain ⟨⟨u, hu⟩, hfz⟩ := own_slot hown1 (j := q * 4 + 1) (by omega))
        have hst := (hown1.stored (q * 4 + 1) (.int .i64 ((k : Int) + 1))).1
        have h9 := cellsC_hi ((clusL A.M k).map NC.cl) (((bg : Int), 0), ((y : Int), (z : Int))) ((k : Int) + 1)
        rw [cellsC_snoc, List.length_map, HQ.out] at h9
        rw [h9] at hst
        have e3 : (clusL A.M (k + 1)).map NC.cl = (clusL A.M k).map NC.cl ++ [(((bg : Int), (k : Int) + 1), ((y : Int), (z : Int)))] := by rw [HSM.out, List.map_append]; rfl
        have e4 : (clusL A.M (k + 1)).length = q + 1 := by rw [HSM.out, List.length_append, HQ.out]; rfl
        have hne : ¬(clusL A.M (k + 1) = []) := by rw [HSM.out]; simp
        rw [← e3] at hst
        have hb4 := hb3.setCell (p := ⟨g, q * 4 + 1, none⟩) hbg2 (.int .i64 ((k : Int) + 1))
        go_roundw
        case rel => exact ⟨k + 1, by omega, by go_num, by rw [if_neg hne]; go_num, by rw [e4]; exact hst, hb4⟩
        case measure => simp [intOf]; omega
    · have HKN := Lib.hid (show k = n by omega)
      go_wp2_with fail
      go_ret
      exact ⟨u5, rfl, by rw [← HKN.out]; exact hown, hb⟩
end Go.Proofs.Ytnmefomipldalaa
