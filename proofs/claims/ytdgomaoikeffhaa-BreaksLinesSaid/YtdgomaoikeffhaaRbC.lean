/- naskhref28's Check and Split, walked. -/
import Derived.Test.YtdgomaoikeffhaaCutD
import Derived.Test.YtdgomaoikeffhaaCutR
import Derived.Test.YtdgomaoikeffhaaMem3
import Derived.BigQuiet
namespace Go.Proofs.Ytdgomaoikeffhaa
open Go.RowKit

/-- The parts that breaks make, and what is wrong with them. -/
def splitF (n : Int) (bs : List Int) : List Sp × Int := match cutFrom 0 n bs with
  | none => ([], 4)
  | some l => (if n < 1 then [] else l, 0)
theorem split_no {n : Int} {bs : List Int} (h : cutFrom 0 n bs = none) : splitF n bs = ([], 4) := by unfold splitF; rw [h]
theorem split_yes {n : Int} {bs : List Int} {l : List Sp} (h : cutFrom 0 n bs = some l) : splitF n bs = (if n < 1 then [] else l, 0) := by unfold splitF; rw [h]
theorem cut_out {lo hi b : Int} {bs : List Int} {k : Nat} (hb : bs[k]? = some b) (h : b ≤ lo ∨ hi ≤ b) : cutFrom lo hi (bs.drop k) = none := by
  rw [List.drop_eq_getElem_cons (List.getElem?_eq_some_iff.1 hb).1, (List.getElem?_eq_some_iff.1 hb).2, cutFrom, if_pos h]
theorem cut_in {lo hi b : Int} {bs : List Int} {k : Nat} (hb : bs[k]? = some b) (h : ¬ (b ≤ lo ∨ hi ≤ b)) : (cutFrom lo hi (bs.drop k)).isNone = (cutFrom b hi (bs.drop (k + 1))).isNone := by
  rw [List.drop_eq_getElem_cons (List.getElem?_eq_some_iff.1 hb).1, (List.getElem?_eq_some_iff.1 hb).2, cutFrom, if_neg h]
  cases cutFrom b hi (bs.drop (k + 1)) <;> rfl
set_option maxRecDepth 100000 in
set_option maxHeartbeats 2000000 in
theorem rbCheck_any (n : Int) (A : Option Addr) (m c : Nat) (bs : List Int) (w : World) (hr : Rd w 1 A m (bs.map (Value.int .i64))) (hm : m ≤ 100000) :
    Calls Try.prog 15 #[.int .i64 n, .slice A m c] w fun e w' => e = .returned (.int .i64 (splitF n bs).2) ∧ ∃ q, w' = w.drewN q := by
  have hl : bs.length = m := by simpa using hr.len1
  have HL := Lib.hid hl
  have HR := Lib.hid hr
  clear hl hr
  go_enter Try.func15, Try.ntmps15
  go_wp2
  go_loopw [5, 6] (fun l i wr => ∃ (x : Int) (k q : Nat), k ≤ m ∧ l = .int .i64 x ∧ i = .int .i64 (k : Int) ∧ (cutFrom 0 n bs).isNone = (cutFrom x n (bs.drop k)).isNone ∧ wr = w.drewN q) (fun _ i _ => m - (intOf i).toNat)
  case atStart => exact ⟨0, 0, 0, Nat.zero_le _, rfl, rfl, rfl, rfl⟩
  case round =>
    obtain ⟨x, k, q, hk, rfl, rfl, he, rfl⟩ := hrel
    have HE := Lib.hid he
    clear he
    by_cases hlt : k < m
    · obtain ⟨b, hb⟩ : ∃ b, bs[k]? = some b := ⟨_, List.getElem?_eq_getElem (by rw [HL.out]; exact hlt)⟩
      obtain ⟨ad, rfl, hab, hcell⟩ := HR.out.at_ hlt
      have cb : w.cell? (ad.add k) = some (.int .i64 b) := hcell _ (by rw [List.getElem?_map, hb]; rfl)
      have hkm : (k : Int) < (m : Int) := by omega
      have hk0 : (0 : Int) ≤ (k : Int) := by omega
      have hk5 : (k : Int) ≤ 100000 := by omega
      have HBB := Lib.hid hb
      clear hcell hb
      by_cases hbx : b ≤ x
      · have d1 : decide (b ≤ x) = true := decide_eq_true hbx
        have HN := Lib.hid (split_no (Option.isNone_iff_eq_none.1 (HE.out.trans (by rw [cut_out HBB.out (.inl hbx)]; rfl))))
        clear hbx
        go_wp2
        go_ret
        exact ⟨by rw [HN.out]; rfl, q, rfl⟩
      · have d1 : decide (b ≤ x) = false := decide_eq_false hbx
        by_cases hbn : n ≤ b
        · have d2 : decide (n ≤ b) = true := decide_eq_true hbn
          have HN := Lib.hid (split_no (Option.isNone_iff_eq_none.1 (HE.out.trans (by rw [cut_out HBB.out (.inr hbn)]; rfl))))
          clear hbx hbn
          go_wp2
          go_ret
          exact ⟨by rw [HN.out]; rfl, q, rfl⟩
        · have d2 : decide (n ≤ b) = false := decide_eq_false hbn
          have HN := Lib.hid (HE.out.trans (cut_in HBB.out (by omega)))
          clear hbx hbn
          go_wp2
          go_roundw
          case rel => exact ⟨b, k + 1, q, by omega, rfl, by go_num, HN.out, rfl⟩
          case measure => simp [intOf]; omega
    · have hkm : ¬ (k : Int) < (m : Int) := by omega
      have HN := Lib.hid (show ∃ l, cutFrom 0 n bs = some l by
        have h1 := HE.out
        rw [List.drop_eq_nil_of_le (by rw [HL.out]; omega)] at h1
        cases h2 : cutFrom 0 n bs with
        | none => rw [h2] at h1; cases h1
        | some l => exact ⟨l, rfl⟩)
      have HS := Lib.hid (show (splitF n bs).2 = 0 by obtain ⟨l, h⟩ := HN.out; rw [split_yes h])
      go_wp2
      go_ret
      exact ⟨by rw [HS.out]; rfl, q, rfl⟩
set_option maxRecDepth 100000 in
set_option maxHeartbeats 2000000 in
theorem rbSplit_any (n : Int) (A : Option Addr) (m c : Nat) (bs : List Int) (w : World) (hr : Rd w 1 A m (bs.map (Value.int .i64))) (hm : m ≤ 100000) :
    Calls Try.prog 13 #[.int .i64 n, .slice A m c] w fun e w' => ∃ v, e = .returned (.tuple #[v, .int .i64 (splitF n bs).2]) ∧ w'.ownsRow w.heap.size 24 2 v (splitF n bs).1.length (cellsS (splitF n bs).1) ∧ Below w.heap.size w w' := by
  have HR := Lib.hid hr
  have HC := Lib.hid (rbCheck_any n A m c bs w hr hm)
  clear hr
  obtain ⟨E, hE⟩ : ∃ E, (splitF n bs).2 = E := ⟨_, rfl⟩
  rw [hE] at HC ⊢
  rcases hc : cutFrom 0 n bs with _ | l
  · have hs := split_no hc
    rw [hs] at hE ⊢
    subst hE
    have HNI : Hid (∀ w' : World, w'.ownsRow w.heap.size 24 2 (.slice none 0 0) 0 (cellsS [])) := Lib.hid fun w' => ⟨rfl, .inl ⟨rfl, rfl⟩⟩
    clear hc hs
    go_enter Try.func13, Try.ntmps13
    go_wp2_with (first
      | (go_at_call 15; refine HC.out.mono ?_; rintro e w1 ⟨rfl, q, rfl⟩)
      | fail)
    go_ret2
    exact ⟨_, rfl, HNI.out _, drewBelow q⟩
  · have hs := split_yes hc
    rw [hs] at hE ⊢
    subst hE
    by_cases hn1 : n < 1
    · rw [if_pos hn1]
      have d1 : decide (n < 1) = true := decide_eq_true hn1
      have HNI : Hid (∀ w' : World, w'.ownsRow w.heap.size 24 2 (.slice none 0 0) 0 (cellsS [])) := Lib.hid fun w' => ⟨rfl, .inl ⟨rfl, rfl⟩⟩
      clear hc hs
      go_enter Try.func13, Try.ntmps13
      go_wp2_with (first
        | (go_at_call 15; refine HC.out.mono ?_; rintro e w1 ⟨rfl, q, rfl⟩)
        | fail)
      go_ret2
      exact ⟨_, rfl, HNI.out _, drewBelow q⟩
    · rw [if_neg hn1]
      have d1 : decide (n < 1) = false := decide_eq_false hn1
      have HCU := Lib.hid hc
      have hrt : rightB (0, n) = true := by simp [rightB]; omega
      have HCT : Hid (∀ W : World, Rd W 1 A m (bs.map (Value.int .i64)) → Calls Try.prog 28 #[.agg #[.int .i64 0, .int .i64 n], .slice A m c] W fun e w' => ∃ v, e = .returned (.tuple #[v, .int .i64 0]) ∧ w'.ownsRow W.heap.size 24 2 v l.length (cellsS l) ∧ Below W.heap.size W w') := Lib.hid fun W h => (refCut_any 0 n A m c bs W h (by omega)).mono (by
        rintro e w2 (⟨h2, -⟩ | ⟨-, h2, -⟩ | ⟨-, l', v, h2, rfl, ho, hb⟩)
        · exact absurd (hrt.symm.trans h2) (by decide)
        · exact absurd (hc.symm.trans h2) (by simp)
        · obtain rfl := Option.some.inj (h2.symm.trans hc)
          exact ⟨v, rfl, ho, hb⟩)
      clear hc hs hrt
      go_enter Try.func13, Try.ntmps13
      go_wp2_with (first
        | (go_at_call 15; refine HC.out.mono ?_; rintro e w1 ⟨rfl, q, rfl⟩)
        | (go_at_call 28; refine (HCT.out _ (HR.out.drewN q)).mono ?_; rintro e w2 ⟨v, rfl, ho, hb⟩; have HO := Lib.hid ho; have HBW := Lib.hid (show Below w.heap.size w w2 from (drewBelow q).trans (hb.mono (Nat.le_refl _))); clear ho hb)
        | fail)
      go_ret2
      exact ⟨_, rfl, HO.out, HBW.out⟩
end Go.Proofs.Ytdgomaoikeffhaa
