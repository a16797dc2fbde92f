/- Texts of one claim, one behind the other. -/
import Derived.Deep.LoopGhost
import Derived.Deep.DeepCutAuto
import Derived.Deep.CutRange
import Derived.BigQuiet
import Derived.Test.YtmgoakfnmgngoaaMgSm2
import Derived.Test.YtmgoakfnmgngoaaMgSm3
import Derived.Test.YtmgoakfnmgngoaaMgSm5
import Derived.Test.YtmgoakfnmgngoaaMgSm12
import Derived.Test.YtmgoakfnmgngoaaMgSm17
import Derived.Test.YtmgoakfnmgngoaaMgSm18
import Derived.Test.YtmgoakfnmgngoaaMgSm19
/- The reference's wrong, whatever comes in: it says the same as the program's errors. -/
namespace Go.Proofs.Ytmgoakfnmgngoaa
open Go.RowKit

theorem outed_fold {n m : Nat} (i : Nat) : ∀ (l : List Cl) (xs : List Bool), xs.length = m → (∀ x ∈ l, RealC n m x) → (l.foldl outStep xs).length = m ∧ ((l.foldl outStep xs)[i]? = some true ↔ xs[i]? = some true ∨ ∃ y ∈ l.map ncOf, y.c ≤ i ∧ i < y.d)
  | [], xs, hl, _ => ⟨hl, by simp⟩
  | c :: l, xs, hl, h => by
    obtain ⟨e, h1, h2, h3⟩ := h c (List.mem_cons_self ..)
    have e1 : outStep xs c = fillB xs (ncOf c).c (ncOf c).d := rfl
    have hb : (ncOf c).d ≤ xs.length := by omega
    have hle := Nat.le_of_lt h1.2
    obtain ⟨r1, r2⟩ := outed_fold i l (outStep xs c) (by rw [e1, fillB_len hle hb, hl]) (fun x hx => h x (List.mem_cons_of_mem _ hx))
    rw [List.foldl_cons]
    refine ⟨r1, r2.trans ?_⟩
    rw [e1, fillB_get hle hb]
    simp only [List.map_cons, List.mem_cons, exists_eq_or_imp]
    by_cases hc : (ncOf c).c ≤ i ∧ i < (ncOf c).d
    · simp [hc]
    · simp [hc]
theorem real_of {n m : Nat} {l : List Cl} (h : fitB (n : Int) (m : Int) l = true) : ∀ x ∈ l, RealC n m x := fun x hx => fitC_nat (fit_real h x hx)
theorem outed_cov {n m : Nat} {l : List Cl} (h : fitB (n : Int) (m : Int) l = true) : (outedS m l).all id = true ↔ CovP (m : Int) l := by
  have hf := fun i => outed_fold (n := n) (m := m) i l (List.replicate m false) (by simp) (real_of h)
  have hlen : (outedS m l).length = m := (hf 0).1
  have hi : ∀ i : Nat, i < m → ((outedS m l)[i]? = some true ↔ ∃ y ∈ l.map ncOf, y.c ≤ i ∧ i < y.d) := fun i hi => by
    refine (hf i).2.trans ?_
    rw [List.getElem?_replicate, if_pos hi]
    simp
  rw [List.all_eq_true]
  constructor
  · intro ha j h1 h2
    obtain ⟨v, hv⟩ : ∃ v, (outedS m l)[j.toNat]? = some v := ⟨_, List.getElem?_eq_getElem (by omega)⟩
    have hv1 : v = true := ha v (List.mem_of_getElem? hv)
    subst hv1
    obtain ⟨y, hy, h3, h4⟩ := (hi j.toNat (by omega)).1 hv
    obtain ⟨x, hx, rfl⟩ := List.mem_map.1 hy
    refine ⟨x.2, List.mem_map.2 ⟨x, hx, rfl⟩, ?_⟩
    rw [(real_of h x hx).1]
    simp only [NC.cl]
    omega
  · intro hc v hv
    obtain ⟨i, hiv⟩ := List.getElem?_of_mem hv
    have hlt := (List.getElem?_eq_some_iff.1 hiv).1
    obtain ⟨s, hs, h3, h4⟩ := hc (i : Int) (by omega) (by omega)
    obtain ⟨x, hx, rfl⟩ := List.mem_map.1 hs
    rw [(real_of h x hx).1] at h3 h4
    simp only [NC.cl] at h3 h4
    have := (hi i (by omega)).2 ⟨ncOf x, List.mem_map.2 ⟨x, hx, rfl⟩, by omega, by omega⟩
    rw [hiv] at this
    exact Option.some.inj this
theorem wrong_finE (n m : Nat) (l : List Cl) : wrongS n m l = finE (n : Int) (m : Int) l := by
  unfold wrongS finE
  cases hfit : fitB (n : Int) (m : Int) l with
  | false => simp
  | true =>
    rw [if_neg (show ¬ (true = false) by simp), if_neg (show ¬ (true = false) by simp)]
    by_cases h1 : m = 0 ∧ 0 < n
    · have k1 : (m : Int) = 0 ∧ (n : Int) ≠ 0 := ⟨by omega, by omega⟩
      rw [if_pos h1, if_pos k1]
    · have k1 : ¬ ((m : Int) = 0 ∧ (n : Int) ≠ 0) := fun h => h1 ⟨by omega, by omega⟩
      rw [if_neg h1, if_neg k1]
      by_cases h2 : n = 0 ∧ 0 < m
      · have k2 : (n : Int) = 0 ∧ (m : Int) ≠ 0 := ⟨by omega, by omega⟩
        rw [if_pos h2, if_pos k2]
      · have k2 : ¬ ((n : Int) = 0 ∧ (m : Int) ≠ 0) := fun h => h2 ⟨by omega, by omega⟩
        rw [if_neg h2, if_neg k2]
        by_cases h3 : CovP (m : Int) l
        · rw [if_pos h3, if_pos ((outed_cov hfit).2 h3)]
        · rw [if_neg h3, if_neg (fun h => h3 ((outed_cov hfit).1 h))]
set_option maxRecDepth 100000 in
set_option maxHeartbeats 1000000 in
theorem refWrong_out (n m : Int) (A : Option Addr) (q c : Nat) (w : World) (h : ¬ (0 ≤ n ∧ n ≤ 16777216 ∧ 0 ≤ m ∧ m ≤ 16777216)) :
    Calls Try.prog 51 #[.int .i64 n, .int .i64 m, .slice A q c] w fun e w' => e = .returned (.int .i64 1) ∧ Below w.heap.size w w' := by
  have hc : n < 0 ∨ (0 ≤ n ∧ 16777216 < n) ∨ (0 ≤ n ∧ n ≤ 16777216 ∧ m < 0) ∨ (0 ≤ n ∧ n ≤ 16777216 ∧ 0 ≤ m ∧ 16777216 < m) := by omega
  clear h
  have hb := Below.refl w.heap.size w
  go_enter Try.func51, Try.ntmps51
  rcases hc with h1 | ⟨h1, h2⟩ | ⟨h1, h2, h3⟩ | ⟨h1, h2, h3, h4⟩
  all_goals
    go_wp2_with fail
    go_ret
    exact ⟨rfl, hb⟩
theorem refWrong_all (n m : Int) (q c : Nat) (A : Option Addr) (l : List Cl) (w : World) (hr : Rd w 4 A q (cellsC l)) (hq : q ≤ 1000000) :
    Calls Try.prog 51 #[.int .i64 n, .int .i64 m, .slice A q c] w fun e w' => e = .returned (.int .i64 (finE n m l)) ∧ Below w.heap.size w w' := by
  by_cases h : 0 ≤ n ∧ n ≤ 16777216 ∧ 0 ≤ m ∧ m ≤ 16777216
  · obtain ⟨n1, n2, m1, m2⟩ := h
    obtain ⟨N, rfl⟩ := Int.eq_ofNat_of_zero_le n1
    obtain ⟨M, rfl⟩ := Int.eq_ofNat_of_zero_le m1
    rw [← wrong_finE]
    exact refWrong_any N M q c A l w hr hq (by omega) (by omega)
  · have hE : finE n m l = 1 := if_pos (by unfold fitB fitN; rw [decide_eq_false h]; rfl)
    rw [hE]
    exact refWrong_out n m A q c w h
end Go.Proofs.Ytmgoakfnmgngoaa
/- The reference's Finest where there is a map, walked. -/
namespace Go.Proofs.Ytmgoakfnmgngoaa
open Go.RowKit

theorem up0 {n k : Nat} (ys : List Int) : put (labs (upI 0 n k) ys) false ((labs (upI 0 n k) ys false).set k (k : Int)) = labs (upI 0 n (k + 1)) ys := by
  rw [put_false]
  congr 1
  have h := upI_succ (off := 0) (n := n) (k := k)
  rw [Int.zero_add] at h
  exact h
theorem up1 {n m k : Nat} (xs : List Int) : put (labs xs (upI (n : Int) m k)) true ((labs xs (upI (n : Int) m k) true).set k ((n : Int) + (k : Int))) = labs xs (upI (n : Int) m (k + 1)) := by
  rw [put_true]
  congr 1
  exact upI_succ (off := (n : Int)) (n := m) (k := k)
theorem labs_self (lab : Bool → List Int) : labs (lab false) (lab true) = lab := by funext t; cases t <;> rfl
set_option maxRecDepth 100000 in
set_option maxHeartbeats 4000000 in
theorem refFinest_ok (n m q c : Nat) (A : Option Addr) (l : List Cl) (l' : List NC) (w : World) (hr : Rd w 4 A q (cellsC l)) (hq : q ≤ 1000000) (hfit : fitB (n : Int) (m : Int) l = true) (hE : finE (n : Int) (m : Int) l = 0) (hn0 : n ≠ 0) (hne : l ≠ []) (hf : Finest (l.map ncOf ++ fillsOf n (l.map ncOf)) 0 n m l') :
    Calls Try.prog 17 #[.int .i64 (n : Int), .int .i64 (m : Int), .slice A q c] w fun e w' => ∃ v, e = .returned (.tuple #[v, .int .i64 0]) ∧ w'.ownsRow w.heap.size 33 4 v l'.length (cellsC (l'.map NC.cl)) ∧ Below w.heap.size w w' := by
  have hlen : l.length = q := by have := hr.1; rw [cellsC_len] at this; omega
  obtain ⟨n1, n2, m1, m2⟩ := fit_nums hfit
  have hnb : n ≤ 16777216 := by omega
  have hmb : m ≤ 16777216 := by omega
  have HREAL := Lib.hid (real_of hfit)
  have HF := Lib.hid (hf.same (all_fills HREAL.out hne))
  have HWR := Lib.hid (refWrong_all (n : Int) (m : Int) q c A l w hr hq)
  rw [hE] at HWR
  have HL := Lib.hid hlen
  have HR := Lib.hid hr
  have hmk1 := mk_intsZ n (by omega)
  have hmk2 := mk_intsZ m (by omega)
  clear hlen hr hf hne hE hfit n1 n2 m1 m2
  go_enter Try.func17, Try.ntmps17
  go_wp2_with fail
  refine HWR.out.mono ?_
  rintro e w1 ⟨rfl, hb1⟩
  go_upto_region 4 with fail
  go_cut [9, 10] (fun a b wx => ∃ gi go, a = .slice (some ⟨gi, 0, none⟩) n n ∧ b = .slice (some ⟨go, 0, none⟩) m m ∧ LabM wx gi go n m n m (labs (upI 0 n 0) (upI (n : Int) m 0)) ∧ Below w1.heap.size w1 wx ∧ w1.heap.size ≤ gi ∧ w1.heap.size ≤ go)
  case first =>
    go_wp2_with fail
    go_region
    all_goals (
      rename_i hJ hK
      refine hK _ _ (Met.intro (hJ _ _ ?_))
      (repeat apply Exists.intro)
      refine ⟨?_, rfl⟩)
    all_goals clear hJ hK
    all_goals rw [upI_zero, upI_zero]
    · exact ⟨w1.heap.size, w1.heap.size + 1, rfl, rfl, labM_new (w1 := w1) (two_heap w1 _ _).1 (two_heap w1 _ _).2.1 (by simp) (by simp) (by omega) (by omega) (by omega), (two_heap w1 _ _).2.2, by omega, by omega⟩
    · exact ⟨w1.heap.size + 1, w1.heap.size, rfl, rfl, labM_new (w1 := w1) (two_heap w1 _ _).2.1 (two_heap w1 _ _).1 (by simp) (by simp) (by omega) (by omega) (by omega), (two_heap w1 _ _).2.2, by omega, by omega⟩
  case rest =>
    clear hmk1 hmk2
    obtain ⟨gi, go, rfl, rfl, hM0, hbc, hgi, hgo⟩ := hcut
    have HM0 := Lib.hid hM0
    clear hM0
    go_wp2_with fail
    go_loopw [11] (fun i ws => ∃ k : Nat, i = .int .i64 (k : Int) ∧ k ≤ n ∧ LabM ws gi go n m n m (labs (upI 0 n k) (upI (n : Int) m 0)) ∧ Below w1.heap.size w1 ws) (fun i _ => n - (intOf i).toNat)
    case atStart => exact ⟨0, rfl, Nat.zero_le _, HM0.out, hbc⟩
    case round =>
      clear HM0 hbc
      obtain ⟨k, rfl, hk, hM, hb⟩ := hrel
      have HM := Lib.hid hM
      by_cases hlt : k < n
      · have hfx := hM.hi.frozenAt k
        obtain ⟨bj, hbj⟩ : ∃ bj, wr.cell? ⟨gi, k, none⟩ = some bj := ⟨_, by rw [hM.hi.cellAt k (by omega)]; exact List.getElem?_eq_getElem (by simp [labs, upI]; omega)⟩
        have HST := Lib.hid (by have h := hM.set_in k (k : Int); rw [up0] at h; exact h)
        have hbe := hb.setCell (p := ⟨gi, k, none⟩) hgi (.int .i64 (k : Int))
        clear hM hb
        go_wp2_with fail
        go_roundw
        case rel => exact ⟨k + 1, by go_num, by omega, HST.out, hbe⟩
        case measure => simp [intOf]; omega
      · have hkn : k = n := by omega
        subst hkn
        clear hM hlt
        go_wp2_with fail
        go_loopw [12] (fun i ws => ∃ j : Nat, i = .int .i64 (j : Int) ∧ j ≤ m ∧ LabM ws gi go k m k m (labs (upI 0 k k) (upI (k : Int) m j)) ∧ Below w1.heap.size w1 ws) (fun i _ => m - (intOf i).toNat)
        case atStart => exact ⟨0, rfl, Nat.zero_le _, HM.out, hb⟩
        case round =>
          clear HM hb
          obtain ⟨j, rfl, hj, hM, hb⟩ := hrel
          have HM := Lib.hid hM
          by_cases hlt : j < m
          · have hfx := hM.ho.frozenAt j
            obtain ⟨bj, hbj⟩ : ∃ bj, wr.cell? ⟨go, j, none⟩ = some bj := ⟨_, by rw [hM.ho.cellAt j (by omega)]; exact List.getElem?_eq_getElem (by simp [labs, upI]; omega)⟩
            have HST := Lib.hid (by have h := hM.set_out j ((k : Int) + (j : Int)); rw [up1] at h; exact h)
            have hbe := hb.setCell (p := ⟨go, j, none⟩) hgo (.int .i64 ((k : Int) + (j : Int)))
            clear hM hb
            go_wp2_with fail
            go_roundw
            case rel => exact ⟨j + 1, by go_num, by omega, HST.out, hbe⟩
            case measure => simp [intOf]; omega
          · have hjm : j = m := by omega
            subst hjm
            clear hlt
            have HBW := Lib.hid (below_self hb1 hb)
            have HRR := Lib.hid (HR.out.below HBW.out)
            have hg1 : gi < wr.heap.size := HM.out.lt.1
            have hg2 : go < wr.heap.size := HM.out.lt.2
            have HIN := Lib.hid (show ∀ x ∈ l, ∃ lo hi : Nat, x.1 = ((lo : Int), (hi : Int)) ∧ lo ≤ hi ∧ hi ≤ k from fun x hx => ⟨(ncOf x).a, (ncOf x).b, congrArg Prod.fst (HREAL.out x hx).1, Nat.le_of_lt (HREAL.out x hx).2.1.1, (HREAL.out x hx).2.2.1⟩)
            have HLEN := Lib.hid (show (linkedS k l).length = k from linked_len HREAL.out)
            clear hM hb
            go_wp2_with (at_builtin; refine wpList_appR rfl _ _ _ rfl clusSlice (by decide) (.slice none 0 0) 0 [] rfl (World.ownsRow_nil wr wr.heap.size _ _) A q c (cellsC l) rfl HRR.out (cellsC_one _) (by omega) (by unfold maxLen; omega) (Nat.le_refl _) ?_; intro v1 w2 hown1 hgr1 hat1; simp only [Nat.zero_add, List.nil_append] at hown1)
            have hb2 : Below wr.heap.size wr w2 := below_make (show wr.grownBy w2 none from hgr1)
            have HRR2 := Lib.hid (HRR.out.below hb2)
            refine (refLinked_any A k q c l w2 HRR2.out (by omega) (by omega) HIN.out).mono ?_
            rintro e w3 ⟨v2, rfl, hown2, hb3⟩
            obtain ⟨H, ch, rfl, _⟩ := own_form hown2
            obtain ⟨b0, hb0⟩ : ∃ b0, wr.heap.size = b0 := ⟨_, rfl⟩
            have HS0 := Lib.hid (show L3 w w3 gi go k j (lab0 k j) H ch (linkedS k l) b0 v1 (l ++ backTo (linkedS k l) 1) from
              ⟨(HM.out.below hb2).below hb3, own_base hown2 (Nat.zero_le _), by
                rw [backTo_one, List.append_nil, HL.out, ← hb0]; exact own_below hown1 hb3, by
                have h1 := HBW.out.size
                have h2 := hb2.size
                have h3 := hb3.size
                omega, by
                rcases hH : (Value.slice H k ch).ownBlock with _ | g
                · exact .inl rfl
                · refine .inr (fun e => ?_)
                  have h1 := (hown2.lt g hH).1
                  have h2 := (hown1.lt g e.symm).2
                  omega, below_self (below_self HBW.out hb2) hb3⟩)
            clear hown1 hgr1 hat1 hown2 hb2 hb3 hg1 hg2
            obtain ⟨hs, hhs⟩ : ∃ hs, linkedS k l = hs := ⟨_, rfl⟩
            rw [hhs] at HS0 HLEN
            have HHS := Lib.hid hhs
            clear hhs
            go_wp2_with fail
            clear hb0
            go_loopw [13, 15] (fun v i ws => ∃ t : Nat, 1 ≤ t ∧ t ≤ k ∧ i = .int .i64 (t : Int) ∧ L3 w ws gi go k j (lab0 k j) H ch hs b0 v (l ++ backTo hs t)) (fun _ i _ => k - (intOf i).toNat)
            case atStart => exact ⟨1, Nat.le_refl _, by omega, rfl, HS0.out⟩
            case round =>
              clear HS0
              obtain ⟨t, ht1, ht, rfl, hS⟩ := hrel
              have HS := Lib.hid hS
              have hbl := backTo_len hs t
              have hlb : (l ++ backTo hs t).length ≤ 20000000 := by rw [List.length_append, HL.out]; omega
              clear hbl
              by_cases hlt : t < k
              · obtain ⟨y, hy⟩ : ∃ y, hs[t]? = some y := ⟨_, List.getElem?_eq_getElem (by rw [HLEN.out]; exact hlt)⟩
                obtain ⟨ad, rfl, _, hc⟩ := (Rd.of_own hS.has).2 (by omega)
                have c0 := hc t (.bool y) (by rw [List.getElem?_map, hy]; rfl)
                have HY := Lib.hid hy
                clear hy hc
                cases y with
                | true =>
                  have HE := Lib.hid (backTo_yes HY.out)
                  clear hS
                  go_wp2_with fail
                  go_roundw
                  case rel => exact ⟨t + 1, by omega, by omega, by go_num, by rw [HE.out]; exact HS.out⟩
                  case measure => simp [intOf]; omega
                | false =>
                  have HE := Lib.hid (backTo_no ht1 HY.out)
                  have hsz := hS.far.2.2.2
                  have hall := hS.all
                  clear hS
                  go_wp2_with (at_builtin; refine wpList_app rfl _ _ _ rfl clusSlice (by decide) u13 (l ++ backTo hs t).length _ rfl (hall.alloc _) ⟨wr.heap.size, 0, none⟩ 1 1 [.int .i64 ((t : Int) - 1), .int .i64 ((t : Int) + 1), .int .i64 0, .int .i64 0] rfl rfl (cells_new wr [_, _, _, _] _) (oneInt4 _ _ _ _ _) (by omega) (by unfold maxLen; omega) (Nat.le_trans hsz (by simp)) ?_; intro v1 w5 hown5 hg5 hat5)
                  have HS2 := Lib.hid ((HS.out.low (below_new wr (.cells #[.int .i64 ((t : Int) - 1), .int .i64 ((t : Int) + 1), .int .i64 0, .int .i64 0] 33))).app (M := [backC t]) (k := 1) rfl hown5 hg5 hat5)
                  clear hown5 hg5 hat5 hall c0
                  go_roundw
                  case rel => exact ⟨t + 1, by omega, by omega, by go_num, by rw [HE.out, ← List.append_assoc]; exact HS2.out⟩
                  case measure => simp [intOf]; omega
              · have htk : t = k := by omega
                subst htk
                clear hlt hS
                go_wp2_with fail
                refine (refAhead_any H t ch hs wr (Rd.of_own HS.out.has) (by omega)).mono ?_
                rintro e w5 ⟨A', n', c', rfl, hn', hrA, hb5⟩
                have HS5 := Lib.hid (HS.out.low hb5)
                have hall := HS5.out.all
                have hsz := HS5.out.far.2.2.2
                have hrl := hrA.1
                rw [cellsC_len] at hrl
                go_wp2_with (at_builtin; refine wpList_appR rfl _ _ _ rfl clusSlice (by decide) u13 (l ++ backTo hs t).length _ rfl hall A' n' c' (cellsC (aheadS hs)) rfl hrA (cellsC_one _) (by omega) (by unfold maxLen; omega) hsz ?_; intro v6 w6 hown6 hgr6 hat6)
                have HS6 := Lib.hid (HS5.out.app (M := aheadS hs) (k := n') (by omega) hown6 hgr6 hat6)
                have HALL := Lib.hid (show l ++ backTo hs t ++ aheadS hs = allC t l by unfold allC; rw [HHS.out])
                rw [HALL.out] at HS6
                clear hown6 hgr6 hat6 hall hsz hrl hrA hb5 hn'
                obtain ⟨A6, c6, rfl, _⟩ := own_form HS6.out.all
                have HF6 := Lib.hid HS6.out.far
                have HRL := Lib.hid (Rd.of_own HS6.out.all)
                have HNA := Lib.hid (show ∀ ad, A6 = some ad → ad.block ∉ [gi, go] from fun ad e => by
                  have h1 := (HS6.out.all.lt ad.block (by rw [e]; rfl)).1
                  have := HF6.out
                  simp
                  omega)
                have HLK := Lib.hid (show ∀ x ∈ allC t l, LinkC t j x from fun x hx => all_link HREAL.out hx)
                have hNb : (allC t l).length ≤ 20000000 := by have := all_len HREAL.out; rw [HL.out] at this; omega
                obtain ⟨Nq, hNq⟩ : ∃ Nq, (allC t l).length = Nq := ⟨_, rfl⟩
                rw [hNq] at hNb HRL ⊢
                have HM6 := Lib.hid HS6.out.lab
                have HB6 := Lib.hid HS6.out.below
                clear HS5 HS hNq
                go_wp2_with fail
                go_loopg [] (totLab (lab0 t j)).toNat (fun gh ws => ∃ lab, gh = (totLab lab).toNat ∧ LabM ws gi go t j t j lab ∧ SoundLab ((allC t l).map ncOf) lab ∧ PosLab lab ∧ (lab false).length = t ∧ (lab true).length = j ∧ Kept w6 ws [gi, go])
                case atStart => exact ⟨lab0 t j, rfl, HM6.out, lab0_sound _ _ _, lab0_pos _ _, upI_len _ _ _, upI_len _ _ _, Kept.refl _ _⟩
                case round =>
                  clear HM6
                  obtain ⟨lab, rfl, hM, hs1, hp1, hx1, hy1, hK⟩ := hrel
                  go_wp2_with fail
                  refine (refTurn_any gi go t j t j Nq c6 A6 (allC t l) lab wr hM (HRL.out.kept HNA.out hK) HNA.out HLK.out hs1 hp1 hx1 hy1 (by omega) (by omega) (by omega)).mono ?_
                  rintro e w7 ⟨lab', ch7, rfl, hM7, hT, hK7⟩
                  cases ch7 with
                  | true =>
                    have hlt := hT.went.lt rfl
                    have hpos := tot_pos hT.pos
                    have HT := Lib.hid hT
                    have HM7 := Lib.hid hM7
                    have HK7 := Lib.hid (hK.trans hK7)
                    clear hT hM hM7 hK hK7 hs1 hp1 hx1 hy1
                    go_wp2_with fail
                    go_roundg (totLab lab').toNat
                    case measure => omega
                    case rel => exact ⟨lab', rfl, HM7.out, HT.out.sound, HT.out.pos, HT.out.lx, HT.out.ly, HK7.out⟩
                  | false =>
                    have heq : lab' = lab := hT.went.no rfl
                    subst heq
                    have hK2 := hK.trans hK7
                    have hb7 : Below w.heap.size w w7 := HB6.out.trans ⟨hK2.os, hK2.tape, hK2.output, hK2.size, fun i hi => hK2.block i (Nat.lt_of_lt_of_le hi HB6.out.size) (by
                      have h1 := hgi
                      have h2 := hb1.size
                      simp
                      omega)⟩
                    have HB7 := Lib.hid hb7
                    have HT := Lib.hid hT
                    have HM7 := Lib.hid hM7
                    have HX := Lib.hid hx1
                    have HY := Lib.hid hy1
                    clear hT hM hM7 hK hK7 hK2 hs1 hp1 hx1 hy1 hb7
                    go_wp2_with fail
                    obtain ⟨b2, hb2⟩ : ∃ b2, w7.heap.size = b2 := ⟨_, rfl⟩
                    have hwb2 : w.heap.size ≤ b2 := by rw [← hb2]; exact HB7.out.size
                    go_loopw [16, 17] (fun v i ws => ∃ p : Nat, p ≤ t ∧ i = .int .i64 (p : Int) ∧ ws.ownsRow b2 33 4 v (below_ l' p).length (cellsC ((below_ l' p).map NC.cl)) ∧ Below w7.heap.size w7 ws) (fun _ i _ => t - (intOf i).toNat)
                    case atStart =>
                      refine ⟨0, Nat.zero_le _, rfl, ?_, Below.refl _ _⟩
                      rw [below_none 0 HF.out.tiles (Nat.le_refl _)]
                      exact ⟨rfl, .inl ⟨rfl, rfl⟩⟩
                    case round =>
                      obtain ⟨p, hp, rfl, hown, hb⟩ := hrel
                      have HO := Lib.hid hown
                      have HBB := Lib.hid hb
                      have hsz : b2 ≤ wr.heap.size := by rw [← hb2]; exact hb.size
                      have hlb : (below_ l' p).length ≤ 20000000 := Nat.le_trans (List.length_filter_le _ _) (by have := tiles_len HF.out.tiles; omega)
                      have HMr := Lib.hid (HM7.out.below hb)
                      clear hown hb
                      by_cases hlt : p < t
                      · obtain ⟨v, hv⟩ : ∃ v, (lab' false)[p]? = some v := ⟨_, List.getElem?_eq_getElem (by rw [HX.out]; exact hlt)⟩
                        have cv : wr.cell? ⟨gi, p, none⟩ = some (.int .i64 v) := by rw [HMr.out.hi.cellAt p (by omega), List.getElem?_map, hv]; rfl
                        have HV := Lib.hid hv
                        clear hv
                        have hdec : p = 0 ∨ ∃ (p' : Nat) (u : Int), 0 < p ∧ p - 1 = p' ∧ (p : Int) - 1 = (p' : Int) ∧ p' < t ∧ (lab' false)[p']? = some u := by
                          cases p with
                          | zero => exact .inl rfl
                          | succ p' => exact .inr ⟨p', _, by omega, by omega, by omega, by omega, List.getElem?_eq_getElem (by rw [HX.out]; omega)⟩
                        have hlo := HMr.out.lt
                        have hR1 := Lib.hid (fun (W : World) (h : Below wr.heap.size wr W) => refHullN_any (some ⟨gi, 0, none⟩) t t (lab' false) v W (Rd.of_own (HMr.out.below h).hi) (by omega))
                        have hR2 := Lib.hid (fun (W : World) (h : Below wr.heap.size wr W) => refHullN_any (some ⟨go, 0, none⟩) j j (lab' true) v W (Rd.of_own (HMr.out.below h).ho) (by omega))
                        have hcs : (p = 0 ∨ ∃ u, (lab' false)[p - 1]? = some u ∧ u ≠ v) ∨ (0 < p ∧ (lab' false)[p - 1]? = some v) := by
                          rcases hdec with h | ⟨p', u, h0, e, _, _, h2⟩
                          · exact .inl (.inl h)
                          · rw [e]
                            by_cases h3 : u = v
                            · exact .inr ⟨by omega, by rw [h2, h3]⟩
                            · exact .inl (.inr ⟨u, h2, h3⟩)
                        have HTT := Lib.hid (show TurnOk ((allC t l).map ncOf) t j (labs (lab' false) (lab' true)) lab' false by rw [labs_self]; exact HT.out)
                        rcases hcs with hbeg | ⟨hp0, hsame⟩
                        · obtain ⟨x, hxl, hxa, hh1, hh2⟩ := fin_begin HTT.out HF.out HX.out HY.out HV.out hbeg
                          rw [hh1] at hR1
                          rw [hh2] at hR2
                          have HBS := Lib.hid (show below_ l' (p + 1) = below_ l' p ++ [x] by rw [← hxa]; exact below_step HF.out.tiles hxl)
                          obtain ⟨xa, xb, xc, xd⟩ := x
                          simp only at hR1 hR2
                          have HUV := Lib.hid (show ∀ p' u, p - 1 = p' → 0 < p → (lab' false)[p']? = some u → u ≠ v from fun p' u e1 e0 e2 => by
                            rcases hbeg with h | ⟨u', h1, h2⟩
                            · omega
                            · rw [e1, e2] at h1
                              rw [Option.some.inj h1]
                              exact h2)
                          clear hxl hxa hh1 hh2 hbeg
                          rcases hdec with hpz | ⟨p', u, hp0, hpp, hpi, hpl, hu⟩
                          · have g0 : ((p : Int) == 0) = true := by simp; omega
                            have g0' : decide ((p : Int) = 0) = true := decide_eq_true (by omega)
                            have g1 : (p : Int) < (t : Int) := by omega
                            clear hpz
                            go_wp2_with fail
                            go_quiet (fail)
                            go_wp2_with fail
                            obtain ⟨w0, hw0⟩ : ∃ w0, wr.drewN nq = w0 := ⟨_, rfl⟩
                            rw [hw0]
                            have hwb : Below wr.heap.size wr w0 := by rw [← hw0]; exact below_drew (Below.refl _ _) nq
                            have HOW := Lib.hid (own_below HO.out hwb)
                            have HKB := Lib.hid (show ∀ W, Below w0.heap.size w0 W → W.cell? ⟨gi, p, none⟩ = some (.int .i64 v) ∧ Below b2 w7 W from fun W h => ⟨cell_below h (cell_below hwb cv), by rw [← hb2]; exact below_self (below_self HBB.out hwb) h⟩)
                            have HC1 := Lib.hid (fun (W : World) (h : Below w0.heap.size w0 W) => hR1 W (below_self hwb h))
                            have HC2 := Lib.hid (fun (W : World) (h : Below w0.heap.size w0 W) => hR2 W (below_self hwb h))
                            have hsz0 : b2 ≤ w0.heap.size := Nat.le_trans hsz hwb.size
                            have hgb : gi < b2 := by rw [← hb2]; exact HM7.out.lt.1
                            clear hw0 hwb hR1 hR2 cv
                            go_region_held3 (fun w' => w'.cell? ⟨gi, p, none⟩ = some (.int .i64 v) ∧ Below b2 w7 w')
                              (first
                                | exact HKB.out _ (Below.refl _ _)
                                | exact HKB.out _ (Below.refl _ _).drew
                                | exact HKB.out _ hz1
                                | exact HKB.out _ hz2
                                | exact HKB.out _ (below_self hz2 (below_new w9 (.cells #[.int .i64 (xa : Int), .int .i64 (xb : Int), .int .i64 (xc : Int), .int .i64 (xd : Int)] 33)))
                                | exact hfin
                                | fail)
                              (first
                                | (go_at_call 55; with_reducible refine (HC1.out _ (by first | exact (Below.refl _ _).drew | exact Below.refl _ _)).mono ?_; rintro e' w8 ⟨rfl, hh1⟩; have hz1 : Below w0.heap.size w0 w8 := (by first | exact below_self (Below.refl _ _).drew hh1 | exact hh1))
                                | (go_at_call 55; with_reducible refine (HC2.out _ hz1).mono ?_; rintro e' w9 ⟨rfl, hh2⟩; have hz2 : Below w0.heap.size w0 w9 := below_self hz1 hh2)
                                | (refine step_appR rfl _ _ _ rfl clusSlice (by decide) u16 (below_ l' p).length _ rfl ((own_below HOW.out hz2).alloc (.cells #[.int .i64 (xa : Int), .int .i64 (xb : Int), .int .i64 (xc : Int), .int .i64 (xd : Int)] 33)) _ 1 1 [.int .i64 (xa : Int), .int .i64 (xb : Int), .int .i64 (xc : Int), .int .i64 (xd : Int)] rfl (rd_blk (m := 1) (cs := [.int .i64 (xa : Int), .int .i64 (xb : Int), .int .i64 (xc : Int), .int .i64 (xd : Int)]) 4 (heap_alloc_new w9 (.cells #[.int .i64 (xa : Int), .int .i64 (xb : Int), .int .i64 (xc : Int), .int .i64 (xd : Int)] 33)) rfl) (oneInt4 _ _ _ _ _) (by omega) (by unfold maxLen; omega) (Nat.le_trans hsz0 (Nat.le_trans hz2.size (by simp))) _ rfl ?_; intro v2 w10 hown10 hgr10 hat10; have hbl : Below b2 (w9.alloc (.cells #[.int .i64 (xa : Int), .int .i64 (xb : Int), .int .i64 (xc : Int), .int .i64 (xd : Int)] 33)) w10 := (Below.refl _ _).grown hgr10 (Nat.le_trans hsz0 (Nat.le_trans hz2.size (by simp))) (fun k hk => (((own_below HOW.out hz2).alloc (.cells #[.int .i64 (xa : Int), .int .i64 (xb : Int), .int .i64 (xc : Int), .int .i64 (xd : Int)] 33)).lt k hk).1); have hfin : w10.cell? ⟨gi, p, none⟩ = some (.int .i64 v) ∧ Below b2 w7 w10 := (by have h9 := HKB.out _ (below_self hz2 (below_new w9 (.cells #[.int .i64 (xa : Int), .int .i64 (xb : Int), .int .i64 (xc : Int), .int .i64 (xd : Int)] 33))); exact ⟨(hbl.cell hgb).trans h9.1, h9.2.trans hbl⟩))
                                | fail)
                            have HN10 := Lib.hid (show w10.ownsRow b2 33 4 v2 (below_ l' (p + 1)).length (cellsC ((below_ l' (p + 1)).map NC.cl)) by
                              rw [HBS.out, List.map_append, cellsC_append, List.length_append]
                              exact hown10)
                            have HB10 := Lib.hid (show Below w7.heap.size w7 w10 by rw [hb2]; exact hfin.2)
                            clear hown10 hgr10 hat10 hbl
                            go_wp2_with fail
                            go_roundw
                            case rel => exact ⟨p + 1, by omega, by go_num, HN10.out, HB10.out⟩
                            case measure => simp [intOf]; omega
                          · have cu : wr.cell? ⟨gi, p', none⟩ = some (.int .i64 u) := by rw [HMr.out.hi.cellAt p' (by omega), List.getElem?_map, hu]; rfl
                            have huv : u ≠ v := HUV.out p' u hpp hp0 hu
                            have huv2 : ¬ v = u := fun e => huv e.symm
                            clear hu hpp
                            have g0 : ((p : Int) == 0) = false := by simp; omega
                            have g0' : decide ((p : Int) = 0) = false := decide_eq_false (by omega)
                            have g1 : (p : Int) < (t : Int) := by omega
                            have g2 : (p' : Int) < (t : Int) := by omega
                            have g3 : (0 : Int) ≤ (p' : Int) := by omega
                            go_wp2_with fail
                            go_quiet (fail)
                            go_wp2_with fail
                            obtain ⟨w0, hw0⟩ : ∃ w0, wr.drewN nq = w0 := ⟨_, rfl⟩
                            rw [hw0]
                            have hwb : Below wr.heap.size wr w0 := by rw [← hw0]; exact below_drew (Below.refl _ _) nq
                            have HOW := Lib.hid (own_below HO.out hwb)
                            have HKB := Lib.hid (show ∀ W, Below w0.heap.size w0 W → W.cell? ⟨gi, p, none⟩ = some (.int .i64 v) ∧ Below b2 w7 W from fun W h => ⟨cell_below h (cell_below hwb cv), by rw [← hb2]; exact below_self (below_self HBB.out hwb) h⟩)
                            have HC1 := Lib.hid (fun (W : World) (h : Below w0.heap.size w0 W) => hR1 W (below_self hwb h))
                            have HC2 := Lib.hid (fun (W : World) (h : Below w0.heap.size w0 W) => hR2 W (below_self hwb h))
                            have hsz0 : b2 ≤ w0.heap.size := Nat.le_trans hsz hwb.size
                            have hgb : gi < b2 := by rw [← hb2]; exact HM7.out.lt.1
                            clear hw0 hwb hR1 hR2 cv cu
                            go_region_held3 (fun w' => w'.cell? ⟨gi, p, none⟩ = some (.int .i64 v) ∧ Below b2 w7 w')
                              (first
                                | exact HKB.out _ (Below.refl _ _)
                                | exact HKB.out _ (Below.refl _ _).drew
                                | exact HKB.out _ hz1
                                | exact HKB.out _ hz2
                                | exact HKB.out _ (below_self hz2 (below_new w9 (.cells #[.int .i64 (xa : Int), .int .i64 (xb : Int), .int .i64 (xc : Int), .int .i64 (xd : Int)] 33)))
                                | exact hfin
                                | fail)
                              (first
                                | (go_at_call 55; with_reducible refine (HC1.out _ (by first | exact (Below.refl _ _).drew | exact Below.refl _ _)).mono ?_; rintro e' w8 ⟨rfl, hh1⟩; have hz1 : Below w0.heap.size w0 w8 := (by first | exact below_self (Below.refl _ _).drew hh1 | exact hh1))
                                | (go_at_call 55; with_reducible refine (HC2.out _ hz1).mono ?_; rintro e' w9 ⟨rfl, hh2⟩; have hz2 : Below w0.heap.size w0 w9 := below_self hz1 hh2)
                                | (refine step_appR rfl _ _ _ rfl clusSlice (by decide) u16 (below_ l' p).length _ rfl ((own_below HOW.out hz2).alloc (.cells #[.int .i64 (xa : Int), .int .i64 (xb : Int), .int .i64 (xc : Int), .int .i64 (xd : Int)] 33)) _ 1 1 [.int .i64 (xa : Int), .int .i64 (xb : Int), .int .i64 (xc : Int), .int .i64 (xd : Int)] rfl (rd_blk (m := 1) (cs := [.int .i64 (xa : Int), .int .i64 (xb : Int), .int .i64 (xc : Int), .int .i64 (xd : Int)]) 4 (heap_alloc_new w9 (.cells #[.int .i64 (xa : Int), .int .i64 (xb : Int), .int .i64 (xc : Int), .int .i64 (xd : Int)] 33)) rfl) (oneInt4 _ _ _ _ _) (by omega) (by unfold maxLen; omega) (Nat.le_trans hsz0 (Nat.le_trans hz2.size (by simp))) _ rfl ?_; intro v2 w10 hown10 hgr10 hat10; have hbl : Below b2 (w9.alloc (.cells #[.int .i64 (xa : Int), .int .i64 (xb : Int), .int .i64 (xc : Int), .int .i64 (xd : Int)] 33)) w10 := (Below.refl _ _).grown hgr10 (Nat.le_trans hsz0 (Nat.le_trans hz2.size (by simp))) (fun k hk => (((own_below HOW.out hz2).alloc (.cells #[.int .i64 (xa : Int), .int .i64 (xb : Int), .int .i64 (xc : Int), .int .i64 (xd : Int)] 33)).lt k hk).1); have hfin : w10.cell? ⟨gi, p, none⟩ = some (.int .i64 v) ∧ Below b2 w7 w10 := (by have h9 := HKB.out _ (below_self hz2 (below_new w9 (.cells #[.int .i64 (xa : Int), .int .i64 (xb : Int), .int .i64 (xc : Int), .int .i64 (xd : Int)] 33))); exact ⟨(hbl.cell hgb).trans h9.1, h9.2.trans hbl⟩))
                                | fail)
                            have HN10 := Lib.hid (show w10.ownsRow b2 33 4 v2 (below_ l' (p + 1)).length (cellsC ((below_ l' (p + 1)).map NC.cl)) by
                              rw [HBS.out, List.map_append, cellsC_append, List.length_append]
                              exact hown10)
                            have HB10 := Lib.hid (show Below w7.heap.size w7 w10 by rw [hb2]; exact hfin.2)
                            clear hown10 hgr10 hat10 hbl
                            go_wp2_with fail
                            go_roundw
                            case rel => exact ⟨p + 1, by omega, by go_num, HN10.out, HB10.out⟩
                            case measure => simp [intOf]; omega
                        · have HSK := Lib.hid (below_skip (fin_skip HTT.out HF.out HX.out HV.out hp0 hsame))
                          rcases hdec with rfl | ⟨p', u, hp1, hpp, hpi, hpl, hu⟩
                          · omega
                          · have cu : wr.cell? ⟨gi, p', none⟩ = some (.int .i64 v) := by rw [HMr.out.hi.cellAt p' (by omega), List.getElem?_map, show (lab' false)[p']? = some v by rw [← hpp]; exact hsame]; rfl
                            clear hu hsame hpp
                            have g0 : ((p : Int) == 0) = false := by simp; omega
                            have g0' : decide ((p : Int) = 0) = false := decide_eq_false (by omega)
                            have g1 : (p : Int) < (t : Int) := by omega
                            have g2 : (p' : Int) < (t : Int) := by omega
                            have g3 : (0 : Int) ≤ (p' : Int) := by omega
                            have HBn := Lib.hid (show ∀ Q, Below w7.heap.size w7 (wr.drewN Q) from fun Q => below_drew HBB.out Q)
                            have HOn := Lib.hid (show ∀ Q, (wr.drewN Q).ownsRow b2 33 4 u16 (below_ l' p).length (cellsC ((below_ l' p).map NC.cl)) from fun Q => HO.out)
                            go_wp2_with fail
                            go_quiet (fail)
                            go_wp2_with fail
                            go_roundw
                            case rel => exact ⟨p + 1, by omega, by go_num, by rw [HSK.out]; exact HOn.out _, HBn.out _⟩
                            case measure => simp [intOf]; omega
                      · have hpt : p = t := by omega
                        subst hpt
                        have HALL2 := Lib.hid (below_all HF.out.tiles)
                        rw [HALL2.out] at HO
                        have HBF := Lib.hid (below_self HB7.out HBB.out)
                        clear hlt
                        go_wp2_with fail
                        exact bodyPost_ret (v := .tuple #[u16, .int .i64 0]) (by simp [results, go_sem]) rfl ⟨u16, rfl, own_base HO.out hwb2, HBF.out⟩
end Go.Proofs.Ytmgoakfnmgngoaa
/- naskhlaw04's awake, and ClusterChecks. -/
namespace Go.Proofs.Ytmgoakfnmgngoaa
open Go.RowKit

def crossL : List Cl := [((0, 1), (1, 2)), ((1, 2), (0, 1))]
theorem cross_cov : ∀ l', List.Perm l' (crossL.map Prod.snd) → LoSorted l' → covB ((2 : Nat) : Int) l' = true := fun l' hp hs => by
  refine (covB_iff hp hs (fun s h => ?_) (by omega)).2 (fun j h1 h2 => ?_)
  · have h' : s = (1, 2) ∨ s = (0, 1) := by simpa [crossL] using h
    rcases h' with rfl | rfl <;> simp
  · have h' : j = 0 ∨ j = 1 := by omega
    rcases h' with rfl | rfl
    · exact ⟨(0, 1), by simp [crossL], by simp, by simp⟩
    · exact ⟨(1, 2), by simp [crossL], by simp, by simp⟩
theorem cross_Finest (q : Nat) (hq : q = 2) (A : Option Addr) (c : Nat) (w : World) (hr : Rd w 4 A q (cellsC crossL)) :
    Calls Try.prog 16 #[.int .i64 2, .int .i64 2, .slice A q c] w fun e w' => ∃ v, e = .returned (.tuple #[v, .int .i64 0]) ∧ w'.ownsRow w.heap.size 33 4 v 2 (cellsC crossL) ∧ Below w.heap.size w w' := by
  refine (prFinest_ok 2 2 q c A crossL w hr (by omega) rfl (by omega) (by omega) cross_cov (by simp [crossL])).mono ?_
  rintro e w' ⟨v, l', rfl, hf, hown, hb⟩
  have h9 : l' = crossK := Finest.only hf cross_finest
  rw [h9] at hown
  exact ⟨v, rfl, hown, hb⟩
theorem rd_cross (w : World) : Rd (w.alloc (.cells #[.int .i64 0, .int .i64 1, .int .i64 1, .int .i64 2, .int .i64 1, .int .i64 2, .int .i64 0, .int .i64 1] 33)) 4 (some ⟨w.heap.size, 0, none⟩) 2 (cellsC crossL) :=
  ⟨rfl, fun _ => ⟨_, rfl, by simp, cells_new w [.int .i64 0, .int .i64 1, .int .i64 1, .int .i64 2, .int .i64 1, .int .i64 2, .int .i64 0, .int .i64 1] 33⟩⟩
set_option maxRecDepth 100000 in
set_option maxHeartbeats 1000000 in
theorem awakeCl_any (w : World) : Calls Try.prog 12 #[] w fun e w' => e = .returned (.bool true) ∧ Below w.heap.size w w' := by
  go_enter Try.func12, Try.ntmps12
  have s1 := SpanBlk.new_ w 0 1 31
  have b1 := below_new w (.cells #[.int .i64 0, .int .i64 1] 31)
  have s2 := SpanBlk.new_ (w.alloc (.cells #[.int .i64 0, .int .i64 1] 31)) 1 2 31
  have b2 := below_new (w.alloc (.cells #[.int .i64 0, .int .i64 1] 31)) (.cells #[.int .i64 1, .int .i64 2] 31)
  have b3 := below_new ((w.alloc (.cells #[.int .i64 0, .int .i64 1] 31)).alloc (.cells #[.int .i64 1, .int .i64 2] 31)) (.cells #[.int .i64 0, .int .i64 1, .int .i64 1, .int .i64 2, .int .i64 1, .int .i64 2, .int .i64 0, .int .i64 1] 33)
  have r1 := rd_cross ((w.alloc (.cells #[.int .i64 0, .int .i64 1] 31)).alloc (.cells #[.int .i64 1, .int .i64 2] 31))
  have t1 := (s1.below b2).below b3
  have t2 := s2.below b3
  simp only [World.size_alloc] at t2 r1
  have hall := below_self (below_self b1 b2) b3
  clear s1 s2 b1 b2 b3
  go_wp2_with fail
  refine (cross_Finest 2 rfl _ _ _ r1).mono ?_
  rintro e w1 ⟨v, rfl, hown, hb1⟩
  have hb2 := below_self hall hb1
  obtain ⟨V, cv, rfl, _⟩ := own_form hown
  have r2 := Rd.of_own hown
  obtain ⟨u0, u1, _, _⟩ := t1.below hb1
  obtain ⟨u2, u3, _, _⟩ := t2.below hb1
  clear hown hall t1 t2 r1 hb1
  go_wp2_with fail
  have hb3 := below_new w1 (.cells #[.int .i64 0, .int .i64 1, .int .i64 1, .int .i64 2, .int .i64 1, .int .i64 2, .int .i64 0, .int .i64 1] 33)
  refine (equalC_b V (some ⟨w1.heap.size, 0, none⟩) 2 2 cv 2 crossL crossL _ (r2.below hb3) (rd_cross w1) (by unfold maxLen; omega) (by unfold maxLen; omega)).mono ?_
  rintro e w2 ⟨rfl, hb4⟩
  rw [show decide (crossL = crossL) = true from decide_eq_true rfl]
  have hb5 := below_self hb3 hb4
  have hb6 := below_self hb2 hb5
  have r3 := r2.below hb5
  clear r2 hb3 hb4 hb5 hb2
  go_wp2_with fail
  refine (prCheckC_any V 2 cv crossL 2 2 w2 r3 (by omega)).mono ?_
  rintro e w3 ⟨rfl, hb7⟩
  rw [show checkC crossL 2 2 = true by decide]
  have hb8 := below_self hb6 hb7
  go_wp2_with fail
  refine (prIdentity_any 3 w3 (by omega)).mono ?_
  rintro e w4 ⟨v, rfl, hown, hb9⟩
  obtain ⟨V2, cv2, rfl, _⟩ := own_form hown
  have hb10 := below_self hb8 hb9
  clear hown
  go_wp2_with fail
  go_ret
  exact ⟨rfl, hb10⟩
set_option maxRecDepth 100000 in
set_option maxHeartbeats 1000000 in
theorem clusterChecks_any (A : Option Addr) (n c : Nat) (l : List Cl) (m p : Int) (w : World) (hr : Rd w 4 A n (cellsC l)) (hn : n ≤ maxLen) :
    Calls Try.prog 3 #[.slice A n c, .int .i64 m, .int .i64 p] w fun e w' => e = .returned (.bool true) ∧ Below w.heap.size w w' := by
  unfold maxLen at hn
  go_enter Try.func3, Try.ntmps3
  by_cases h : 60 < n
  · go_wp2_with fail
    refine (awakeCl_any w).mono ?_
    rintro e w1 ⟨rfl, hb1⟩
    go_wp2_with fail
    go_ret
    exact ⟨rfl, hb1⟩
  · go_wp2_with fail
    refine (prCheckC_any A n c l m p w hr (by omega)).mono ?_
    rintro e w1 ⟨rfl, hb1⟩
    go_wp2_with fail
    refine (refCheckC_any A n c l m p w1 (hr.below hb1) (by omega)).mono ?_
    rintro e w2 ⟨rfl, hb2⟩
    have hb3 := below_self hb1 hb2
    obtain ⟨b, hb⟩ : ∃ b, checkC l m p = b := ⟨_, rfl⟩
    rw [hb]
    clear hb
    cases b
    all_goals
      go_wp2_with fail
      refine (awakeCl_any w2).mono ?_
      rintro e w3 ⟨rfl, hb4⟩
      have hb5 := below_self hb3 hb4
      go_wp2_with fail
      go_ret
      exact ⟨rfl, hb5⟩
end Go.Proofs.Ytmgoakfnmgngoaa
/- naskhlaw04's few and ClusterWhole, walked. -/
namespace Go.Proofs.Ytmgoakfnmgngoaa
open Go.RowKit

/-- What few answers. -/
def FewAns (w w' : World) (n : Nat) (l : List Cl) (e : Ending) : Prop := ∃ b : Bool, e = .returned (.bool b) ∧ (b = true → n ≤ 30 ∧ ∀ x ∈ l, x.1.2 ≤ 60 ∧ x.2.2 ≤ 60) ∧ Below w.heap.size w w'
set_option maxRecDepth 100000 in
set_option maxHeartbeats 1000000 in
theorem few_any (A : Option Addr) (n c : Nat) (l : List Cl) (w : World) (hr : Rd w 4 A n (cellsC l)) (hn : n ≤ maxLen) :
    Calls Try.prog 15 #[.slice A n c] w fun e w' => FewAns w w' n l e := by
  unfold maxLen at hn
  have hlen : l.length = n := by have := hr.1; rw [cellsC_len] at this; omega
  have HL := Lib.hid hlen
  have HR := Lib.hid hr
  clear hlen hr
  go_enter Try.func15, Try.ntmps15
  go_wp2_with fail
  go_loopw [7] (fun i ws => ∃ k : Nat, k ≤ n ∧ k ≤ 30 ∧ i = .int .i64 (k : Int) ∧ (∀ j x, j < k → l[j]? = some x → x.1.2 ≤ 60 ∧ x.2.2 ≤ 60) ∧ Below w.heap.size w ws) (fun i _ => n - (intOf i).toNat)
  case atStart => exact ⟨0, Nat.zero_le _, Nat.zero_le _, rfl, fun j x hj => absurd hj (Nat.not_lt_zero _), Below.refl _ _⟩
  case round =>
    obtain ⟨k, hk, hk30, rfl, hall, hb⟩ := hrel
    have HA := Lib.hid hall
    clear hall
    by_cases hlt : k < n
    · obtain ⟨x, hx⟩ : ∃ x, l[k]? = some x := ⟨_, List.getElem?_eq_getElem (by rw [HL.out]; exact hlt)⟩
      obtain ⟨ad, rfl, hab, c0, c1, c2, c3⟩ := (HR.out.below hb).clus hx
      obtain ⟨⟨x1, x2⟩, x3, x4⟩ := x
      simp only at c0 c1 c2 c3
      have HX := Lib.hid hx
      clear hx
      have hb2 := below_self hb (below_new wr (.cells #[.int .i64 x1, .int .i64 x2, .int .i64 x3, .int .i64 x4] 33))
      have hnw := cells_new wr [.int .i64 x1, .int .i64 x2, .int .i64 x3, .int .i64 x4] 33
      have d1 := hnw 1 _ rfl
      have d3 := hnw 3 _ rfl
      rw [addNew] at d1 d3
      clear hnw hb
      by_cases h30 : 30 ≤ k
      · go_wp2_with fail
        go_ret
        exact ⟨false, rfl, (fun h => by cases h), hb2⟩
      · by_cases h2 : 60 < x2
        · go_wp2_with fail
          go_ret
          exact ⟨false, rfl, (fun h => by cases h), hb2⟩
        · by_cases h4 : 60 < x4
          · go_wp2_with fail
            go_ret
            exact ⟨false, rfl, (fun h => by cases h), hb2⟩
          · go_wp2_with fail
            go_roundw
            case rel =>
              refine ⟨k + 1, by omega, by omega, by go_num, fun j x hj hx => ?_, hb2⟩
              by_cases hjk : j = k
              · subst hjk
                rw [HX.out] at hx
                obtain rfl := Option.some.inj hx
                simp only
                omega
              · exact HA.out j x (by omega) hx
            case measure => simp [intOf]; omega
    · go_wp2_with fail
      go_ret
      refine ⟨true, rfl, fun _ => ⟨by omega, fun x hx => ?_⟩, hb⟩
      obtain ⟨j, hj⟩ := List.getElem?_of_mem hx
      have := (List.getElem?_eq_some_iff.1 hj).1
      exact HA.out j x (by have := HL.out; omega) hj
theorem any_snoc {α : Type} {l : List α} {j : Nat} {y : α} (f : α → Bool) (h : l[j]? = some y) : (l.take (j + 1)).any f = ((l.take j).any f || f y) := by
  rw [List.take_add_one, h]; simp
theorem ins_1 {c x : Cl} (h : ¬ c.1.1 ≤ x.1.1) : insB c x = false := by unfold insB; rw [decide_eq_false h]; rfl
theorem ins_2 {c x : Cl} (h : ¬ x.1.2 ≤ c.1.2) : insB c x = false := by unfold insB; rw [decide_eq_false h]; simp
theorem ins_3 {c x : Cl} (h : ¬ c.2.1 ≤ x.2.1) : insB c x = false := by unfold insB; rw [decide_eq_false h]; simp
theorem ins_4 {c x : Cl} (h : ¬ x.2.2 ≤ c.2.2) : insB c x = false := by unfold insB; rw [decide_eq_false h]; simp
theorem ins_5 {c x : Cl} (h1 : c.1.1 ≤ x.1.1) (h2 : x.1.2 ≤ c.1.2) (h3 : c.2.1 ≤ x.2.1) (h4 : x.2.2 ≤ c.2.2) : insB c x = true := by unfold insB; rw [decide_eq_true h1, decide_eq_true h2, decide_eq_true h3, decide_eq_true h4]; rfl
set_option maxRecDepth 100000 in
set_option maxHeartbeats 2000000 in
theorem clusterWhole_any (n m : Int) (A : Option Addr) (q c : Nat) (l : List Cl) (w : World) (hr : Rd w 4 A q (cellsC l)) (hq : q ≤ maxLen) :
    Calls Try.prog 5 #[.int .i64 n, .int .i64 m, .slice A q c] w fun e w' => e = .returned (.bool true) ∧ Below w.heap.size w w' := by
  have hlen : l.length = q := by have := hr.1; rw [cellsC_len] at this; omega
  have HL := Lib.hid hlen
  have HR := Lib.hid hr
  have HF := Lib.hid (few_any A q c l w hr hq)
  unfold maxLen at hq
  clear hlen hr
  go_enter Try.func5, Try.ntmps5
  go_wp2_with fail
  refine HF.out.mono ?_
  rintro e w1 ⟨b, rfl, hfew, hb1⟩
  have HW := Lib.hid hfew
  clear hfew
  by_cases hgo : b = true ∧ n ≤ 60 ∧ m ≤ 60
  · obtain ⟨rfl, hn60, hm60⟩ := hgo
    obtain ⟨hq30, hx60⟩ := HW.out rfl
    clear hx60
    go_wp2_with fail
    refine (prFinest_all n m q c A l w1 (HR.out.below hb1) (by omega)).mono ?_
    rintro e w2 ⟨hans, hb2⟩
    have hb12 := below_self hb1 hb2
    rcases hans with ⟨hne, rfl⟩ | ⟨h0, n1, n2, m1, m2, hfit, hcov, v, l', rfl, hfi, hown⟩
    · obtain ⟨er, her⟩ : ∃ er, finE n m l = er := ⟨_, rfl⟩
      rw [her] at hne ⊢
      clear her
      go_wp2_with fail
      refine (awakeCl_any w2).mono ?_
      rintro e w3 ⟨rfl, hb3⟩
      have hb4 := below_self hb12 hb3
      go_wp2_with fail
      go_ret
      exact ⟨rfl, hb4⟩
    · obtain ⟨V, cv, rfl, _⟩ := own_form hown
      have r2 := Rd.of_own hown
      obtain ⟨p, hp⟩ : ∃ p, l'.length = p := ⟨_, rfl⟩
      have hp60 : p ≤ 60 := by rw [← hp]; have := finIs_len hfi; omega
      rw [hp] at r2 ⊢
      have HC := Lib.hid (show checkC (l'.map NC.cl) n m = true by
        have := finIs_check hfi (by rw [Int.toNat_of_nonneg n1, Int.toNat_of_nonneg m1]; exact hfit) (by rw [Int.toNat_of_nonneg m1]; exact hcov)
        rwa [Int.toNat_of_nonneg n1, Int.toNat_of_nonneg m1] at this)
      have HH := Lib.hid (fun (x : Cl) (hx : x ∈ l) => finIs_holds hfi (by rw [Int.toNat_of_nonneg n1, Int.toNat_of_nonneg m1]; exact hfit) hx)
      obtain ⟨L, hL⟩ : ∃ L, l'.map NC.cl = L := ⟨_, rfl⟩
      have HP := Lib.hid (show L.length = p by rw [← hL, List.length_map]; exact hp)
      rw [hL] at r2 HC HH
      have HR2 := Lib.hid r2
      clear hown hfi hL hp h0 hfit hcov r2
      go_wp2_with fail
      refine (prCheckC_any V p cv L n m w2 HR2.out (by omega)).mono ?_
      rintro e w3 ⟨rfl, hb3⟩
      rw [HC.out]
      have hb23 := below_self hb2 hb3
      have HR3 := Lib.hid (HR2.out.below hb3)
      have HRA := Lib.hid ((HR.out.below hb1).below hb23)
      have hbA := below_self hb1 hb23
      have HB := Lib.hid hbA
      clear hb1 hb2 hb12 hb23 hb3 hbA
      go_wp2_with fail
      go_loopw [48] (fun i ws => ∃ k : Nat, k ≤ q ∧ i = .int .i64 (k : Int) ∧ Below w3.heap.size w3 ws) (fun i _ => q - (intOf i).toNat)
      case atStart => exact ⟨0, Nat.zero_le _, rfl, Below.refl _ _⟩
      case round =>
        obtain ⟨k, hk, rfl, hb⟩ := hrel
        by_cases hlt : k < q
        · obtain ⟨x, hx⟩ : ∃ x, l[k]? = some x := ⟨_, List.getElem?_eq_getElem (by rw [HL.out]; exact hlt)⟩
          have HIN := Lib.hid (HH.out x (List.mem_of_getElem? hx))
          obtain ⟨ad, rfl, hab, c0, c1, c2, c3⟩ := (HRA.out.below hb).clus hx
          obtain ⟨⟨x1, x2⟩, x3, x4⟩ := x
          simp only at c0 c1 c2 c3
          clear hx
          have hb2 := below_self hb (below_new wr (.cells #[.int .i64 x1, .int .i64 x2, .int .i64 x3, .int .i64 x4] 33))
          have hnw := cells_new wr [.int .i64 x1, .int .i64 x2, .int .i64 x3, .int .i64 x4] 33
          have d0 := hnw 0 _ rfl
          have d1 := hnw 1 _ rfl
          have d2 := hnw 2 _ rfl
          have d3 := hnw 3 _ rfl
          have hsz : wr.heap.size < (wr.alloc (.cells #[.int .i64 x1, .int .i64 x2, .int .i64 x3, .int .i64 x4] 33)).heap.size := by simp
          rw [addNew] at d0 d1 d2 d3
          obtain ⟨W0, hW0⟩ : ∃ W0, wr.alloc (.cells #[.int .i64 x1, .int .i64 x2, .int .i64 x3, .int .i64 x4] 33) = W0 := ⟨_, rfl⟩
          rw [hW0] at d0 d1 d2 d3 hb2 hsz
          obtain ⟨bk, hbk⟩ : ∃ bk, wr.heap.size = bk := ⟨_, rfl⟩
          rw [hbk] at d0 d1 d2 d3 hsz
          have D := Lib.hid (And.intro d0 (And.intro d1 (And.intro d2 d3)))
          have HB2 := Lib.hid hb2
          clear hnw hb d0 d1 d2 d3 hb2
          go_wp2_with fail
          try simp only [hW0, hbk]
          clear c0 c1 c2 c3 hW0 hbk hab
          go_loopw [11, 54] (fun f i ws => ∃ j : Nat, j ≤ p ∧ f = .bool ((L.take j).any fun y => insB y ((x1, x2), x3, x4)) ∧ i = .int .i64 (j : Int) ∧ Below W0.heap.size W0 ws) (fun _ i _ => p - (intOf i).toNat)
          case atStart => exact ⟨0, Nat.zero_le _, rfl, rfl, Below.refl _ _⟩
          case round =>
            obtain ⟨j, hj, rfl, rfl, hb⟩ := hrel
            by_cases hjlt : j < p
            · obtain ⟨y, hy⟩ : ∃ y, L[j]? = some y := ⟨_, List.getElem?_eq_getElem (by rw [HP.out]; exact hjlt)⟩
              have hb3 := below_self HB2.out hb
              obtain ⟨bd, rfl, hbb, c0, c1, c2, c3⟩ := (HR3.out.below hb3).clus hy
              have HS := Lib.hid (any_snoc (fun y => insB y ((x1, x2), x3, x4)) hy)
              obtain ⟨⟨y1, y2⟩, y3, y4⟩ := y
              simp only at c0 c1 c2 c3
              clear hy hb3
              have hbn := below_new wr (.cells #[.int .i64 y1, .int .i64 y2, .int .i64 y3, .int .i64 y4] 33)
              have HBN := Lib.hid (below_self hb hbn)
              have hnw := cells_new wr [.int .i64 y1, .int .i64 y2, .int .i64 y3, .int .i64 y4] 33
              have e0 := hnw 0 _ rfl
              have e1 := hnw 1 _ rfl
              have e2 := hnw 2 _ rfl
              have e3 := hnw 3 _ rfl
              rw [addNew] at e0 e1 e2 e3
              have d0 := cell_below hbn (cell_below hb D.out.1)
              have d1 := cell_below hbn (cell_below hb D.out.2.1)
              have d2 := cell_below hbn (cell_below hb D.out.2.2.1)
              have d3 := cell_below hbn (cell_below hb D.out.2.2.2)
              clear hnw hb hbn
              obtain ⟨b, hbv⟩ : ∃ b, ((L.take j).any fun y => insB y ((x1, x2), x3, x4)) = b := ⟨_, rfl⟩
              rw [hbv] at HS ⊢
              clear hbv
              cases b with
              | true =>
                go_wp2_with fail
                go_roundw
                case rel => exact ⟨j + 1, by omega, by rw [HS.out]; rfl, by go_num, HBN.out⟩
                case measure => simp [intOf]; omega
              | false =>
                by_cases h1 : y1 ≤ x1
                · by_cases h2 : x2 ≤ y2
                  · by_cases h3 : y3 ≤ x3
                    · by_cases h4 : x4 ≤ y4
                      · have HV := Lib.hid (ins_5 (c := ((y1, y2), y3, y4)) (x := ((x1, x2), x3, x4)) h1 h2 h3 h4)
                        go_wp2_with fail
                        go_roundw
                        case rel => exact ⟨j + 1, by omega, by rw [HS.out, HV.out]; rfl, by go_num, HBN.out⟩
                        case measure => simp [intOf]; omega
                      · have HV := Lib.hid (ins_4 (c := ((y1, y2), y3, y4)) (x := ((x1, x2), x3, x4)) h4)
                        go_wp2_with fail
                        go_roundw
                        case rel => exact ⟨j + 1, by omega, by rw [HS.out, HV.out]; rfl, by go_num, HBN.out⟩
                        case measure => simp [intOf]; omega
                    · have HV := Lib.hid (ins_3 (c := ((y1, y2), y3, y4)) (x := ((x1, x2), x3, x4)) h3)
                      go_wp2_with fail
                      go_roundw
                      case rel => exact ⟨j + 1, by omega, by rw [HS.out, HV.out]; rfl, by go_num, HBN.out⟩
                      case measure => simp [intOf]; omega
                  · have HV := Lib.hid (ins_2 (c := ((y1, y2), y3, y4)) (x := ((x1, x2), x3, x4)) h2)
                    go_wp2_with fail
                    go_roundw
                    case rel => exact ⟨j + 1, by omega, by rw [HS.out, HV.out]; rfl, by go_num, HBN.out⟩
                    case measure => simp [intOf]; omega
                · have HV := Lib.hid (ins_1 (c := ((y1, y2), y3, y4)) (x := ((x1, x2), x3, x4)) h1)
                  go_wp2_with fail
                  go_roundw
                  case rel => exact ⟨j + 1, by omega, by rw [HS.out, HV.out]; rfl, by go_num, HBN.out⟩
                  case measure => simp [intOf]; omega
            · have hjp : j = p := by omega
              have HIT := Lib.hid (show ((L.take j).any fun y => insB y ((x1, x2), x3, x4)) = true by rw [hjp, ← HP.out, List.take_length]; exact HIN.out)
              rw [HIT.out]
              have HB4 := Lib.hid (below_self HB2.out hb)
              clear hjp hb
              go_wp2_with fail
              go_roundw
              case rel => exact ⟨k + 1, by omega, by go_num, HB4.out⟩
              case measure => simp [intOf]; omega
        · have HB5 := Lib.hid (below_self HB.out hb)
          clear hb
          go_wp2_with fail
          refine (awakeCl_any wr).mono ?_
          rintro e w4 ⟨rfl, hb4⟩
          have hb6 := below_self HB5.out hb4
          go_wp2_with fail
          go_ret
          exact ⟨rfl, hb6⟩
  · have hno : b = false ∨ b = true ∧ 60 < n ∨ b = true ∧ n ≤ 60 ∧ 60 < m := by
      cases b
      · exact .inl rfl
      · by_cases h1 : n ≤ 60
        · exact .inr (.inr ⟨rfl, h1, Int.not_le.1 fun h2 => hgo ⟨rfl, h1, h2⟩⟩)
        · exact .inr (.inl ⟨rfl, Int.not_le.1 h1⟩)
    clear hgo HW
    rcases hno with rfl | ⟨rfl, h1⟩ | ⟨rfl, h1, h2⟩
    all_goals
      go_wp2_with fail
      refine (awakeCl_any w1).mono ?_
      rintro e w2 ⟨rfl, hb2⟩
      have hb3 := below_self hb1 hb2
      go_wp2_with fail
      go_ret
      exact ⟨rfl, hb3⟩
end Go.Proofs.Ytmgoakfnmgngoaa
/- naskhlaw04's ClusterFinest, walked. -/
namespace Go.Proofs.Ytmgoakfnmgngoaa
open Go.RowKit

set_option maxRecDepth 100000 in
set_option maxHeartbeats 1000000 in
theorem refFinest_no (n m : Int) (q c : Nat) (A : Option Addr) (l : List Cl) (w : World) (hr : Rd w 4 A q (cellsC l)) (hq : q ≤ 1000000) (h : finE n m l ≠ 0 ∨ n = 0) :
    Calls Try.prog 17 #[.int .i64 n, .int .i64 m, .slice A q c] w fun e w' => e = .returned (.tuple #[.slice none 0 0, .int .i64 (finE n m l)]) ∧ Below w.heap.size w w' := by
  have HWR := Lib.hid (refWrong_all n m q c A l w hr hq)
  obtain ⟨er, her⟩ : ∃ er, finE n m l = er := ⟨_, rfl⟩
  rw [her] at HWR h ⊢
  clear hr her
  have h' : er ≠ 0 ∨ (er = 0 ∧ n = 0) := by omega
  clear h
  go_enter Try.func17, Try.ntmps17
  go_wp2_with fail
  refine HWR.out.mono ?_
  rintro e w1 ⟨rfl, hb1⟩
  rcases h' with h1 | ⟨rfl, rfl⟩
  · go_wp2_with fail
    exact bodyPost_ret (v := .tuple #[.slice none 0 0, .int .i64 er]) (by simp [results, go_sem]) rfl ⟨rfl, hb1⟩
  · go_wp2_with fail
    exact bodyPost_ret (v := .tuple #[.slice none 0 0, .int .i64 0]) (by simp [results, go_sem]) rfl ⟨rfl, hb1⟩
/-- The reference's Finest, whatever comes in: what it answers beside the one finest list. -/
theorem refFinest_all (n m : Int) (q c : Nat) (A : Option Addr) (l : List Cl) (l' : List NC) (w : World) (hr : Rd w 4 A q (cellsC l)) (hq : q ≤ 1000000) (hE : finE n m l = 0) (n1 : 0 ≤ n) (m1 : 0 ≤ m) (hfit : fitB n m l = true) (hcov : CovP m l) (hfi : FinIs n.toNat m.toNat l l') :
    Calls Try.prog 17 #[.int .i64 n, .int .i64 m, .slice A q c] w fun e w' => ∃ v, e = .returned (.tuple #[v, .int .i64 0]) ∧ w'.ownsRow w.heap.size 33 4 v l'.length (cellsC (l'.map NC.cl)) ∧ Below w.heap.size w w' := by
  by_cases hn : n = 0
  · refine (refFinest_no n m q c A l w hr hq (.inr hn)).mono ?_
    rintro e w' ⟨rfl, hb⟩
    rw [hfi.1 (by omega), hE]
    exact ⟨_, rfl, ⟨rfl, .inl ⟨rfl, rfl⟩⟩, hb⟩
  · obtain ⟨N, rfl⟩ := Int.eq_ofNat_of_zero_le n1
    obtain ⟨M, rfl⟩ := Int.eq_ofNat_of_zero_le m1
    have hm : M ≠ 0 := by
      rintro rfl
      have : finE (N : Int) ((0 : Nat) : Int) l = 8 := by
        unfold finE
        rw [if_neg (by rw [hfit]; simp), if_pos ⟨rfl, hn⟩]
      omega
    have hne : l ≠ [] := by
      rintro rfl
      obtain ⟨s, hs, _⟩ := hcov 0 (by omega) (by omega)
      simp at hs
    exact refFinest_ok N M q c A l l' w hr hq hfit hE (by omega) hne (by simpa using hfi.2 (by omega))
set_option maxRecDepth 100000 in
set_option maxHeartbeats 2000000 in
theorem clusterFinest_any (n m : Int) (A : Option Addr) (q c : Nat) (l : List Cl) (w : World) (hr : Rd w 4 A q (cellsC l)) (hq : q ≤ maxLen) :
    Calls Try.prog 4 #[.int .i64 n, .int .i64 m, .slice A q c] w fun e w' => e = .returned (.bool true) ∧ Below w.heap.size w w' := by
  have HR := Lib.hid hr
  have HF := Lib.hid (few_any A q c l w hr hq)
  unfold maxLen at hq
  clear hr
  go_enter Try.func4, Try.ntmps4
  go_wp2_with fail
  refine HF.out.mono ?_
  rintro e w1 ⟨b, rfl, hfew, hb1⟩
  have HW := Lib.hid hfew
  clear hfew
  have hcase : b = false ∨ (b = true ∧ 60 < n ∧ n ≤ 16777216) ∨ (b = true ∧ n ≤ 60 ∧ 60 < m ∧ m ≤ 16777216) ∨ (b = true ∧ 16777216 < n ∧ 60 < m ∧ m ≤ 16777216) ∨ (b = true ∧ n ≤ 60 ∧ m ≤ 60) ∨ (b = true ∧ n ≤ 60 ∧ 16777216 < m) ∨ (b = true ∧ 16777216 < n ∧ m ≤ 60) ∨ (b = true ∧ 16777216 < n ∧ 16777216 < m) := by
    cases b
    · exact .inl rfl
    · simp only [true_and]
      omega
  rcases hcase with rfl | ⟨rfl, h1, h2⟩ | ⟨rfl, h1, h2, h3⟩ | ⟨rfl, h1, h2, h3⟩ | ⟨rfl, h1, h2⟩ | ⟨rfl, h1, h2⟩ | ⟨rfl, h1, h2⟩ | ⟨rfl, h1, h2⟩
  iterate 4
    · go_wp2_with fail
      refine (awakeCl_any w1).mono ?_
      rintro e w2 ⟨rfl, hb2⟩
      have hb3 := below_self hb1 hb2
      go_wp2_with fail
      go_ret
      exact ⟨rfl, hb3⟩
  all_goals
    obtain ⟨hq30, hx60⟩ := HW.out rfl
    clear hx60
    go_wp2_with fail
    refine (prFinest_all n m q c A l w1 (HR.out.below hb1) (by omega)).mono ?_
    rintro e w2 ⟨hans, hb2⟩
    have hb12 := below_self hb1 hb2
    rcases hans with ⟨hne, rfl⟩ | ⟨h0, n1, n2, m1, m2, hfit, hcov, v, l', rfl, hfi, hown⟩
    · go_wp2_with fail
      refine (refFinest_no n m q c A l w2 (HR.out.below hb12) (by omega) (.inl hne)).mono ?_
      rintro e w3 ⟨rfl, hb3⟩
      obtain ⟨er, her⟩ : ∃ er, finE n m l = er := ⟨_, rfl⟩
      rw [her]
      clear her hne
      have hb4 := below_self hb12 hb3
      go_wp2_with fail
      refine (equalC_b none none 0 0 0 0 [] [] w3 Rd.nil_ Rd.nil_ (by unfold maxLen; omega) (by unfold maxLen; omega)).mono ?_
      rintro e w4 ⟨rfl, hb5⟩
      rw [show decide (([] : List Cl) = []) = true from decide_eq_true rfl]
      have hb6 := below_self hb4 hb5
      go_wp2_with fail
      refine (awakeCl_any w4).mono ?_
      rintro e w5 ⟨rfl, hb7⟩
      have hb8 := below_self hb6 hb7
      go_wp2_with fail
      go_ret
      exact ⟨rfl, hb8⟩
    · have HRF := Lib.hid (refFinest_all n m q c A l l' w2 (HR.out.below hb12) (by omega) h0 n1 m1 hfit hcov hfi)
      obtain ⟨V, cv, rfl, _⟩ := own_form hown
      have hpb : l'.length ≤ 16777216 := by have := finIs_len hfi; omega
      have HL2 := Lib.hid (Rd.of_own hown)
      obtain ⟨p, hp⟩ : ∃ p, l'.length = p := ⟨_, rfl⟩
      rw [hp] at hpb HL2 HRF ⊢
      clear h0 hfit hcov hfi hown hp
      go_wp2_with fail
      refine HRF.out.mono ?_
      rintro e w3 ⟨v2, rfl, hown2, hb3⟩
      obtain ⟨V2, cv2, rfl, _⟩ := own_form hown2
      have HL3 := Lib.hid (Rd.of_own hown2)
      have hb4 := below_self hb12 hb3
      have HL4 := Lib.hid (HL2.out.below hb3)
      clear hown2
      go_wp2_with fail
      refine (equalC_b V V2 p p cv cv2 (l'.map NC.cl) (l'.map NC.cl) w3 HL4.out HL3.out (by unfold maxLen; omega) (by unfold maxLen; omega)).mono ?_
      rintro e w4 ⟨rfl, hb5⟩
      rw [show decide (l'.map NC.cl = l'.map NC.cl) = true from decide_eq_true rfl]
      have hb6 := below_self hb4 hb5
      go_wp2_with fail
      refine (awakeCl_any w4).mono ?_
      rintro e w5 ⟨rfl, hb7⟩
      have hb8 := below_self hb6 hb7
      go_wp2_with fail
      go_ret
      exact ⟨rfl, hb8⟩
end Go.Proofs.Ytmgoakfnmgngoaa
/- cluster.Compose, walked. -/
namespace Go.Proofs.Ytmgoakfnmgngoaa
open Go.RowKit

/-- The links of a behind b, as a set. -/
def LinkM (a b M : List Cl) : Prop := ∀ x, x ∈ M ↔ ∃ u ∈ a, ∃ v ∈ b, ov u.2 v.1 ∧ x = (u.1, v.2)
/-- Both are maps, and what comes out of a goes into b. -/
def CmOk (a b : List Cl) : Prop := checkC a (insS a) (outsS a) = true ∧ checkC b (outsS a) (outsS b) = true
theorem Same.perm {a b : List Cl} (h : Same a b) : a.Perm b := by
  rw [List.perm_iff_count]
  intro x
  have key : ∀ l : List Cl, l.count x = (ofKey (keyC x) l).count x := fun l => by
    unfold ofKey
    rw [List.count_filter (by simp)]
  rw [key a, key b, h]
theorem turn_run {a ys : List Cl} {n m : Int} (hc : checkC a n m = true) (hs : Same (a.map swapC) ys) (ht : SortC ys) : partsS (ys.map Prod.fst) m = true := by
  unfold checkC at hc
  rw [Bool.and_eq_true] at hc
  rw [← hc.2]
  refine parts_perm ?_ (sortR_sorted _) ?_ m
  · refine List.Perm.trans ?_ (sortR_perm _).symm
    have := (hs.perm.symm).map Prod.fst
    rwa [List.map_map] at this
  · unfold LoSorted
    unfold SortC at ht
    rw [List.pairwise_map]
    exact ht
theorem heads {xs ys : List Cl} {m k : Int} (hx : partsS (xs.map Prod.fst) m = true) (hy : partsS (ys.map Prod.fst) k = true) : Run (xs.map Prod.fst) ∧ Run (ys.map Prod.fst) ∧ Hd xs ys 0 0 := by
  obtain ⟨r1, z1⟩ := run_of (e := 0) hx
  obtain ⟨r2, z2⟩ := run_of (e := 0) hy
  refine ⟨r1, r2, fun s t hs ht => ?_⟩
  have e1 := z1 _ (at_fst hs)
  have e2 := z2 _ (at_fst ht)
  have h1 := r1.real _ _ (at_fst hs)
  have h2 := r2.real _ _ (at_fst ht)
  unfold ov
  omega
/-- What Compose answers. -/
def CmpAns (w w' : World) (a b : List Cl) (e : Ending) : Prop :=
  (¬ CmOk a b ∧ e = .returned (.tuple #[.slice none 0 0, .int .i64 13])) ∨
  (CmOk a b ∧ ∃ L, LinkM a b L ∧ ∃ w1 : World, w.heap.size ≤ w1.heap.size ∧ FinAns w1 w' (insS a) (outsS b) L e)
set_option maxRecDepth 100000 in
set_option maxHeartbeats 2000000 in
theorem prCompose_any (A B : Option Addr) (p q c d : Nat) (a b : List Cl) (w : World) (hA : Rd w 4 A p (cellsC a)) (hB : Rd w 4 B q (cellsC b)) (hp : p ≤ 1000) (hq : q ≤ 1000) (hqd : q ≤ d) (hd9 : d ≤ 9223372036854775807) :
    Calls Try.prog 19 #[.slice A p c, .slice B q d] w fun e w' => CmpAns w w' a b e ∧ Below w.heap.size w w' := by
  have HA := Lib.hid hA
  have HB := Lib.hid hB
  clear hA hB
  obtain ⟨n, hn⟩ : ∃ n, insS a = n := ⟨_, rfl⟩
  obtain ⟨m, hm⟩ : ∃ m, outsS a = m := ⟨_, rfl⟩
  obtain ⟨k, hk⟩ : ∃ k, outsS b = k := ⟨_, rfl⟩
  obtain ⟨n2, hn2⟩ : ∃ n2, insS b = n2 := ⟨_, rfl⟩
  obtain ⟨b1, hb1⟩ : ∃ b1, checkC a n m = b1 := ⟨_, rfl⟩
  obtain ⟨b2, hb2⟩ : ∃ b2, checkC b m k = b2 := ⟨_, rfl⟩
  have HN := Lib.hid hn
  have HM := Lib.hid hm
  have HK := Lib.hid hk
  have HN2 := Lib.hid hn2
  have HB1 := Lib.hid hb1
  have HB2 := Lib.hid hb2
  have HNO := Lib.hid (show b1 = false ∨ b2 = false → ¬ CmOk a b from fun h ⟨h1, h2⟩ => by
    rw [hn, hm, hb1] at h1
    rw [hm, hk, hb2] at h2
    rcases h with h | h
    · rw [h] at h1; cases h1
    · rw [h] at h2; cases h2)
  have HYES := Lib.hid (show b1 = true → b2 = true → CmOk a b from fun h1 h2 => by
    unfold CmOk
    rw [hn, hm, hk, hb1, hb2]
    exact ⟨h1, h2⟩)
  clear hn hm hk hn2 hb1 hb2
  go_enter Try.func19, Try.ntmps19
  go_wp2_with fail
  refine (prSizes_any A p c a _ HA.out (by omega)).mono ?_
  rintro e w1 ⟨rfl, hw1⟩
  rw [HN.out, HM.out]
  go_wp2_with fail
  refine (prSizes_any B q d b w1 (HB.out.below hw1) (by omega)).mono ?_
  rintro e w2 ⟨rfl, hw2'⟩
  rw [HN2.out, HK.out]
  have hw2 := below_self hw1 hw2'
  clear hw1 hw2'
  go_wp2_with fail
  refine (prCheckC_any A p c a n m w2 (HA.out.below hw2) (by omega)).mono ?_
  rintro e w3 ⟨rfl, hw3'⟩
  rw [HB1.out]
  have hw3 := below_self hw2 hw3'
  clear hw2 hw3'
  cases b1 with
  | false =>
    go_wp2_with fail
    exact bodyPost_ret (v := .tuple #[.slice none 0 0, .int .i64 13]) (by simp [results, go_sem]) rfl ⟨.inl ⟨HNO.out (by simp), rfl⟩, hw3⟩
  | true =>
    go_wp2_with fail
    refine (prCheckC_any B q d b m k w3 (HB.out.below hw3) (by omega)).mono ?_
    rintro e w4 ⟨rfl, hw4'⟩
    rw [HB2.out]
    have hw4 := below_self hw3 hw4'
    clear hw3 hw4'
    cases b2 with
    | false =>
      go_wp2_with fail
      exact bodyPost_ret (v := .tuple #[.slice none 0 0, .int .i64 13]) (by simp [results, go_sem]) rfl ⟨.inl ⟨HNO.out (by simp), rfl⟩, hw4⟩
    | true =>
      have HOK := Lib.hid (HYES.out (by simp) (by simp))
      go_wp2_with fail
      refine (prTurn_any A p c a w4 (HA.out.below hw4) (by omega)).mono ?_
      rintro e w5 ⟨v5, ys, rfl, ho5, hs5, ht5, hw5'⟩
      have hw5 := below_self hw4 hw5'
      obtain ⟨V5, c5, rfl, hc5⟩ := own_form ho5
      have hcap : c5 ≤ maxLen := by
        rcases ho5.2 with ⟨e, _⟩ | ⟨g, cap, cur, e, _, _, _, hcm, _⟩
        · injection e with _ _ e; subst e; exact Nat.zero_le _
        · injection e with _ _ e; subst e; exact hcm
      unfold maxLen at hcap
      have HY := Lib.hid (Rd.of_own ho5)
      have HS5 := Lib.hid hs5
      have HPS := Lib.hid (heads (turn_run HB1.out hs5 ht5) (show partsS (b.map Prod.fst) m = true by have := HB2.out; unfold checkC at this; rw [Bool.and_eq_true] at this; exact this.1))
      clear ho5 hs5 ht5 hw4 hw5'
      go_wp2_with fail
      refine (prThrough_any V5 B p q c5 d ys b w5 HY.out (HB.out.below hw5) (by omega) (by omega) hc5 hqd (by omega) hd9 HPS.out.1 HPS.out.2.1 HPS.out.2.2).mono ?_
      rintro e w6 ⟨v6, L, rfl, hL, ho6, hth, hw6'⟩
      have hw6 := below_self hw5 hw6'
      obtain ⟨V6, c6, rfl, hc6⟩ := own_form ho6
      have HL := Lib.hid (Rd.of_own ho6)
      have HTH := Lib.hid (show LinkM a b L from fun x => by
        rw [hth x]
        constructor
        · rintro ⟨u, hu, v, hv, h4, h5⟩
          obtain ⟨y, hy, rfl⟩ := List.mem_map.1 ((HS5.out.mem u).2 hu)
          exact ⟨y, hy, v, hv, h4, h5⟩
        · rintro ⟨u, hu, v, hv, h4, h5⟩
          exact ⟨swapC u, (HS5.out.mem _).1 (List.mem_map.2 ⟨u, hu, rfl⟩), v, hv, h4, h5⟩)
      obtain ⟨N, hN⟩ : ∃ N, L.length = N := ⟨_, rfl⟩
      rw [hN] at hL HL ⊢
      clear hN hth ho6 hw5 hw6'
      go_wp2_with fail
      refine (prFinest_all n k N c6 V6 L w6 HL.out (by omega)).mono ?_
      rintro e w7 ⟨hans, hw7'⟩
      have hw7 := below_self hw6 hw7'
      have HAN := Lib.hid (show FinAns w6 w7 n k L e → CmpAns w w7 a b e from fun h => .inr ⟨HOK.out, L, HTH.out, w6, hw6.size, by rw [HN.out, HK.out]; exact h⟩)
      have HAN2 := Lib.hid (HAN.out hans)
      rcases hans with ⟨hne, rfl⟩ | ⟨h0, n1, n2', m1, m2, hfit, hcov, v, l', rfl, hfi, hown⟩
      · obtain ⟨er, her⟩ : ∃ er, finE n k L = er := ⟨_, rfl⟩
        rw [her] at HAN2 ⊢
        clear her hne HAN
        go_wp2_with fail
        exact bodyPost_ret (v := .tuple #[.slice none 0 0, .int .i64 er]) (by simp [results, go_sem]) rfl ⟨HAN2.out, hw7⟩
      · clear h0 n1 n2' m1 m2 hfit hcov hfi hown HAN
        go_wp2_with fail
        exact bodyPost_ret (v := .tuple #[v, .int .i64 0]) (by simp [results, go_sem]) rfl ⟨HAN2.out, hw7⟩
end Go.Proofs.Ytmgoakfnmgngoaa
/- What Compose with Identity makes of a finest map; as mathematics. No program in this text. -/
namespace Go.Proofs.Ytmgoakfnmgngoaa

theorem ident_mem {n : Nat} {u : Cl} : u ∈ identS n ↔ ∃ i : Nat, i < n ∧ u = (((i : Int), (i : Int) + 1), ((i : Int), (i : Int) + 1)) := by
  unfold identS
  rw [List.mem_map]
  constructor
  · rintro ⟨i, hi, rfl⟩; exact ⟨i, List.mem_range.1 hi, rfl⟩
  · rintro ⟨i, hi, rfl⟩; exact ⟨i, List.mem_range.2 hi, rfl⟩
/-- The links of Identity behind a map. -/
theorem ahead_links {n : Nat} {l : List NC} {L : List Cl} (hl : ∀ y ∈ l, y.a < y.b ∧ y.b ≤ n) (h : LinkM (identS n) (l.map NC.cl) L) (x : Cl) : x ∈ L ↔ ∃ y ∈ l, ∃ i : Nat, y.a ≤ i ∧ i < y.b ∧ x = (((i : Int), (i : Int) + 1), ((y.c : Int), (y.d : Int))) := by
  rw [h x]
  constructor
  · rintro ⟨u, hu, v, hv, ho, rfl⟩
    obtain ⟨i, hi, rfl⟩ := ident_mem.1 hu
    obtain ⟨y, hy, rfl⟩ := List.mem_map.1 hv
    simp only [ov, NC.cl] at ho
    exact ⟨y, hy, i, by omega, by omega, rfl⟩
  · rintro ⟨y, hy, i, h1, h2, rfl⟩
    have := hl y hy
    refine ⟨_, ident_mem.2 ⟨i, by omega, rfl⟩, _, List.mem_map.2 ⟨y, hy, rfl⟩, ?_, rfl⟩
    simp only [ov, NC.cl]
    omega
/-- The links of a map behind Identity. -/
theorem behind_links {m : Nat} {l : List NC} {L : List Cl} (hl : ∀ y ∈ l, y.c < y.d ∧ y.d ≤ m) (h : LinkM (l.map NC.cl) (identS m) L) (x : Cl) : x ∈ L ↔ ∃ y ∈ l, ∃ j : Nat, y.c ≤ j ∧ j < y.d ∧ x = (((y.a : Int), (y.b : Int)), ((j : Int), (j : Int) + 1)) := by
  rw [h x]
  constructor
  · rintro ⟨v, hv, u, hu, ho, rfl⟩
    obtain ⟨j, hj, rfl⟩ := ident_mem.1 hu
    obtain ⟨y, hy, rfl⟩ := List.mem_map.1 hv
    simp only [ov, NC.cl] at ho
    exact ⟨y, hy, j, by omega, by omega, rfl⟩
  · rintro ⟨y, hy, j, h1, h2, rfl⟩
    have := hl y hy
    refine ⟨_, List.mem_map.2 ⟨y, hy, rfl⟩, _, ident_mem.2 ⟨j, by omega, rfl⟩, ?_, rfl⟩
    simp only [ov, NC.cl]
    omega
theorem nc_ahead (i c d : Nat) : ncOf (((i : Int), (i : Int) + 1), ((c : Int), (d : Int))) = ⟨i, i + 1, c, d⟩ := by
  unfold ncOf
  congr 1
theorem nc_behind (a b j : Nat) : ncOf (((a : Int), (b : Int)), ((j : Int), (j : Int) + 1)) = ⟨a, b, j, j + 1⟩ := by
  unfold ncOf
  congr 1
theorem fit_of {n m : Nat} {L : List Cl} (hn : n ≤ 1000) (hm : m ≤ 1000) (h : ∀ x ∈ L, fitC (n : Int) (m : Int) x = true) : fitB (n : Int) (m : Int) L = true := by
  unfold fitB fitN
  rw [Bool.and_eq_true, List.all_eq_true]
  exact ⟨decide_eq_true (by omega), h⟩
theorem finE_zero {n m : Nat} {L : List Cl} (hn : n ≠ 0) (hm : m ≠ 0) (hf : fitB (n : Int) (m : Int) L = true) (hc : CovP (m : Int) L) : finE (n : Int) (m : Int) L = 0 := by
  unfold finE
  rw [if_neg (by rw [hf]; simp), if_neg (by omega), if_neg (by omega), if_pos hc]
/-- What is owed of the links of a composition that is the map again. -/
structure Back (n m : Nat) (l : List NC) (L : List Cl) : Prop where
  fit : fitB (n : Int) (m : Int) L = true
  cov : CovP (m : Int) L
  zero : finE (n : Int) (m : Int) L = 0
  is_ : FinIs n m L l
theorem back_ahead {n m : Nat} {l0 L : List Cl} {l : List NC} (hf : FinIs n m l0 l) (hn : n ≠ 0) (hm : m ≠ 0) (hn9 : n ≤ 1000) (hm9 : m ≤ 1000) (hcov : ∀ j, j < m → ∃ x ∈ l, x.c ≤ j ∧ j < x.d) (h : LinkM (identS n) (l.map NC.cl) L) : Back n m l L := by
  have hF := hf.2 hn
  have ht := Tiles.from_ hF.tiles
  have hl := ahead_links (fun y hy => ⟨(ht y hy).2.1, (ht y hy).2.2⟩) h
  have hfit : fitB (n : Int) (m : Int) L = true := fit_of hn9 hm9 fun x hx => by
    obtain ⟨y, hy, i, h1, h2, rfl⟩ := (hl x).1 hx
    have := ht y hy
    have := hF.out y hy
    simp [fitC, rightB]
    omega
  have hc : CovP (m : Int) L := fun j h0 hj => by
    obtain ⟨y, hy, h1, h2⟩ := hcov j.toNat (by omega)
    have := ht y hy
    exact ⟨_, List.mem_map.2 ⟨_, (hl _).2 ⟨y, hy, y.a, Nat.le_refl _, by omega, rfl⟩, rfl⟩, by simp only; omega, by simp only; omega⟩
  have hmem : ∀ y ∈ l, ∀ i, y.a ≤ i → i < y.b → (⟨i, i + 1, y.c, y.d⟩ : NC) ∈ L.map ncOf := fun y hy i h1 h2 => List.mem_map.2 ⟨_, (hl _).2 ⟨y, hy, i, h1, h2, rfl⟩, nc_ahead _ _ _⟩
  refine ⟨hfit, hc, finE_zero hn hm hfit hc, hf.again hn hcov (fun i hi => ?_) (fun y hy => ?_) (fun x hx p q hp hq => ?_)⟩
  · obtain ⟨y, hy, h1, h2⟩ := Tiles.cover hF.tiles i (Nat.zero_le _) hi
    have := hF.out y hy
    exact ⟨_, hmem y hy i h1 h2, show i < i + 1 ∧ y.c < y.d by omega, Nat.le_refl _, Nat.lt_succ_self _⟩
  · obtain ⟨z, hz, rfl⟩ := List.mem_map.1 hy
    obtain ⟨x, hx, i, h1, h2, rfl⟩ := (hl z).1 hz
    rw [nc_ahead]
    exact ⟨x, hx, h1, h2, Nat.le_refl _, Nat.le_refl _⟩
  · have hx1 := ht x hx
    have hx2 := hF.out x hx
    have key : ∀ p : Pl, x.has p → Tog (L.map ncOf) p (true, x.c) := fun p hp => by
      obtain ⟨s, i⟩ := p
      cases s with
      | false =>
        have h' : x.a ≤ i ∧ i < x.b := hp
        exact .link _ _ _ (hmem x hx i h'.1 h'.2) (show i ≤ i ∧ i < i + 1 by omega) (show x.c ≤ x.c ∧ x.c < x.d by omega)
      | true =>
        have h' : x.c ≤ i ∧ i < x.d := hp
        exact .link _ _ _ (hmem x hx x.a (Nat.le_refl _) hx1.2.1) (show x.c ≤ i ∧ i < x.d from h') (show x.c ≤ x.c ∧ x.c < x.d by omega)
    exact .trans _ _ _ (key p hp) (.symm _ _ (key q hq))
theorem back_behind {n m : Nat} {l0 L : List Cl} {l : List NC} (hf : FinIs n m l0 l) (hn : n ≠ 0) (hm : m ≠ 0) (hn9 : n ≤ 1000) (hm9 : m ≤ 1000) (hcov : ∀ j, j < m → ∃ x ∈ l, x.c ≤ j ∧ j < x.d) (h : LinkM (l.map NC.cl) (identS m) L) : Back n m l L := by
  have hF := hf.2 hn
  have ht := Tiles.from_ hF.tiles
  have hl := behind_links (fun y hy => hF.out y hy) h
  have hfit : fitB (n : Int) (m : Int) L = true := fit_of hn9 hm9 fun x hx => by
    obtain ⟨y, hy, i, h1, h2, rfl⟩ := (hl x).1 hx
    have := ht y hy
    have := hF.out y hy
    simp [fitC, rightB]
    omega
  have hc : CovP (m : Int) L := fun j h0 hj => by
    obtain ⟨y, hy, h1, h2⟩ := hcov j.toNat (by omega)
    exact ⟨_, List.mem_map.2 ⟨_, (hl _).2 ⟨y, hy, j.toNat, h1, h2, rfl⟩, rfl⟩, by simp only; omega, by simp only; omega⟩
  have hmem : ∀ y ∈ l, ∀ i, y.c ≤ i → i < y.d → (⟨y.a, y.b, i, i + 1⟩ : NC) ∈ L.map ncOf := fun y hy i h1 h2 => List.mem_map.2 ⟨_, (hl _).2 ⟨y, hy, i, h1, h2, rfl⟩, nc_behind _ _ _⟩
  refine ⟨hfit, hc, finE_zero hn hm hfit hc, hf.again hn hcov (fun i hi => ?_) (fun y hy => ?_) (fun x hx p q hp hq => ?_)⟩
  · obtain ⟨y, hy, h1, h2⟩ := Tiles.cover hF.tiles i (Nat.zero_le _) hi
    have := hF.out y hy
    exact ⟨_, hmem y hy y.c (Nat.le_refl _) this.1, show y.a < y.b ∧ y.c < y.c + 1 by omega, h1, h2⟩
  · obtain ⟨z, hz, rfl⟩ := List.mem_map.1 hy
    obtain ⟨x, hx, i, h1, h2, rfl⟩ := (hl z).1 hz
    rw [nc_behind]
    exact ⟨x, hx, Nat.le_refl _, Nat.le_refl _, h1, h2⟩
  · have hx1 := ht x hx
    have hx2 := hF.out x hx
    have key : ∀ p : Pl, x.has p → Tog (L.map ncOf) p (false, x.a) := fun p hp => by
      obtain ⟨s, i⟩ := p
      cases s with
      | false =>
        have h' : x.a ≤ i ∧ i < x.b := hp
        exact .link _ _ _ (hmem x hx x.c (Nat.le_refl _) hx2.1) (show x.a ≤ i ∧ i < x.b from h') (show x.a ≤ x.a ∧ x.a < x.b by omega)
      | true =>
        have h' : x.c ≤ i ∧ i < x.d := hp
        exact .link _ _ _ (hmem x hx i h'.1 h'.2) (show i ≤ i ∧ i < i + 1 by omega) (show x.a ≤ x.a ∧ x.a < x.b by omega)
    exact .trans _ _ _ (key p hp) (.symm _ _ (key q hq))
/-- The greatest end. -/
theorem fold_end {f : Cl → Int} : ∀ {l : List Cl} {y m : Int}, y ≤ m → (∀ x ∈ l, f x ≤ m) → (y = m ∨ ∃ x ∈ l, f x = m) → l.foldl (fun n c => if n < f c then f c else n) y = m
  | [], y, m, _, _, h => by
    rcases h with h | ⟨x, hx, _⟩
    · exact h
    · simp at hx
  | x :: l, y, m, h1, h2, h3 => by
    have hx := h2 x (List.mem_cons_self ..)
    show l.foldl _ (if y < f x then f x else y) = m
    refine fold_end (by split <;> omega) (fun z hz => h2 z (List.mem_cons_of_mem _ hz)) ?_
    rcases h3 with h | ⟨z, hz, e⟩
    · left; split <;> omega
    · rcases List.mem_cons.1 hz with rfl | hz
      · left; split <;> omega
      · exact .inr ⟨z, hz, e⟩
theorem ins_end {l : List Cl} {m : Int} (h0 : 0 ≤ m) (h : ∀ x ∈ l, x.1.2 ≤ m) (k : m = 0 ∨ ∃ x ∈ l, x.1.2 = m) : insS l = m := fold_end (f := fun c => c.1.2) h0 h (k.imp_left Eq.symm)
theorem outs_end {l : List Cl} {m : Int} (h0 : 0 ≤ m) (h : ∀ x ∈ l, x.2.2 ≤ m) (k : m = 0 ∨ ∃ x ∈ l, x.2.2 = m) : outsS l = m := fold_end (f := fun c => c.2.2) h0 h (k.imp_left Eq.symm)
end Go.Proofs.Ytmgoakfnmgngoaa
