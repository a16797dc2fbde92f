/- Texts of one claim, one behind the other. -/
import Derived.Test.YtmgoakfnmgngoaaMgCp20
/- The reference's Compose, walked. -/
namespace Go.Proofs.Ytmgoakfnmgngoaa
open Go.RowKit

/-- The links so far. -/
def LkR (a b : List Cl) (i j : Nat) (M : List Cl) : Prop := ∀ x, x ∈ M ↔ ∃ p q u v, a[p]? = some u ∧ b[q]? = some v ∧ (p < i ∨ (p = i ∧ q < j)) ∧ ov u.2 v.1 ∧ x = (u.1, v.2)
theorem LkR.zero (a b : List Cl) : LkR a b 0 0 [] := fun x => ⟨fun h => (by simp at h), fun ⟨p, q, u, v, _, _, h, _⟩ => by omega⟩
theorem LkR.yes {a b : List Cl} {i j : Nat} {M : List Cl} {s t : Cl} (h : LkR a b i j M) (hs : a[i]? = some s) (ht : b[j]? = some t) (ho : ov s.2 t.1) : LkR a b i (j + 1) (M ++ [(s.1, t.2)]) := fun x => by
  rw [List.mem_append, List.mem_singleton, h x]
  constructor
  · rintro (⟨p, q, u, v, h1, h2, h3, h4, h5⟩ | rfl)
    · exact ⟨p, q, u, v, h1, h2, by omega, h4, h5⟩
    · exact ⟨i, j, s, t, hs, ht, by omega, ho, rfl⟩
  · rintro ⟨p, q, u, v, h1, h2, h3, h4, h5⟩
    by_cases c : p < i ∨ (p = i ∧ q < j)
    · exact .inl ⟨p, q, u, v, h1, h2, c, h4, h5⟩
    · right
      obtain rfl : p = i := by omega
      obtain rfl : q = j := by omega
      rw [hs] at h1; rw [ht] at h2
      obtain rfl := Option.some.inj h1
      obtain rfl := Option.some.inj h2
      exact h5
theorem LkR.no {a b : List Cl} {i j : Nat} {M : List Cl} {s t : Cl} (h : LkR a b i j M) (hs : a[i]? = some s) (ht : b[j]? = some t) (ho : ¬ ov s.2 t.1) : LkR a b i (j + 1) M := fun x => by
  rw [h x]
  constructor
  · rintro ⟨p, q, u, v, h1, h2, h3, h4, h5⟩
    exact ⟨p, q, u, v, h1, h2, by omega, h4, h5⟩
  · rintro ⟨p, q, u, v, h1, h2, h3, h4, h5⟩
    refine ⟨p, q, u, v, h1, h2, ?_, h4, h5⟩
    by_cases c : p < i ∨ (p = i ∧ q < j)
    · exact c
    · exfalso
      obtain rfl : p = i := by omega
      obtain rfl : q = j := by omega
      rw [hs] at h1; rw [ht] at h2
      obtain rfl := Option.some.inj h1
      obtain rfl := Option.some.inj h2
      exact ho h4
theorem LkR.row {a b : List Cl} {i j : Nat} {M : List Cl} (h : LkR a b i j M) (hj : b.length ≤ j) : LkR a b (i + 1) 0 M := fun x => by
  rw [h x]
  constructor
  · rintro ⟨p, q, u, v, h1, h2, h3, h4, h5⟩
    exact ⟨p, q, u, v, h1, h2, by omega, h4, h5⟩
  · rintro ⟨p, q, u, v, h1, h2, h3, h4, h5⟩
    have := (List.getElem?_eq_some_iff.1 h2).1
    exact ⟨p, q, u, v, h1, h2, by omega, h4, h5⟩
theorem LkR.stop {a b : List Cl} {i : Nat} {M : List Cl} (h : LkR a b i 0 M) (hi : a.length ≤ i) : LinkM a b M := fun x => by
  rw [h x]
  constructor
  · rintro ⟨p, q, u, v, h1, h2, _, h4, h5⟩
    exact ⟨u, List.mem_of_getElem? h1, v, List.mem_of_getElem? h2, h4, h5⟩
  · rintro ⟨u, hu, v, hv, h4, h5⟩
    obtain ⟨p, hp⟩ := List.getElem?_of_mem hu
    obtain ⟨q, hq⟩ := List.getElem?_of_mem hv
    have := (List.getElem?_eq_some_iff.1 hp).1
    exact ⟨p, q, u, v, hp, hq, by omega, h4, h5⟩
/-- What the reference's Compose answers where Finest of the links is known. -/
def RefAns (w w' : World) (n k : Int) (L : List Cl) (l' : List NC) (e : Ending) : Prop :=
  (finE n k L ≠ 0 → e = .returned (.tuple #[.slice none 0 0, .int .i64 (finE n k L)])) ∧
  (finE n k L = 0 → 0 ≤ n → 0 ≤ k → fitB n k L = true → CovP k L → FinIs n.toNat k.toNat L l' → ∃ v, e = .returned (.tuple #[v, .int .i64 0]) ∧ w'.ownsRow w.heap.size 33 4 v l'.length (cellsC (l'.map NC.cl)))
set_option maxRecDepth 100000 in
set_option maxHeartbeats 2000000 in
theorem refCompose_ok (A B : Option Addr) (p q c d : Nat) (a b L : List Cl) (l' : List NC) (w : World) (hA : Rd w 4 A p (cellsC a)) (hB : Rd w 4 B q (cellsC b)) (hp : p ≤ 30) (hq : q ≤ 30) (hok : CmOk a b) (hL : LinkM a b L)
    (hans : finE (insS a) (outsS b) L ≠ 0 ∨ (finE (insS a) (outsS b) L = 0 ∧ 0 ≤ insS a ∧ 0 ≤ outsS b ∧ fitB (insS a) (outsS b) L = true ∧ CovP (outsS b) L ∧ FinIs (insS a).toNat (outsS b).toNat L l')) :
    Calls Try.prog 20 #[.slice A p c, .slice B q d] w fun e w' => ((finE (insS a) (outsS b) L ≠ 0 ∧ e = .returned (.tuple #[.slice none 0 0, .int .i64 (finE (insS a) (outsS b) L)])) ∨ (finE (insS a) (outsS b) L = 0 ∧ ∃ v, e = .returned (.tuple #[v, .int .i64 0]) ∧ w'.ownsRow w.heap.size 33 4 v l'.length (cellsC (l'.map NC.cl)))) ∧ Below w.heap.size w w' := by
  have hla : a.length = p := by have := hA.1; rw [cellsC_len] at this; omega
  have hlb : b.length = q := by have := hB.1; rw [cellsC_len] at this; omega
  have HLA := Lib.hid hla
  have HLB := Lib.hid hlb
  have HA := Lib.hid hA
  have HB := Lib.hid hB
  clear hA hB hla hlb
  obtain ⟨n, hn⟩ : ∃ n, insS a = n := ⟨_, rfl⟩
  obtain ⟨m, hm⟩ : ∃ m, outsS a = m := ⟨_, rfl⟩
  obtain ⟨k, hk⟩ : ∃ k, outsS b = k := ⟨_, rfl⟩
  unfold CmOk at hok
  rw [hn, hm, hk] at hok
  rw [hn, hk] at hans ⊢
  have HOK := Lib.hid hok
  have HN := Lib.hid hn
  have HM := Lib.hid hm
  have HK := Lib.hid hk
  have HANS := Lib.hid hans
  have HL := Lib.hid hL
  clear hn hm hk hok hans hL
  have HFIN := Lib.hid (show ∀ (M : List Cl) (W : World) (V : Option Addr) (N cv : Nat), LinkM a b M → Rd W 4 V N (cellsC M) → N ≤ 1000000 → Calls Try.prog 17 #[.int .i64 n, .int .i64 k, .slice V N cv] W fun e w' => ((finE n k L ≠ 0 ∧ e = .returned (.tuple #[.slice none 0 0, .int .i64 (finE n k L)])) ∨ (finE n k L = 0 ∧ ∃ v, e = .returned (.tuple #[v, .int .i64 0]) ∧ w'.ownsRow W.heap.size 33 4 v l'.length (cellsC (l'.map NC.cl)))) ∧ Below W.heap.size W w' from fun M W V N cv hM hr hN => by
    have hmem : ∀ x, x ∈ L ↔ x ∈ M := fun x => (HL.out x).trans (hM x).symm
    have hfe := finE_mem (n := n) (m := k) hmem
    rcases HANS.out with h | ⟨h0, n1, k1, hfit, hcov, hfi⟩
    · refine (refFinest_no n k N cv V M W hr hN (.inl (by rw [← hfe]; exact h))).mono ?_
      rintro e w' ⟨rfl, hb⟩
      exact ⟨.inl ⟨h, by rw [hfe]⟩, hb⟩
    · refine (refFinest_all n k N cv V M l' W hr hN (by rw [← hfe]; exact h0) n1 k1 (by rw [← fitB_mem hmem]; exact hfit) ((covP_mem hmem).1 hcov) (finIs_mem hmem hfi)).mono ?_
      rintro e w' ⟨v, rfl, ho, hb⟩
      exact ⟨.inr ⟨h0, v, rfl, ho⟩, hb⟩)
  obtain ⟨er, her⟩ : ∃ er, finE n k L = er := ⟨_, rfl⟩
  rw [her] at HFIN ⊢
  clear her HANS HL
  go_enter Try.func20, Try.ntmps20
  go_wp2_with fail
  refine (ref_ins_any A p c a _ HA.out (by unfold maxLen; omega)).mono ?_
  rintro e w1 ⟨rfl, hw1⟩
  have hw1 := hw1.symm
  subst hw1
  rw [HN.out]
  go_wp2_with fail
  refine (ref_outs_any A p c a _ HA.out (by unfold maxLen; omega)).mono ?_
  rintro e w1 ⟨rfl, hw1⟩
  have hw1 := hw1.symm
  subst hw1
  rw [HM.out]
  go_wp2_with fail
  refine (ref_outs_any B q d b _ HB.out (by unfold maxLen; omega)).mono ?_
  rintro e w1 ⟨rfl, hw1⟩
  have hw1 := hw1.symm
  subst hw1
  rw [HK.out]
  go_wp2_with fail
  refine (refCheckC_any A p c a n m _ HA.out (by omega)).mono ?_
  rintro e w3 ⟨rfl, hw3⟩
  rw [HOK.out.1]
  go_wp2_with fail
  refine (refCheckC_any B q d b m k w3 (HB.out.below hw3) (by omega)).mono ?_
  rintro e w4 ⟨rfl, hw4'⟩
  rw [HOK.out.2]
  have hw4 := below_self hw3 hw4'
  clear hw3 hw4'
  go_wp2_with fail
  go_loopw [9, 10] (fun v x wr => ∃ (i : Nat) (M : List Cl), i ≤ p ∧ x = .int .i64 (i : Int) ∧ LkR a b i 0 M ∧ M.length ≤ 30 * i ∧ wr.ownsRow w.heap.size 33 4 v M.length (cellsC M) ∧ Below w.heap.size w wr) (fun _ x _ => p - (intOf x).toNat)
  case atStart => exact ⟨0, [], Nat.zero_le _, rfl, LkR.zero _ _, Nat.le_refl _, ⟨rfl, .inl ⟨rfl, rfl⟩⟩, hw4⟩
  case round =>
    clear hw4
    obtain ⟨i, M, hip, rfl, hlk, hlen, hown, hb⟩ := hrel
    have HLK := Lib.hid hlk
    have HLE := Lib.hid hlen
    have HOW := Lib.hid hown
    clear hlk hlen hown
    by_cases hlt : i < p
    · go_wp2_with fail
      go_loopw [9, 11] (fun v x wr => ∃ (j : Nat) (M : List Cl), j ≤ q ∧ x = .int .i64 (j : Int) ∧ LkR a b i j M ∧ M.length ≤ 30 * i + j ∧ wr.ownsRow w.heap.size 33 4 v M.length (cellsC M) ∧ Below w.heap.size w wr) (fun _ x _ => q - (intOf x).toNat)
      case atStart => exact ⟨0, M, Nat.zero_le _, rfl, HLK.out, HLE.out, HOW.out, hb⟩
      case round =>
        clear HLK HLE HOW hb
        obtain ⟨j, M, hjq, rfl, hlk, hlen, hown, hb⟩ := hrel
        have HLK := Lib.hid hlk
        have HLE := Lib.hid hlen
        by_cases hlt2 : j < q
        · obtain ⟨s, hs⟩ : ∃ s, a[i]? = some s := ⟨_, List.getElem?_eq_getElem (by rw [HLA.out]; exact hlt)⟩
          obtain ⟨t, ht⟩ : ∃ t, b[j]? = some t := ⟨_, List.getElem?_eq_getElem (by rw [HLB.out]; exact hlt2)⟩
          obtain ⟨ad, rfl, hab, a0, a1, a2, a3⟩ := HA.out.clus hs
          obtain ⟨bd, rfl, hbb, b0, b1, b2, b3⟩ := HB.out.clus ht
          have HYES := Lib.hid (fun h => hlk.yes hs ht h)
          have HNO := Lib.hid (fun h => hlk.no hs ht h)
          obtain ⟨⟨s1, s2⟩, s3, s4⟩ := s
          obtain ⟨⟨t1, t2⟩, t3, t4⟩ := t
          simp only [ov] at a0 a1 a2 a3 b0 b1 b2 b3 HYES HNO
          have c2 := cell_below hb a2
          have c3 := cell_below hb a3
          have d0 := cell_below hb b0
          have d1 := cell_below hb b1
          have HKB := Lib.hid (show ∀ w', Below w.heap.size w w' → w'.cell? (ad.add (i * 4)) = some (.int .i64 s1) ∧ w'.cell? { block := (ad.add (i * 4)).block, off := (ad.add (i * 4)).off + 1 } = some (.int .i64 s2) ∧ w'.cell? { block := (bd.add (j * 4)).block, off := (bd.add (j * 4)).off + 2 } = some (.int .i64 t3) ∧ w'.cell? { block := (bd.add (j * 4)).block, off := (bd.add (j * 4)).off + 2 + 1 } = some (.int .i64 t4) from fun w' h => ⟨cell_below h a0, cell_below h a1, cell_below h b2, cell_below h b3⟩)
          clear a0 a1 a2 a3 b0 b1 b2 b3
          obtain ⟨N, hN⟩ : ∃ N, M.length = N := ⟨_, rfl⟩
          have hNb : N ≤ 2000 := by omega
          have HN9 := Lib.hid hN
          rw [hN] at hown
          obtain ⟨V, cv, rfl, hcv⟩ := own_form hown
          have HOW2 := Lib.hid hown
          clear hab hbb hs ht hlk hlen hN hown
          have hcc : ¬ s3 < t2 ∨ (s3 < t2 ∧ ¬ t1 < s4) ∨ (s3 < t2 ∧ t1 < s4) := by omega
          rcases hcc with e1 | ⟨e1, e2⟩ | ⟨e1, e2⟩
          · have HR := Lib.hid (HNO.out (fun h => e1 h.1))
            have g1 : decide (s3 < t2) = false := decide_eq_false e1
            go_wp2_with fail
            go_quiet (fail)
            go_wp2_with fail
            go_roundw
            case rel => exact ⟨j + 1, M, by omega, by go_num, HR.out, by have := HLE.out; omega, by rw [HN9.out]; exact (own_below HOW2.out (drewBelow nq)), hb.trans ((drewBelow nq).mono hb.size)⟩
            case measure => simp [intOf]; omega
          · have HR := Lib.hid (HNO.out (fun h => e2 h.2))
            have g1 : decide (s3 < t2) = true := decide_eq_true e1
            have g2 : decide (t1 < s4) = false := decide_eq_false e2
            go_wp2_with fail
            go_quiet (fail)
            go_wp2_with fail
            go_roundw
            case rel => exact ⟨j + 1, M, by omega, by go_num, HR.out, by have := HLE.out; omega, by rw [HN9.out]; exact (own_below HOW2.out (drewBelow nq)), hb.trans ((drewBelow nq).mono hb.size)⟩
            case measure => simp [intOf]; omega
          · have HR := Lib.hid (HYES.out ⟨e1, e2⟩)
            have g1 : decide (s3 < t2) = true := decide_eq_true e1
            have g2 : decide (t1 < s4) = true := decide_eq_true e2
            have HL1 := Lib.hid (show cellsC (M ++ [((s1, s2), (t3, t4))]) = cellsC M ++ [.int .i64 s1, .int .i64 s2, .int .i64 t3, .int .i64 t4] by rw [cellsC_snoc])
            go_wp2_with fail
            go_quiet (fail)
            go_wp2_with fail
            have hbq : Below w.heap.size w (wr.drewN nq) := hb.trans ((drewBelow nq).mono hb.size)
            have HOW3 := Lib.hid (own_below HOW2.out (drewBelow nq))
            clear c2 c3 d0 d1 HOW2
            generalize wr.drewN nq = wq at *
            go_region_held3 (fun w' => w'.cell? (ad.add (i * 4)) = some (.int .i64 s1) ∧ w'.cell? { block := (ad.add (i * 4)).block, off := (ad.add (i * 4)).off + 1 } = some (.int .i64 s2) ∧ w'.cell? { block := (bd.add (j * 4)).block, off := (bd.add (j * 4)).off + 2 } = some (.int .i64 t3) ∧ w'.cell? { block := (bd.add (j * 4)).block, off := (bd.add (j * 4)).off + 2 + 1 } = some (.int .i64 t4))
              (first
                | exact HKB.out _ hbq
                | exact HKB.out _ hbq.drew
                | exact HKB.out _ (hbq.alloc hbq.size (.cells #[.int .i64 s1, .int .i64 s2, .int .i64 t3, .int .i64 t4] 33))
                | exact HKB.out _ (hbq.alloc hbq.size (.cells #[.int .i64 s1, .int .i64 s2, .int .i64 t3, .int .i64 t4] 33)).drew
                | exact HKB.out _ HB1
                | fail)
              (first
                | (refine step_appR rfl _ _ _ rfl clusSlice (by decide) (.slice V N cv) N _ rfl (HOW3.out.alloc (.cells #[.int .i64 s1, .int .i64 s2, .int .i64 t3, .int .i64 t4] 33)).drew _ 1 1 [.int .i64 s1, .int .i64 s2, .int .i64 t3, .int .i64 t4] rfl (rd_blk (m := 1) (cs := [.int .i64 s1, .int .i64 s2, .int .i64 t3, .int .i64 t4]) 4 (heap_alloc_new wq (.cells #[.int .i64 s1, .int .i64 s2, .int .i64 t3, .int .i64 t4] 33)) rfl) (oneInt4 _ _ _ _ _) (by omega) (by unfold maxLen; omega) (by have := hbq.size; simp; omega) _ rfl ?_; intro v1 w1 hown1 hgr1 hat1; have HB1 : Below w.heap.size w w1 := (hbq.alloc hbq.size (.cells #[.int .i64 s1, .int .i64 s2, .int .i64 t3, .int .i64 t4] 33)).drew.grown hgr1 (by have := hbq.size; simp; omega) (fun k h => (HOW3.out.lt k h).1))
                | fail)
            all_goals
              have HOF := Lib.hid (show w1.ownsRow w.heap.size 33 4 v1 (M ++ [((s1, s2), (t3, t4))]).length (cellsC (M ++ [((s1, s2), (t3, t4))])) by rw [List.length_append, HN9.out, HL1.out]; exact hown1)
              clear hat1 hgr1 hown1
              go_wp2_with fail
              go_roundw
              case rel => exact ⟨j + 1, M ++ [((s1, s2), (t3, t4))], by omega, by go_num, HR.out, by rw [List.length_append, List.length_singleton]; have := HLE.out; omega, HOF.out, HB1⟩
              case measure => simp [intOf]; omega
        · have hjq2 : j = q := by omega
          have HR := Lib.hid (hlk.row (i := i) (j := j) (by rw [HLB.out]; omega))
          have HOW3 := Lib.hid hown
          have hlen2 : M.length ≤ 30 * (i + 1) := by omega
          have HL2 := Lib.hid hlen2
          clear hlk hlen hown hlen2 hjq2
          go_wp2_with fail
          go_roundw
          case rel => exact ⟨i + 1, M, by omega, by go_num, HR.out, HL2.out, HOW3.out, hb⟩
          case measure => simp [intOf]; omega
    · have HF := Lib.hid (show LinkM a b M from HLK.out.stop (by rw [HLA.out]; omega))
      have hN2 : M.length ≤ 1000 := by have := HLE.out; omega
      obtain ⟨N, hN⟩ : ∃ N, M.length = N := ⟨_, rfl⟩
      rw [hN] at hN2
      have hown := HOW.out
      rw [hN] at hown
      obtain ⟨V, cv, rfl, hcv⟩ := own_form hown
      have HRD := Lib.hid (Rd.of_own hown)
      clear hown hN
      go_wp2_with fail
      refine (HFIN.out M wr V N cv HF.out HRD.out (by omega)).mono ?_
      rintro e w9 ⟨hans, hw9'⟩
      have hw9 := below_self hb hw9'
      have hbs := hb.size
      rcases hans with ⟨hne, rfl⟩ | ⟨h0, v, rfl, ho⟩
      · go_wp2_with fail
        exact bodyPost_ret (v := .tuple #[.slice none 0 0, .int .i64 er]) (by simp [results, go_sem]) rfl ⟨.inl ⟨hne, rfl⟩, hw9⟩
      · have HO := Lib.hid (own_base ho hbs)
        clear ho
        go_wp2_with fail
        exact bodyPost_ret (v := .tuple #[v, .int .i64 0]) (by simp [results, go_sem]) rfl ⟨.inr ⟨h0, v, rfl, HO.out⟩, hw9⟩
end Go.Proofs.Ytmgoakfnmgngoaa
/- naskhlaw04's ClusterComposes, walked. -/
namespace Go.Proofs.Ytmgoakfnmgngoaa
open Go.RowKit

set_option maxRecDepth 100000 in
set_option maxHeartbeats 1000000 in
theorem refCompose_no (A B : Option Addr) (p q c d : Nat) (a b : List Cl) (w : World) (hA : Rd w 4 A p (cellsC a)) (hB : Rd w 4 B q (cellsC b)) (hp : p ≤ 30) (hq : q ≤ 30) (hno : ¬ CmOk a b) :
    Calls Try.prog 20 #[.slice A p c, .slice B q d] w fun e w' => e = .returned (.tuple #[.slice none 0 0, .int .i64 13]) ∧ Below w.heap.size w w' := by
  have HA := Lib.hid hA
  have HB := Lib.hid hB
  clear hA hB
  obtain ⟨n, hn⟩ : ∃ n, insS a = n := ⟨_, rfl⟩
  obtain ⟨m, hm⟩ : ∃ m, outsS a = m := ⟨_, rfl⟩
  obtain ⟨k, hk⟩ : ∃ k, outsS b = k := ⟨_, rfl⟩
  obtain ⟨b1, hb1⟩ : ∃ b1, checkC a n m = b1 := ⟨_, rfl⟩
  obtain ⟨b2, hb2⟩ : ∃ b2, checkC b m k = b2 := ⟨_, rfl⟩
  have hcase : b1 = false ∨ (b1 = true ∧ b2 = false) := by
    unfold CmOk at hno
    rw [hn, hm, hk, hb1, hb2] at hno
    cases b1
    · exact .inl rfl
    · cases b2
      · exact .inr ⟨rfl, rfl⟩
      · exact absurd ⟨rfl, rfl⟩ hno
  have HN := Lib.hid hn
  have HM := Lib.hid hm
  have HK := Lib.hid hk
  have HB1 := Lib.hid hb1
  have HB2 := Lib.hid hb2
  clear hn hm hk hno hb1 hb2
  go_enter Try.func20, Try.ntmps20
  go_wp2_with fail
  refine (ref_ins_any A p c a _ HA.out (by unfold maxLen; omega)).mono ?_
  rintro e w1 ⟨rfl, hw1⟩
  have hw1 := hw1.symm
  subst hw1
  rw [HN.out]
  go_wp2_with fail
  refine (ref_outs_any A p c a _ HA.out (by unfold maxLen; omega)).mono ?_
  rintro e w1 ⟨rfl, hw1⟩
  have hw1 := hw1.symm
  subst hw1
  rw [HM.out]
  go_wp2_with fail
  refine (ref_outs_any B q d b _ HB.out (by unfold maxLen; omega)).mono ?_
  rintro e w1 ⟨rfl, hw1⟩
  have hw1 := hw1.symm
  subst hw1
  rw [HK.out]
  go_wp2_with fail
  refine (refCheckC_any A p c a n m _ HA.out (by omega)).mono ?_
  rintro e w3 ⟨rfl, hw3⟩
  rw [HB1.out]
  rcases hcase with rfl | ⟨rfl, rfl⟩
  · go_wp2_with fail
    exact bodyPost_ret (v := .tuple #[.slice none 0 0, .int .i64 13]) (by simp [results, go_sem]) rfl ⟨rfl, hw3⟩
  · go_wp2_with fail
    refine (refCheckC_any B q d b m k w3 (HB.out.below hw3) (by omega)).mono ?_
    rintro e w4 ⟨rfl, hw4'⟩
    rw [HB2.out]
    have hw4 := below_self hw3 hw4'
    clear hw3 hw4'
    go_wp2_with fail
    exact bodyPost_ret (v := .tuple #[.slice none 0 0, .int .i64 13]) (by simp [results, go_sem]) rfl ⟨rfl, hw4⟩
set_option maxRecDepth 100000 in
set_option maxHeartbeats 2000000 in
theorem clusterComposes_any (A B : Option Addr) (p q c d : Nat) (a b : List Cl) (w : World) (hA : Rd w 4 A p (cellsC a)) (hB : Rd w 4 B q (cellsC b)) (hp : p ≤ maxLen) (hq : q ≤ maxLen) (hqd : q ≤ d) (hd9 : d ≤ maxLen) :
    Calls Try.prog 6 #[.slice A p c, .slice B q d] w fun e w' => e = .returned (.bool true) ∧ Below w.heap.size w w' := by
  have HA := Lib.hid hA
  have HB := Lib.hid hB
  have HFA := Lib.hid (few_any A p c a w hA hp)
  unfold maxLen at hp hd9
  have hq' := hq
  unfold maxLen at hq'
  clear hA hB
  go_enter Try.func6, Try.ntmps6
  go_wp2_with fail
  refine HFA.out.mono ?_
  rintro e w1 ⟨f1, rfl, hf1, hw1⟩
  have HF1 := Lib.hid hf1
  clear hf1
  cases f1 with
  | false =>
    go_wp2_with fail
    refine (awakeCl_any w1).mono ?_
    rintro e w2 ⟨rfl, hw2'⟩
    have hw2 := below_self hw1 hw2'
    go_wp2_with fail
    go_ret
    exact ⟨rfl, hw2⟩
  | true =>
    have hp30 : p ≤ 30 := (HF1.out rfl).1
    go_wp2_with fail
    refine (few_any B q d b w1 (HB.out.below hw1) hq).mono ?_
    rintro e w2 ⟨f2, rfl, hf2, hw2'⟩
    have hw2 := below_self hw1 hw2'
    have HF2 := Lib.hid hf2
    clear hf2 hw1 hw2'
    cases f2 with
    | false =>
      go_wp2_with fail
      refine (awakeCl_any w2).mono ?_
      rintro e w3 ⟨rfl, hw3'⟩
      have hw3 := below_self hw2 hw3'
      go_wp2_with fail
      go_ret
      exact ⟨rfl, hw3⟩
    | true =>
      have hq30 : q ≤ 30 := (HF2.out rfl).1
      go_wp2_with fail
      refine (prCompose_any A B p q c d a b w2 (HA.out.below hw2) (HB.out.below hw2) (by omega) (by omega) hqd (by omega)).mono ?_
      rintro e w3 ⟨hans, hw3'⟩
      have hw3 := below_self hw2 hw3'
      rcases hans with ⟨hno, rfl⟩ | ⟨hok, L, hL, w0, hw0, ⟨hne, rfl⟩ | ⟨h0, n1, n2, m1, m2, hfit, hcov, v, l', rfl, hfi, hown⟩⟩
      · have HNO := Lib.hid hno
        clear hno hw2 hw3'
        go_wp2_with fail
        refine (refCompose_no A B p q c d a b w3 (HA.out.below hw3) (HB.out.below hw3) hp30 hq30 HNO.out).mono ?_
        rintro e w4 ⟨rfl, hw4'⟩
        have hw4 := below_self hw3 hw4'
        clear hw3 hw4'
        go_wp2_with fail
        refine (equalC_b none none 0 0 0 0 [] [] w4 Rd.nil_ Rd.nil_ (by unfold maxLen; omega) (by unfold maxLen; omega)).mono ?_
        rintro e w5 ⟨rfl, hw5'⟩
        rw [show decide (([] : List Cl) = []) = true from decide_eq_true rfl]
        have hw5 := below_self hw4 hw5'
        clear hw4 hw5'
        go_wp2_with fail
        refine (awakeCl_any w5).mono ?_
        rintro e w6 ⟨rfl, hw6'⟩
        have hw6 := below_self hw5 hw6'
        go_wp2_with fail
        go_ret
        exact ⟨rfl, hw6⟩
      · have HRC := Lib.hid (refCompose_ok A B p q c d a b L [] w3 (HA.out.below hw3) (HB.out.below hw3) hp30 hq30 hok hL (.inl hne))
        obtain ⟨er, her⟩ : ∃ er, finE (insS a) (outsS b) L = er := ⟨_, rfl⟩
        rw [her] at HRC hne ⊢
        clear her hok hL hw0 hw2 hw3'
        go_wp2_with fail
        refine HRC.out.mono ?_
        rintro e w4 ⟨h4, hw4'⟩
        have hw4 := below_self hw3 hw4'
        clear hw3 hw4'
        rcases h4 with ⟨_, rfl⟩ | ⟨h4, _⟩
        · clear hne HRC
          go_wp2_with fail
          refine (equalC_b none none 0 0 0 0 [] [] w4 Rd.nil_ Rd.nil_ (by unfold maxLen; omega) (by unfold maxLen; omega)).mono ?_
          rintro e w5 ⟨rfl, hw5'⟩
          rw [show decide (([] : List Cl) = []) = true from decide_eq_true rfl]
          have hw5 := below_self hw4 hw5'
          clear hw4 hw5'
          go_wp2_with fail
          refine (awakeCl_any w5).mono ?_
          rintro e w6 ⟨rfl, hw6'⟩
          have hw6 := below_self hw5 hw6'
          go_wp2_with fail
          go_ret
          exact ⟨rfl, hw6⟩
        · exact absurd h4 hne
      · have HRC := Lib.hid (refCompose_ok A B p q c d a b L l' w3 (HA.out.below hw3) (HB.out.below hw3) hp30 hq30 hok hL (.inr ⟨h0, n1, m1, hfit, hcov, hfi⟩))
        obtain ⟨V, cv, rfl, _⟩ := own_form hown
        have hpb : l'.length ≤ 16777216 := by have := finIs_len hfi; omega
        have HL2 := Lib.hid (Rd.of_own hown)
        have H0 := Lib.hid h0
        obtain ⟨r, hr⟩ : ∃ r, l'.length = r := ⟨_, rfl⟩
        rw [hr] at hpb HL2 HRC ⊢
        clear h0 hok hL hw0 n1 n2 m1 m2 hfit hcov hfi hown hr hw2 hw3'
        go_wp2_with fail
        refine HRC.out.mono ?_
        rintro e w4 ⟨h4, hw4'⟩
        have hw4 := below_self hw3 hw4'
        have HL3 := Lib.hid (HL2.out.below hw4')
        clear hw3 hw4'
        rcases h4 with ⟨h4, _⟩ | ⟨_, v2, rfl, hown2⟩
        · exact absurd H0.out h4
        · obtain ⟨V2, cv2, rfl, _⟩ := own_form hown2
          have HL4 := Lib.hid (Rd.of_own hown2)
          clear hown2 HRC
          go_wp2_with fail
          refine (equalC_b V V2 r r cv cv2 (l'.map NC.cl) (l'.map NC.cl) w4 HL3.out HL4.out (by unfold maxLen; omega) (by unfold maxLen; omega)).mono ?_
          rintro e w5 ⟨rfl, hw5'⟩
          rw [show decide (l'.map NC.cl = l'.map NC.cl) = true from decide_eq_true rfl]
          have hw5 := below_self hw4 hw5'
          clear hw4 hw5'
          go_wp2_with fail
          refine (awakeCl_any w5).mono ?_
          rintro e w6 ⟨rfl, hw6'⟩
          have hw6 := below_self hw5 hw6'
          go_wp2_with fail
          go_ret
          exact ⟨rfl, hw6⟩
end Go.Proofs.Ytmgoakfnmgngoaa
