/- Texts of one claim, one behind the other. -/
import Derived.Deep.RegionHeld3
import Derived.Deep.RegionLaw
import Derived.Deep.DeepCutAuto
import Derived.Deep.CutBlock
import Derived.Laws.MakeOwn
import Derived.Test.YtmgoakfnmgngoaaMgCm1
import Derived.Test.YtmgoakfnmgngoaaMgCm2
import Derived.Test.YtmgoakfnmgngoaaMgCm3
import Derived.Test.YtmgoakfnmgngoaaMgCm14
import Derived.Test.YtmgoakfnmgngoaaMgCm20
import Derived.Test.YtmgoakfnmgngoaaMgCm21
/- cells' links and Clusters, walked. -/
namespace Go.Proofs.Ytmgoakfnmgngoaa
open Go.RowKit

/-- One group more: its link, if it has codes, and where its codes end. -/
def lkStep (R : List RC) (ah : List Int) (acc : List Cl × Nat) (g : Sp) : List Cl × Nat :=
  (if 0 < cntR R ah g.1.toNat g.2.toNat then acc.1 ++ [(g, ((acc.2 : Int), (acc.2 : Int) + (cntR R ah g.1.toNat g.2.toNat : Nat)))] else acc.1, acc.2 + cntR R ah g.1.toNat g.2.toNat)
def linksTo (R : List RC) (ah : List Int) (G : List Sp) : List Cl × Nat := G.foldl (lkStep R ah) ([], 0)
theorem linksTo_step {R : List RC} {ah : List Int} {G : List Sp} {k : Nat} {g : Sp} (h : G[k]? = some g) : linksTo R ah (G.take (k + 1)) = lkStep R ah (linksTo R ah (G.take k)) g := by
  unfold linksTo; rw [List.take_add_one, h]; simp
theorem linksTo_len (R : List RC) (ah : List Int) (G : List Sp) (k : Nat) : (linksTo R ah (G.take k)).1.length ≤ k := by
  induction k with
  | zero => simp [linksTo]
  | succ k ih =>
    rcases h : G[k]? with _ | g
    · rw [List.take_add_one, h]; simp; omega
    · rw [linksTo_step h]
      unfold lkStep
      simp only
      split
      · rw [List.length_append]; simp; omega
      · omega
theorem linksTo_end (R : List RC) (ah : List Int) (G : List Sp) (k : Nat) : (linksTo R ah (G.take k)).2 ≤ k * (ah.length + lenR R) := by
  induction k with
  | zero => simp [linksTo]
  | succ k ih =>
    rw [Nat.succ_mul]
    rcases h : G[k]? with _ | g
    · rw [List.take_add_one, h]; simp; omega
    · rw [linksTo_step h]
      have := cntR_le R ah g.1.toNat g.2.toNat
      unfold lkStep
      simp only
      omega
theorem linksTo_yes {R : List RC} {ah : List Int} {G : List Sp} {k a b : Nat} (h : G[k]? = some ((a : Int), (b : Int))) (hc : 0 < cntR R ah a b) : linksTo R ah (G.take (k + 1)) = ((linksTo R ah (G.take k)).1 ++ [(((a : Int), (b : Int)), (((linksTo R ah (G.take k)).2 : Int), ((linksTo R ah (G.take k)).2 : Int) + (cntR R ah a b : Nat)))], (linksTo R ah (G.take k)).2 + cntR R ah a b) := by
  rw [linksTo_step h]
  unfold lkStep
  simp only [Int.toNat_natCast]
  rw [if_pos hc]
theorem linksTo_no {R : List RC} {ah : List Int} {G : List Sp} {k a b : Nat} (h : G[k]? = some ((a : Int), (b : Int))) (hc : ¬ 0 < cntR R ah a b) : linksTo R ah (G.take (k + 1)) = ((linksTo R ah (G.take k)).1, (linksTo R ah (G.take k)).2 + cntR R ah a b) := by
  rw [linksTo_step h]
  unfold lkStep
  simp only [Int.toNat_natCast]
  rw [if_neg hc]
theorem parts_mem {n : Int} : ∀ {l : List Sp} {e : Int}, 0 ≤ e → partsFrom e l n = true → ∀ g ∈ l, ∃ a b : Nat, g = ((a : Int), (b : Int)) ∧ a < b ∧ (b : Int) ≤ n
  | [], _, _, _, g, hg => by simp at hg
  | s :: l, e, he, h, g, hg => by
    cases hr : rightB s with
    | false => rw [partsFrom_no (.inl hr)] at h; cases h
    | true =>
      cases hq : (s.1 == e) with
      | false => rw [partsFrom_no (.inr hq)] at h; cases h
      | true =>
        rw [partsFrom_yes hr hq] at h
        have hs := of_decide_eq_true hr
        rcases List.mem_cons.1 hg with rfl | hg
        · have hle : g.2 ≤ n := parts_le h
          refine ⟨g.1.toNat, g.2.toNat, ?_, by omega, by omega⟩
          obtain ⟨g1, g2⟩ := g
          simp only [Prod.mk.injEq]
          simp only at hs
          omega
        · exact parts_mem (by omega) h g hg
where
  parts_le {n : Int} : ∀ {l : List Sp} {e : Int}, partsFrom e l n = true → e ≤ n
  | [], e, h => by
    have : (e == n) = true := h
    have : e = n := by simpa using this
    omega
  | s :: l, e, h => by
    cases hr : rightB s with
    | false => rw [partsFrom_no (.inl hr)] at h; cases h
    | true =>
      cases hq : (s.1 == e) with
      | false => rw [partsFrom_no (.inr hq)] at h; cases h
      | true =>
        rw [partsFrom_yes hr hq] at h
        have hs := of_decide_eq_true hr
        have h1 := parts_le h
        have h2 : s.1 = e := by simpa using hq
        omega
set_option maxRecDepth 100000 in
set_option maxHeartbeats 2000000 in
theorem links_any (base b gc n : Nat) (R : List RC) (va : Value) (ah : List Int) (w : World) (hC : CellsAt w base b gc n R va ah) (hn : n ≤ 1000) (ht : ah.length + lenR R ≤ 1000000) :
    Calls Try.prog 73 #[.pointer (some ⟨b, 0, none⟩)] w fun e w' => ∃ v, e = .returned v ∧ w'.ownsRow w.heap.size 33 4 v (linksTo R ah (groupsS n (joinedTo R n))).1.length (cellsC (linksTo R ah (groupsS n (joinedTo R n))).1) ∧ Below w.heap.size w w' := by
  obtain ⟨Aa, ca, rfl, _⟩ := own_form hC.arow
  have c0 := hp_cell (j := 0) hC.hb rfl
  have HC := Lib.hid hC
  have HJ := Lib.hid (fun W (h : Below w.heap.size w W) => joined_any base b gc n R _ ah W (hC.low h) (by omega))
  have hjl : (joinedTo R n).length ≤ 1000 := Nat.le_trans (joinedTo_len R n) hn
  obtain ⟨J, hJ⟩ : ∃ J, joinedTo R n = J := ⟨_, rfl⟩
  rw [hJ] at HJ hjl ⊢
  have HP := Lib.hid (parts_mem (Int.le_refl 0) (groups_whole (n := (n : Int)) J (by omega)))
  have hgl : (groupsS (n : Int) J).length ≤ 1000 := groups_len (by omega)
  obtain ⟨G, hG⟩ : ∃ G, groupsS (n : Int) J = G := ⟨_, rfl⟩
  rw [hG] at hgl HP ⊢
  have HGJ := Lib.hid hG
  obtain ⟨gl, hgl2⟩ : ∃ gl, G.length = gl := ⟨_, rfl⟩
  rw [hgl2] at hgl
  have HG := Lib.hid hgl2
  clear hJ hG hgl2
  go_enter Try.func73, Try.ntmps73
  go_wp2_with fail
  go_region_held3 (fun w' => w'.cell? ⟨b, 0, none⟩ = some (.slice (some ⟨gc, 0, none⟩) n n) ∧ Below w.heap.size w w')
    (first
      | exact ⟨c0, Below.refl _ _⟩
      | exact ⟨c0, (Below.refl _ _).drew⟩
      | exact ⟨cell_below hz1 c0, hz1⟩
      | exact ⟨cell_below hz2 c0, hz2⟩
      | fail)
    (first
      | (go_at_call 90; with_reducible refine (HJ.out _ (by first | exact (Below.refl _ _).drew | exact Below.refl _ _)).mono ?_; rintro e' w1 ⟨v1, rfl, hown1, hb1⟩; obtain ⟨A1, c1, rfl, hc1⟩ := own_form hown1; have hz1 : Below w.heap.size w w1 := (by first | exact below_self (Below.refl _ _).drew hb1 | exact hb1))
      | (go_at_call 89; refine (prGroups_any (n : Int) A1 J.length c1 J w1 (Rd.of_own hown1) hjl (by omega) (by omega)).mono ?_; rintro e' w2 ⟨v2, rfl, hown2, hb2⟩; rw [HGJ.out, HG.out] at hown2; obtain ⟨A2, c2, rfl, hc2⟩ := own_form hown2; have hz2 : Below w.heap.size w w2 := below_self hz1 hb2)
      | fail)
  have HRG := Lib.hid (Rd.of_own hown2)
  have HZ := Lib.hid hz2
  have HC2 := Lib.hid (HC.out.low hz2)
  clear hown1 hb1 hz1 hb2 hown2 hz2 hc1 hc2 c0 hC
  go_wp2_with fail
  go_loopw [3, 4, 17] (fun v e i ws => ∃ k : Nat, k ≤ gl ∧ i = .int .i64 (k : Int) ∧ e = .int .i64 ((linksTo R ah (G.take k)).2 : Nat) ∧ ws.ownsRow w2.heap.size 33 4 v (linksTo R ah (G.take k)).1.length (cellsC (linksTo R ah (G.take k)).1) ∧ Below w2.heap.size w2 ws) (fun _ _ i _ => gl - (intOf i).toNat)
  case atStart => exact ⟨0, Nat.zero_le _, rfl, rfl, ⟨rfl, .inl ⟨rfl, rfl⟩⟩, Below.refl _ _⟩
  case round =>
    obtain ⟨k, hk, rfl, rfl, hown, hb⟩ := hrel
    have hll := linksTo_len R ah G k
    have hle := linksTo_end R ah G k
    have hkm : k * (ah.length + lenR R) ≤ 1000 * 1000000 := Nat.mul_le_mul (by omega) ht
    by_cases hlt : k < gl
    · obtain ⟨g, hg⟩ : ∃ g, G[k]? = some g := ⟨_, List.getElem?_eq_getElem (by rw [HG.out]; exact hlt)⟩
      obtain ⟨a, d, rfl, had, hdn⟩ := HP.out g (List.mem_of_getElem? hg)
      obtain ⟨ad, rfl, hab, x0, x1⟩ := (HRG.out.below hb).span hg
      have HY := Lib.hid (fun h => linksTo_yes (R := R) (ah := ah) hg h)
      have HN := Lib.hid (fun h => linksTo_no (R := R) (ah := ah) hg h)
      have hcb := cntR_le R ah a d
      obtain ⟨e, he⟩ : ∃ e, (linksTo R ah (G.take k)).2 = e := ⟨_, rfl⟩
      obtain ⟨L, hL⟩ : ∃ L, (linksTo R ah (G.take k)).1 = L := ⟨_, rfl⟩
      rw [he, hL] at HY HN
      rw [hL] at hll hown
      rw [he] at hle ⊢
      simp only at x0 x1
      have hb1 := below_new wr (.cells #[.int .i64 (a : Int), .int .i64 (d : Int)] 31)
      have s1 := SpanBlk.new_ wr (a : Int) (d : Int) 31
      obtain ⟨W1, hW1⟩ : ∃ W1, wr.alloc (.cells #[.int .i64 (a : Int), .int .i64 (d : Int)] 31) = W1 := ⟨_, rfl⟩
      rw [hW1] at hb1 s1
      obtain ⟨p0, p1, f0, f1⟩ := s1
      obtain ⟨bk, hbk⟩ : ∃ bk, wr.heap.size = bk := ⟨_, rfl⟩
      rw [hbk] at p0 p1
      have HB1 := Lib.hid (below_self hb hb1)
      have HO1 := Lib.hid (own_below hown hb1)
      have HNE0 := Lib.hid (fun g (h : u3.ownBlock = some g) => (hown.lt g h).2)
      have hs1 := hb1.size
      clear hg he hL f0 f1 hown hb hb1
      go_wp2_with fail
      refine (count_any base b gc n a d R _ ah W1 (HC2.out.low HB1.out) had (by omega) (by omega) (by omega)).mono ?_
      rintro e' w3 ⟨rfl, hb3⟩
      obtain ⟨cq, hcq⟩ : ∃ cq, cntR R ah a d = cq := ⟨_, rfl⟩
      rw [hcq] at HY HN hcb ⊢
      have q0 := cell_below hb3 p0
      have q1 := cell_below hb3 p1
      have hb4 := below_new w3 (.cells #[.int .i64 (e : Int), .int .i64 ((e : Int) + (cq : Int))] 31)
      have s4 := SpanBlk.new_ w3 (e : Int) ((e : Int) + (cq : Int)) 31
      obtain ⟨W4, hW4⟩ : ∃ W4, w3.alloc (.cells #[.int .i64 (e : Int), .int .i64 ((e : Int) + (cq : Int))] 31) = W4 := ⟨_, rfl⟩
      rw [hW4] at hb4 s4
      obtain ⟨r0, r1, f0, f1⟩ := s4
      have HNE := Lib.hid (fun g (h : u3.ownBlock = some g) => (show g < w3.heap.size from Nat.lt_of_lt_of_le (HNE0.out g h) (Nat.le_trans hs1 hb3.size)))
      obtain ⟨bj, hbj⟩ : ∃ bj, w3.heap.size = bj := ⟨_, rfl⟩
      rw [hbj] at HNE
      clear HNE0 hs1
      rw [hbj] at r0 r1
      have t0 := cell_below hb4 q0
      have t1 := cell_below hb4 q1
      have HB4 := Lib.hid (below_self (below_self HB1.out hb3) hb4)
      have HO4 := Lib.hid (own_below (own_below HO1.out hb3) hb4)
      clear hcq p0 p1 q0 q1 f0 f1 hb3 hb4 x0 x1 hab hW1 hbk
      go_wp2_with fail
      refine (prRight_any (e : Int) ((e : Int) + (cq : Int)) W4).mono ?_
      rintro e' w5 ⟨rfl, hb5⟩
      have u0 := cell_below hb5 r0
      have u1 := cell_below hb5 r1
      have v0 := cell_below hb5 t0
      have v1 := cell_below hb5 t1
      have HB5 := Lib.hid (below_self HB4.out hb5)
      have HO5 := Lib.hid (own_below HO4.out hb5)
      clear r0 r1 t0 t1 hb5 hW4 hbj
      by_cases hc0 : 0 < cq
      · rw [show rightB ((e : Int), (e : Int) + (cq : Int)) = true by unfold rightB; exact decide_eq_true (by omega)]
        have HE := Lib.hid (HY.out hc0)
        have z0 := cell_below (below_new w5 (.cells #[.int .i64 (a : Int), .int .i64 (d : Int), .int .i64 (e : Int), .int .i64 ((e : Int) + (cq : Int))] 33)) u0
        have z1 := cell_below (below_new w5 (.cells #[.int .i64 (a : Int), .int .i64 (d : Int), .int .i64 (e : Int), .int .i64 ((e : Int) + (cq : Int))] 33)) u1
        go_wp2_with (at_builtin; refine wpList_app rfl _ _ _ rfl clusSlice (by decide) u3 L.length _ rfl (HO5.out.alloc _) ⟨w5.heap.size, 0, none⟩ 1 1 [.int .i64 (a : Int), .int .i64 (d : Int), .int .i64 (e : Int), .int .i64 ((e : Int) + (cq : Int))] rfl rfl (cells_new w5 [_, _, _, _] _) (oneInt4 _ _ _ _ _) (by omega) (by unfold maxLen; omega) (Nat.le_trans HB5.out.size (by simp)) ?_; intro v6 w6 hown6 hg6 hat6; have HB6 := Lib.hid ((HB5.out.alloc HB5.out.size (.cells #[.int .i64 (a : Int), .int .i64 (d : Int), .int .i64 (e : Int), .int .i64 ((e : Int) + (cq : Int))] 33)).grown hg6 (Nat.le_trans HB5.out.size (by simp)) (fun b hb => (HO5.out.lt b hb).1)); have y1 := hg6.cell z1 (fun h9 => absurd (HNE.out _ h9.symm) (Nat.lt_irrefl _)))
        have HO6 := Lib.hid (show w6.ownsRow w2.heap.size 33 4 v6 (L ++ [(((a : Int), (d : Int)), ((e : Int), (e : Int) + (cq : Int)))]).length (cellsC (L ++ [(((a : Int), (d : Int)), ((e : Int), (e : Int) + (cq : Int)))])) by rw [List.length_append, cellsC_snoc]; exact hown6)
        clear hown6 hg6 hat6 z0 z1 y1 u0 u1 v0 v1
        go_roundw
        case rel => exact ⟨k + 1, by omega, by go_num, by rw [HE.out]; go_num, by rw [HE.out]; exact HO6.out, HB6.out⟩
        case measure => simp [intOf]; omega
      · rw [show rightB ((e : Int), (e : Int) + (cq : Int)) = false by unfold rightB; exact decide_eq_false (by omega)]
        have HE := Lib.hid (HN.out hc0)
        go_wp2_with fail
        clear u0 u1 v0 v1
        go_roundw
        case rel => exact ⟨k + 1, by omega, by go_num, by rw [HE.out]; go_num, by rw [HE.out]; exact HO5.out, HB5.out⟩
        case measure => simp [intOf]; omega
    · have hkg : k = gl := by omega
      have HTK := Lib.hid (show G.take k = G by rw [hkg, ← HG.out, List.take_length])
      rw [HTK.out] at hown
      have HO := Lib.hid (own_base hown HZ.out.size)
      have HB := Lib.hid (below_self HZ.out hb)
      clear hown hb hkg hll hle hkm
      go_wp2_with fail
      go_ret
      exact ⟨u3, rfl, HO.out, HB.out⟩
end Go.Proofs.Ytmgoakfnmgngoaa
/- cells' Clusters, Text, At, walked. -/
namespace Go.Proofs.Ytmgoakfnmgngoaa
open Go.RowKit

theorem FinAns.low {w w1 w' : World} {n m : Int} {l : List Cl} {e : Ending} (h : FinAns w1 w' n m l e) (hw : w.heap.size ≤ w1.heap.size) : FinAns w w' n m l e := by
  rcases h with h | ⟨h0, h1, h2, h3, h4, h5, h6, v, l', h7, h8, h9⟩
  · exact .inl h
  · exact .inr ⟨h0, h1, h2, h3, h4, h5, h6, v, l', h7, h8, own_base h9 hw⟩
theorem FinAns.form {w w' : World} {n m : Int} {l : List Cl} {e : Ending} (h : FinAns w w' n m l e) : ∃ (v : Value) (er : Int), e = .returned (.tuple #[v, .int .i64 er]) := by
  rcases h with ⟨_, h⟩ | ⟨_, _, _, _, _, _, _, v, l', h, _⟩
  · exact ⟨_, _, h⟩
  · exact ⟨v, 0, h⟩
/-- The links of cells. -/
def linksR (n : Nat) (R : List RC) (ah : List Int) : List Cl := (linksTo R ah (groupsS n (joinedTo R n))).1
set_option maxRecDepth 100000 in
set_option maxHeartbeats 2000000 in
theorem clusters_cells (base b gc n : Nat) (R : List RC) (va : Value) (ah : List Int) (w : World) (hC : CellsAt w base b gc n R va ah) (hn0 : 0 < n) (hn : n ≤ 1000) (ht : ah.length + lenR R ≤ 1000000) :
    Calls Try.prog 34 #[.pointer (some ⟨b, 0, none⟩)] w fun e w' => FinAns w w' (n : Int) (cntR R ah 0 n : Nat) (linksR n R ah) e ∧ Below w.heap.size w w' := by
  have c0 := hp_cell (j := 0) hC.hb rfl
  have HC := Lib.hid hC
  have HAL := Lib.hid (all_any b (some ⟨gc, 0, none⟩) n n w c0)
  have HL := Lib.hid (fun W (h : Below w.heap.size w W) => links_any base b gc n R va ah W (hC.low h) hn ht)
  have hll : (linksR n R ah).length ≤ 1000 := by
    have h1 := linksTo_len R ah (groupsS (n : Int) (joinedTo R n)) (groupsS (n : Int) (joinedTo R n)).length
    rw [List.take_length] at h1
    exact Nat.le_trans h1 (groups_len (by omega))
  have hct := cntR_le R ah 0 n
  have HLE : Hid ((linksTo R ah (groupsS n (joinedTo R n))).1 = linksR n R ah) := Lib.hid rfl
  rw [HLE.out] at HL
  obtain ⟨L, hL⟩ : ∃ L, linksR n R ah = L := ⟨_, rfl⟩
  rw [hL] at HL hll ⊢
  have HCT := Lib.hid (fun W (h : Below w.heap.size w W) => count_any base b gc n 0 n R va ah W (hC.low h) hn0 (Nat.le_refl _) (by omega) (by omega))
  obtain ⟨cq, hcq⟩ : ∃ cq, cntR R ah 0 n = cq := ⟨_, rfl⟩
  rw [hcq] at HCT hct ⊢
  clear hC c0 hL HLE hcq
  go_enter Try.func34, Try.ntmps34
  go_wp2_with fail
  refine HAL.out.mono ?_
  rintro e w1 ⟨rfl, hb1⟩
  have hb2 := below_new w1 (.cells #[.int .i64 0, .int .i64 (n : Int)] 31)
  have s2 := SpanBlk.new_ w1 0 (n : Int) 31
  obtain ⟨W2, hW2⟩ : ∃ W2, w1.alloc (.cells #[.int .i64 0, .int .i64 (n : Int)] 31) = W2 := ⟨_, rfl⟩
  rw [hW2] at hb2 s2
  obtain ⟨p0, p1, f0, f1⟩ := s2
  obtain ⟨bk, hbk⟩ : ∃ bk, w1.heap.size = bk := ⟨_, rfl⟩
  rw [hbk] at p0 p1
  have hbw2 := below_self hb1 hb2
  clear f0 f1 hb1 hb2
  go_wp2_with fail
  refine (prRight_any 0 (n : Int) W2).mono ?_
  rintro e w3 ⟨rfl, hb3⟩
  rw [show rightB ((0 : Int), (n : Int)) = true by unfold rightB; exact decide_eq_true (by omega)]
  have q0 := cell_below hb3 p0
  have q1 := cell_below hb3 p1
  have hbw3 := below_self hbw2 hb3
  have HB3 := Lib.hid hbw3
  clear p0 p1 hb3 hbw2 hW2 hbk
  go_wp2_with fail
  go_region_held3 (fun w' => w'.cell? ⟨bk, 0, none⟩ = some (.int .i64 0) ∧ w'.cell? ⟨bk, 1, none⟩ = some (.int .i64 (n : Int)) ∧ Below w3.heap.size w3 w')
    (first
      | exact ⟨q0, q1, Below.refl _ _⟩
      | exact ⟨q0, q1, (Below.refl _ _).drew⟩
      | exact ⟨cell_below hz1 q0, cell_below hz1 q1, hz1⟩
      | exact ⟨cell_below hz2 q0, cell_below hz2 q1, hz2⟩
      | exact ⟨cell_below hz3 q0, cell_below hz3 q1, hz3⟩
      | fail)
    (first
      | (go_at_call 72; refine (HCT.out _ (by first | exact below_self HB3.out (Below.refl _ _).drew | exact HB3.out)).mono ?_; rintro e' w4 ⟨rfl, hb4⟩; have hz1 : Below w3.heap.size w3 w4 := (by first | exact below_self (Below.refl _ _).drew hb4 | exact hb4))
      | (go_at_call 73; refine (HL.out _ (below_self HB3.out hz1)).mono ?_; rintro e' w5 ⟨v5, rfl, hown5, hb5⟩; obtain ⟨A5, c5, rfl, hc5⟩ := own_form hown5; have hz2 : Below w3.heap.size w3 w5 := below_self hz1 hb5)
      | (go_at_call 16; refine (prFinest_all (n : Int) (cq : Int) L.length c5 A5 L w5 (Rd.of_own hown5) (by omega)).mono ?_; rintro e' w6 ⟨hans, hb6⟩; obtain ⟨v6, er, rfl⟩ := hans.form; have hz3 : Below w3.heap.size w3 w6 := below_self hz2 hb6)
      | fail)
  have HA := Lib.hid (hans.low (Nat.le_trans HB3.out.size hz2.size))
  have HBF := Lib.hid (below_self HB3.out hz3)
  clear hans hz1 hz2 hz3 hb4 hown5 hb5 hb6 q0 q1
  go_wp2_with fail
  exact bodyPost_ret (v := .tuple #[v6, .int .i64 er]) (by simp [results, go_sem]) rfl ⟨HA.out, HBF.out⟩
set_option maxRecDepth 100000 in
set_option maxHeartbeats 2000000 in
theorem text_cells (base b gc n : Nat) (R : List RC) (va : Value) (ah : List Int) (w : World) (hC : CellsAt w base b gc n R va ah) (hn0 : 0 < n) (hn : n ≤ 100000000) (ht : ah.length + lenR R ≤ 100000000) :
    Calls Try.prog 30 #[.pointer (some ⟨b, 0, none⟩)] w fun e w' => ∃ v, e = .returned v ∧ w'.ownsRow w.heap.size 3 1 v (toldR R ah 0 n).length ((toldR R ah 0 n).map (Value.int .i64)) ∧ Below w.heap.size w w' := by
  have c0 := hp_cell (j := 0) hC.hb rfl
  have HAL := Lib.hid (all_any b (some ⟨gc, 0, none⟩) n n w c0)
  have HT := Lib.hid (fun W (h : Below w.heap.size w W) => told_any base b gc n 0 n R va ah W (hC.low h) hn0 (Nat.le_refl _) hn ht)
  clear hC c0
  go_enter Try.func30, Try.ntmps30
  go_wp2_with fail
  refine HAL.out.mono ?_
  rintro e w1 ⟨rfl, hb1⟩
  have hb2 := below_new w1 (.cells #[.int .i64 0, .int .i64 (n : Int)] 31)
  have s2 := SpanBlk.new_ w1 0 (n : Int) 31
  obtain ⟨W2, hW2⟩ : ∃ W2, w1.alloc (.cells #[.int .i64 0, .int .i64 (n : Int)] 31) = W2 := ⟨_, rfl⟩
  rw [hW2] at hb2 s2
  obtain ⟨p0, p1, f0, f1⟩ := s2
  obtain ⟨bk, hbk⟩ : ∃ bk, w1.heap.size = bk := ⟨_, rfl⟩
  rw [hbk] at p0 p1
  have hbw2 := below_self hb1 hb2
  clear f0 f1 hb1 hb2
  go_wp2_with fail
  refine (prRight_any 0 (n : Int) W2).mono ?_
  rintro e w3 ⟨rfl, hb3⟩
  rw [show rightB ((0 : Int), (n : Int)) = true by unfold rightB; exact decide_eq_true (by omega)]
  have q0 := cell_below hb3 p0
  have q1 := cell_below hb3 p1
  have HB3 := Lib.hid (below_self hbw2 hb3)
  clear p0 p1 hb3 hbw2 hW2 hbk
  go_wp2_with fail
  go_region_held3 (fun w' => w'.cell? ⟨bk, 0, none⟩ = some (.int .i64 0) ∧ w'.cell? ⟨bk, 1, none⟩ = some (.int .i64 (n : Int)) ∧ Below w3.heap.size w3 w')
    (first
      | exact ⟨q0, q1, Below.refl _ _⟩
      | exact ⟨q0, q1, (Below.refl _ _).drew⟩
      | exact ⟨cell_below hz1 q0, cell_below hz1 q1, hz1⟩
      | fail)
    (first
      | (go_at_call 70; refine (HT.out _ (by first | exact below_self HB3.out (Below.refl _ _).drew | exact HB3.out)).mono ?_; rintro e' w4 ⟨v4, rfl, hown4, hb4⟩; have hz1 : Below w3.heap.size w3 w4 := (by first | exact below_self (Below.refl _ _).drew hb4 | exact hb4); have ho4 := (by first | exact own_base hown4 (Nat.le_trans HB3.out.size (Nat.le_refl w3.heap.size)) | exact own_base hown4 HB3.out.size : w4.ownsRow w.heap.size 3 1 v4 (toldR R ah 0 n).length ((toldR R ah 0 n).map (Value.int .i64))))
      | fail)
  have HO := Lib.hid ho4
  have HBF := Lib.hid (below_self HB3.out hz1)
  clear ho4 hown4 hz1 hb4 q0 q1
  go_wp2_with fail
  go_ret
  exact ⟨v4, rfl, HO.out, HBF.out⟩
end Go.Proofs.Ytmgoakfnmgngoaa
/- What links of cells are: they fit, and each code lies in one. -/
namespace Go.Proofs.Ytmgoakfnmgngoaa
open Go.RowKit

def totR (R : List RC) (ah : List Int) (e : Nat) : Nat := if e = 0 then 0 else cntR R ah 0 e
theorem lenR_app (R S : List RC) : lenR (R ++ S) = lenR R + lenR S := by simp [lenR]
theorem lenR_part (R : List RC) {a b : Nat} (h : a ≤ b) : lenR (R.take a) + lenR (partR R a b) = lenR (R.take b) := by
  unfold partR
  rw [← lenR_app]
  congr 1
  obtain ⟨k, rfl⟩ : ∃ k, b = a + k := ⟨b - a, by omega⟩
  rw [List.take_add, Nat.add_sub_cancel_left]
theorem totR_pos {R : List RC} {ah : List Int} {e : Nat} (h : 0 < e) : totR R ah e = ah.length + lenR (R.take e) := by
  unfold totR cntR partR
  rw [if_neg (by omega), if_pos rfl, List.drop_zero, Nat.sub_zero]
theorem totR_step {R : List RC} {ah : List Int} {a b : Nat} (h : a < b) : totR R ah a + cntR R ah a b = totR R ah b := by
  have hb := totR_pos (R := R) (ah := ah) (show 0 < b by omega)
  have hl := lenR_part R (show a ≤ b by omega)
  by_cases h0 : a = 0
  · subst h0
    simp only [totR, cntR, if_true] at *
    rw [if_neg (by omega)]
    omega
  · have ha := totR_pos (R := R) (ah := ah) (show 0 < a by omega)
    rw [ha, hb, ← hl]
    unfold cntR
    rw [if_neg h0]
    omega
theorem right_iff (a b : Int) : rightB (a, b) = true ↔ 0 ≤ a ∧ a < b := by simp [rightB]
/-- What the links so far owe. -/
structure LkOk (n : Int) (l : List Cl) (m : Nat) : Prop where
  fit : ∀ x ∈ l, fitC n (m : Int) x = true
  cov : CovP (m : Int) l
theorem fitC_more {n m m' : Int} {x : Cl} (h : fitC n m x = true) (hm : m ≤ m') : fitC n m' x = true := by
  unfold fitC at *
  simp only [Bool.and_eq_true, decide_eq_true_eq] at *
  exact ⟨h.1, h.2.1, by omega⟩
theorem LkOk.step {n : Nat} {l : List Cl} {m a b : Nat} {R : List RC} {ah : List Int} (h : LkOk n l m) (hab : a < b) (hb : b ≤ n) : LkOk n (lkStep R ah (l, m) ((a : Int), (b : Int))).1 (lkStep R ah (l, m) ((a : Int), (b : Int))).2 := by
  unfold lkStep
  simp only [Int.toNat_natCast]
  obtain ⟨c, hc⟩ : ∃ c, cntR R ah a b = c := ⟨_, rfl⟩
  rw [hc]
  by_cases h0 : 0 < c
  · rw [if_pos h0]
    refine ⟨fun x hx => ?_, fun j j0 j1 => ?_⟩
    · rcases List.mem_append.1 hx with hx | hx
      · exact fitC_more (h.fit x hx) (by omega)
      · rw [List.mem_singleton] at hx
        subst hx
        unfold fitC
        simp only [Bool.and_eq_true, decide_eq_true_eq, right_iff]
        omega
    · by_cases hj : j < (m : Int)
      · obtain ⟨s, hs, k⟩ := h.cov j j0 hj
        exact ⟨s, by rw [List.map_append]; exact List.mem_append_left _ hs, k⟩
      · exact ⟨((m : Int), (m : Int) + (c : Nat)), by simp, by simp only; omega, by simp only; omega⟩
  · rw [if_neg h0]
    have : c = 0 := by omega
    subst this
    exact h
theorem links_go {n : Nat} {R : List RC} {ah : List Int} : ∀ (G : List Sp) (e : Nat) (acc : List Cl × Nat), partsFrom (e : Int) G (n : Int) = true → acc.2 = totR R ah e → LkOk n acc.1 acc.2 →
    (G.foldl (lkStep R ah) acc).2 = totR R ah n ∧ LkOk n (G.foldl (lkStep R ah) acc).1 (G.foldl (lkStep R ah) acc).2
  | [], e, acc, hp, ha, hk => by
    have h0 : (e : Int) = (n : Int) := by simpa [partsFrom] using hp
    have : e = n := by omega
    subst this
    exact ⟨ha, hk⟩
  | g :: G, e, acc, hp, ha, hk => by
    cases hr : rightB g with
    | false => rw [partsFrom_no (.inl hr)] at hp; cases hp
    | true =>
      cases hq : (g.1 == (e : Int)) with
      | false => rw [partsFrom_no (.inr hq)] at hp; cases hp
      | true =>
        obtain ⟨a, b, rfl, hab, hbn⟩ := parts_mem (Int.natCast_nonneg e) hp g (List.mem_cons_self ..)
        rw [partsFrom_yes hr hq] at hp
        have hae : a = e := by have h0 : (a : Int) = (e : Int) := by simpa using hq
                               omega
        subst hae
        have hst := hk.step (R := R) (ah := ah) hab (show b ≤ n by omega)
        refine links_go G b (lkStep R ah acc ((a : Int), (b : Int))) hp ?_ hst
        show acc.2 + cntR R ah a b = _
        rw [ha, totR_step hab]
theorem linksR_ok {n : Nat} (R : List RC) (ah : List Int) (h0 : 0 < n) : LkOk n (linksR n R ah) (cntR R ah 0 n) := by
  have h := links_go (n := n) (R := R) (ah := ah) (groupsS (n : Int) (joinedTo R n)) 0 ([], 0) (groups_whole (joinedTo R n) (Int.natCast_nonneg n)) (by simp [totR]) ⟨fun x hx => by simp at hx, fun j j0 j1 => by omega⟩
  have ht : totR R ah n = cntR R ah 0 n := if_neg (by omega)
  have h2 : (linksTo R ah (groupsS (n : Int) (joinedTo R n))).2 = cntR R ah 0 n := h.1.trans ht
  have h3 : LkOk n (linksTo R ah (groupsS (n : Int) (joinedTo R n))).1 (linksTo R ah (groupsS (n : Int) (joinedTo R n))).2 := h.2
  rw [h2] at h3
  exact h3
/-- What Clusters finds: nothing where there is no code, else the finest map. -/
theorem linksR_fit {n : Nat} (R : List RC) (ah : List Int) (h0 : 0 < n) (hn : n ≤ 16777216) (hm : cntR R ah 0 n ≤ 16777216) : fitB (n : Int) (cntR R ah 0 n : Nat) (linksR n R ah) = true := by
  unfold fitB
  rw [Bool.and_eq_true]
  refine ⟨by simp [fitN]; omega, List.all_eq_true.2 (linksR_ok R ah h0).fit⟩
theorem linksR_err {n : Nat} (R : List RC) (ah : List Int) (h0 : 0 < n) (hn : n ≤ 16777216) (hm : cntR R ah 0 n ≤ 16777216) : finE (n : Int) (cntR R ah 0 n : Nat) (linksR n R ah) = if cntR R ah 0 n = 0 then 8 else 0 := by
  unfold finE
  rw [linksR_fit R ah h0 hn hm, if_neg (by simp)]
  by_cases h : cntR R ah 0 n = 0
  · rw [if_pos ⟨by omega, by omega⟩, if_pos h]
  · rw [if_neg (by omega), if_neg (by omega), if_pos (linksR_ok R ah h0).cov, if_neg h]
end Go.Proofs.Ytmgoakfnmgngoaa
/- What was joined lies within one cluster of the finest map of the cells' links. -/
namespace Go.Proofs.Ytmgoakfnmgngoaa
open Go.RowKit

theorem groups_start {n : Int} {l : List Sp} : ∀ {f : Nat} {lo p : Int}, (lo = 0 ∨ lo = n ∨ partedS lo n l = true) → ∀ g ∈ groupsGo n l f lo p, g.1 = 0 ∨ g.1 = n ∨ partedS g.1 n l = true
  | 0, _, _, _, g, hg => by cases hg
  | f + 1, lo, p, h, g, hg => by
    by_cases hp : p = n ∨ partedS p n l = true
    · rw [groupsGo_yes hp] at hg
      rcases List.mem_cons.1 hg with rfl | hg
      · exact h
      · exact groups_start (.inr hp) g hg
    · rw [groupsGo_no hp] at hg
      exact groups_start h g hg
theorem links_in {R : List RC} {ah : List Int} : ∀ (G : List Sp) (acc : List Cl × Nat) (P : Sp → Prop), (∀ y ∈ acc.1, P y.1) → (∀ g ∈ G, P g) → ∀ y ∈ (G.foldl (lkStep R ah) acc).1, P y.1
  | [], acc, P, h, _, y, hy => h y hy
  | g :: G, acc, P, h, hG, y, hy => by
    refine links_in G (lkStep R ah acc g) P (fun z hz => ?_) (fun k hk => hG k (List.mem_cons_of_mem _ hk)) y hy
    unfold lkStep at hz
    split at hz
    · rcases List.mem_append.1 hz with hz | hz
      · exact h z hz
      · obtain rfl := List.mem_singleton.1 hz
        exact hG g List.mem_cons_self
    · exact h z hz
theorem linksR_start {n : Nat} {R : List RC} {ah : List Int} {y : Cl} (hy : y ∈ linksR n R ah) : y.1.1 = 0 ∨ y.1.1 = n ∨ partedS y.1.1 n (joinedTo R n) = true :=
  links_in (groupsS (n : Int) (joinedTo R n)) ([], 0) (fun g => g.1 = 0 ∨ g.1 = n ∨ partedS g.1 n (joinedTo R n) = true) (fun y h => by cases h) (groups_start (.inl rfl)) y hy
theorem joinedTo_mem {R : List RC} {k i : Nat} {r : RC} (hi : i < k) (hr : R[i]? = some r) (h : rightB ((i : Int), r.2.1) = true) : ((i : Int), r.2.1) ∈ joinedTo R k := by
  unfold joinedTo
  refine List.mem_filterMap.2 ⟨i, List.mem_range.2 hi, ?_⟩
  simp [joinB, hr, h]
/-- What was joined lies within one cluster. -/
theorem joined_in {n m : Nat} {R : List RC} {ah : List Int} {l' : List NC} (hfit : fitB (n : Int) (m : Int) (linksR n R ah) = true) (h : FinIs n m (linksR n R ah) l') {lo hi : Nat} (h1 : lo < hi) (h2 : hi ≤ n) {r : RC} (hr : R[lo]? = some r) (he : (hi : Int) ≤ r.2.1) (hen : r.2.1 ≤ n) :
    ∃ x ∈ l', x.a ≤ lo ∧ hi ≤ x.b := by
  have F := h.2 (by omega)
  obtain ⟨K, hK⟩ : ∃ K, (linksR n R ah).map ncOf = K := ⟨_, rfl⟩
  rw [hK] at F
  have hmem : ((lo : Int), r.2.1) ∈ joinedTo R n := joinedTo_mem (by omega) hr ((right_iff _ _).2 ⟨by omega, by omega⟩)
  have step : ∀ i : Nat, lo < i → i < hi → Tog (K ++ fillsOf n K) (false, i - 1) (false, i) := fun i hi1 hi2 => by
    by_cases hc : ∃ y ∈ K, y.a ≤ i ∧ i < y.b
    · obtain ⟨y, hy, ha, hb⟩ := hc
      refine .link y _ _ (List.mem_append_left _ hy) ?_ ⟨ha, hb⟩
      obtain ⟨x, hx, rfl⟩ := by rw [← hK] at hy; exact List.mem_map.1 hy
      obtain ⟨e, _, _, _⟩ := fitC_nat (fit_real hfit x hx)
      have hst := linksR_start hx
      have e1 : x.1.1 = ((ncOf x).a : Int) := by rw [e]; rfl
      have hne : (ncOf x).a ≠ i := fun e2 => by
        rw [e1, e2] at hst
        have hf : partedS (i : Int) n (joinedTo R n) = false := parted_iff.2 ⟨_, hmem, valid_iff.2 ⟨by simp, by simp only; omega, hen⟩, by simp only; omega, by simp only; omega⟩
        rw [hf] at hst
        rcases hst with h | h | h
        · omega
        · omega
        · cases h
      exact ⟨by show (ncOf x).a ≤ i - 1; omega, by show i - 1 < (ncOf x).b; omega⟩
    · refine .link ⟨i - 1, i + 1, 0, 0⟩ _ _ (List.mem_append_right _ (List.mem_append_left _ (List.mem_filterMap.2 ⟨i, List.mem_range.2 (by omega), ?_⟩))) ⟨by show i - 1 ≤ i - 1; omega, by show i - 1 < i + 1; omega⟩ ⟨by show i - 1 ≤ i; omega, by show i < i + 1; omega⟩
      unfold fillAt
      rw [if_neg (fun hcc => hcc.elim (by omega) hc)]
  have chain : ∀ k : Nat, lo + k < hi → Tog (K ++ fillsOf n K) (false, lo) (false, lo + k) := fun k => by
    induction k with
    | zero => exact fun _ => .refl _
    | succ k ih => exact fun hk => .trans _ _ _ (ih (by omega)) (step (lo + (k + 1)) (by omega) hk)
  obtain ⟨x, hx, ha, hb⟩ := (F.tog lo (Nat.zero_le _) (by omega) (false, hi - 1) (by simp; omega)).1 (by
    have := chain (hi - 1 - lo) (by omega)
    rwa [show lo + (hi - 1 - lo) = hi - 1 by omega] at this)
  have ha1 : x.a ≤ lo ∧ lo < x.b := ha
  have hb1 : x.a ≤ hi - 1 ∧ hi - 1 < x.b := hb
  exact ⟨x, hx, ha1.1, by omega⟩
end Go.Proofs.Ytmgoakfnmgngoaa
/- cells' Set out of range, At, Join, walked. -/
namespace Go.Proofs.Ytmgoakfnmgngoaa
open Go.RowKit

set_option maxRecDepth 100000 in
set_option maxHeartbeats 1000000 in
theorem set_out (base b gc n : Nat) (R : List RC) (va : Value) (ah : List Int) (i : Int) (A : Option Addr) (q c : Nat) (w : World) (hC : CellsAt w base b gc n R va ah) (hi : ¬ (0 ≤ i ∧ i < n)) :
    Calls Try.prog 36 #[.pointer (some ⟨b, 0, none⟩), .int .i64 i, .slice A q c] w fun e w' => e = .returned (.int .i64 1) ∧ Below w.heap.size w w' := by
  have H := Lib.hid (all_any b (some ⟨gc, 0, none⟩) n n w (hp_cell (j := 0) hC.hb rfl))
  clear hC
  go_enter Try.func36, Try.ntmps36
  go_wp2_with fail
  refine H.out.mono ?_
  rintro e w1 ⟨rfl, hb1⟩
  go_wp2_with fail
  refine (prHas_any 0 (n : Int) i w1).mono ?_
  rintro e w2 ⟨rfl, hb2⟩
  rw [show hasB ((0 : Int), (n : Int)) i = false from decide_eq_false hi]
  have hb3 := below_self hb1 hb2
  clear hi
  go_wp2_with fail
  go_ret
  exact ⟨rfl, hb3⟩
set_option maxRecDepth 100000 in
set_option maxHeartbeats 1000000 in
theorem at_out (base b gc n : Nat) (R : List RC) (va : Value) (ah : List Int) (i : Int) (w : World) (hC : CellsAt w base b gc n R va ah) (hi : ¬ (0 ≤ i ∧ i < n)) :
    Calls Try.prog 32 #[.pointer (some ⟨b, 0, none⟩), .int .i64 i] w fun e w' => e = .returned (.slice none 0 0) ∧ Below w.heap.size w w' := by
  have H := Lib.hid (all_any b (some ⟨gc, 0, none⟩) n n w (hp_cell (j := 0) hC.hb rfl))
  clear hC
  go_enter Try.func32, Try.ntmps32
  go_wp2_with fail
  refine H.out.mono ?_
  rintro e w1 ⟨rfl, hb1⟩
  go_wp2_with fail
  refine (prHas_any 0 (n : Int) i w1).mono ?_
  rintro e w2 ⟨rfl, hb2⟩
  rw [show hasB ((0 : Int), (n : Int)) i = false from decide_eq_false hi]
  have hb3 := below_self hb1 hb2
  clear hi
  go_wp2_with fail
  go_ret
  exact ⟨rfl, hb3⟩
set_option maxRecDepth 100000 in
set_option maxHeartbeats 1000000 in
theorem at_cells (base b gc n i : Nat) (R : List RC) (va : Value) (ah : List Int) (w : World) (hC : CellsAt w base b gc n R va ah) (hi : i < n) (hn : n ≤ 100000000) (ht : ah.length + lenR R ≤ 100000000) :
    Calls Try.prog 32 #[.pointer (some ⟨b, 0, none⟩), .int .i64 (i : Int)] w fun e w' => ∃ v, e = .returned v ∧ w'.ownsRow w.heap.size 3 1 v (toldR R ah i (i + 1)).length ((toldR R ah i (i + 1)).map (Value.int .i64)) ∧ Below w.heap.size w w' := by
  have H := Lib.hid (all_any b (some ⟨gc, 0, none⟩) n n w (hp_cell (j := 0) hC.hb rfl))
  have HT := Lib.hid (fun W (h : Below w.heap.size w W) => told_any base b gc n i (i + 1) R va ah W (hC.low h) (by omega) (by omega) hn ht)
  have hii : (i : Int) < (n : Int) := by omega
  clear hC
  go_enter Try.func32, Try.ntmps32
  go_wp2_with fail
  refine H.out.mono ?_
  rintro e w1 ⟨rfl, hb1⟩
  go_wp2_with fail
  refine (prHas_any 0 (n : Int) (i : Int) w1).mono ?_
  rintro e w2 ⟨rfl, hb2⟩
  rw [show hasB ((0 : Int), (n : Int)) (i : Int) = true from decide_eq_true ⟨by simp, hii⟩]
  have hb3 := below_self hb1 hb2
  go_wp2_with fail
  refine (HT.out w2 hb3).mono ?_
  rintro e w4 ⟨v, rfl, hown, hb4⟩
  have HO := Lib.hid (own_base hown hb3.size)
  have HB := Lib.hid (below_self hb3 hb4)
  clear hown hb4 hb1 hb2 hb3
  go_wp2_with fail
  go_ret
  exact ⟨v, rfl, HO.out, HB.out⟩
/-- What Join leaves. -/
def JoinAns (w w' : World) (base b gc n : Nat) (R : List RC) (va : Value) (ah : List Int) (lo hi : Int) (e : Ending) : Prop :=
  (¬ (0 ≤ lo ∧ lo < hi ∧ hi ≤ n) ∧ e = .returned (.int .i64 1) ∧ CellsAt w' base b gc n R va ah ∨
   (0 ≤ lo ∧ lo < hi ∧ hi ≤ n) ∧ e = .returned (.int .i64 0) ∧ ∃ r, R[lo.toNat]? = some r ∧ CellsAt w' base b gc n (R.set lo.toNat (r.1, max r.2.1 hi, r.2.2)) va ah) ∧
  (∀ B w0, B ≤ gc → B ≤ w.heap.size → Below B w0 w → Below B w0 w')
set_option maxRecDepth 100000 in
set_option maxHeartbeats 2000000 in
theorem join_cells (base b gc n : Nat) (R : List RC) (va : Value) (ah : List Int) (lo hi : Int) (w : World) (hC : CellsAt w base b gc n R va ah) (hn : n ≤ 100000000) :
    Calls Try.prog 38 #[.pointer (some ⟨b, 0, none⟩), .agg #[.int .i64 lo, .int .i64 hi]] w fun e w' => JoinAns w w' base b gc n R va ah lo hi e := by
  have hbn := below_new w (.cells #[.int .i64 lo, .int .i64 hi] 31)
  have s1 := SpanBlk.new_ w lo hi 31
  have h1 := hC.low hbn
  obtain ⟨W1, hW1⟩ : ∃ W1, w.alloc (.cells #[.int .i64 lo, .int .i64 hi] 31) = W1 := ⟨_, rfl⟩
  rw [hW1] at hbn s1 h1
  obtain ⟨d0, d1, f0, f1⟩ := s1
  simp only at d0 d1
  obtain ⟨bs, hbs⟩ : ∃ bs, w.heap.size = bs := ⟨_, rfl⟩
  rw [hbs] at d0 d1
  have HB := Lib.hid hbn
  have HC := Lib.hid h1
  have HA := Lib.hid (fun W (k : Below W1.heap.size W1 W) => all_any b (some ⟨gc, 0, none⟩) n n W (hp_cell (j := 0) (h1.low k).hb rfl))
  have HD := Lib.hid (And.intro d0 d1)
  have HSZ := Lib.hid hbs
  have hfd : ∀ w : World, (Instr.field 31 (.agg #[.int .i64 0, .int .i64 (n : Int)]) 1).run Try.prog w = .ok (.int .i64 (n : Int)) w := fun _ => by kernel_rfl
  clear hC h1 hbn f0 f1
  go_enter Try.func38, Try.ntmps38
  go_upto_region 1 with fail
  try simp only [hW1, hbs]
  go_cut [16] (fun s wx => s = .bool (!(rightB (lo, hi)) || decide ((n : Int) < hi)) ∧ Below W1.heap.size W1 wx)
  case first =>
    cases hrb : rightB (lo, hi) with
    | false =>
      first
        | (go_region_law (first
            | (go_simp; go_at_call 69; refine (prRight_any lo hi _).mono ?_; rintro e' w4 ⟨rfl, hb4⟩; rw [hrb]; have hz4 : Below W1.heap.size W1 w4 := (by first | exact below_self (Below.refl _ _).drew hb4 | exact hb4); have y0 := cell_below hz4 d0; have y1 := cell_below hz4 d1)
            | fail))
        | fail
      all_goals (
        have HZ := Lib.hid hz4
        clear hz4 hb4 y0 y1
        go_wp2_with fail
        rename_i hJ
        refine Met.intro (hJ _ _ ?_)
        (repeat apply Exists.intro)
        refine ⟨?_, rfl⟩)
      all_goals exact ⟨by simp [hrb], HZ.out⟩
    | true =>
      go_region_held3 (fun w' => w'.cell? ⟨bs, 0, none⟩ = some (.int .i64 lo) ∧ w'.cell? ⟨bs, 1, none⟩ = some (.int .i64 hi) ∧ Below W1.heap.size W1 w')
        (first
          | exact ⟨d0, d1, Below.refl _ _⟩
          | exact ⟨d0, d1, (Below.refl _ _).drew⟩
          | exact ⟨cell_below hz4 d0, cell_below hz4 d1, hz4⟩
          | exact ⟨cell_below hz5 d0, cell_below hz5 d1, hz5⟩
          | fail)
        (first
          | (go_at_call 69; refine (prRight_any lo hi _).mono ?_; rintro e' w4 ⟨rfl, hb4⟩; rw [hrb]; have hz4 : Below W1.heap.size W1 w4 := (by first | exact below_self (Below.refl _ _).drew hb4 | exact hb4))
          | (go_at_call 68; refine (HA.out _ hz4).mono ?_; rintro e' w5 ⟨rfl, hb5⟩; have hz5 : Below W1.heap.size W1 w5 := below_self hz4 hb5)
          | fail)
      have HZ := Lib.hid hz5
      clear hz4 hb4 hz5 hb5
      go_wp2_with fail
      go_meet
      case rel => exact ⟨by simp [hrb], HZ.out⟩
  case rest =>
    obtain ⟨rfl, hb⟩ := hcut
    clear hbs hW1 d0 d1
    have hd0 := cell_below hb HD.out.1
    have hd1 := cell_below hb HD.out.2
    have HC2 := Lib.hid (HC.out.low hb)
    have hbw := below_self HB.out hb
    have HBW := Lib.hid hbw
    clear hb hbw
    by_cases hgo : 0 ≤ lo ∧ lo < hi ∧ hi ≤ n
    · obtain ⟨l, rfl⟩ := Int.eq_ofNat_of_zero_le hgo.1
      obtain ⟨r, hri⟩ : ∃ r, R[l]? = some r := ⟨_, List.getElem?_eq_getElem (by rw [HC2.out.len]; omega)⟩
      rw [show (!(rightB ((l : Int), hi)) || decide ((n : Int) < hi)) = false by unfold rightB; simp; omega]
      have c0 := hp_cell (j := 0) HC2.out.hb rfl
      have c1 := (HC2.out.cell hri).2
      have f1 := hp_froz HC2.out.hc (l * 2 + 1)
      have HG := Lib.hid hgo
      have HRI := Lib.hid hri
      have hl1 : (l : Int) < (n : Int) := by omega
      have hl0 : (0 : Int) ≤ (l : Int) := by omega
      have HP := Lib.hid (show ∀ Q, CellsAt ((wc.drewN Q).setCell ⟨gc, l * 2 + 1, none⟩ (.int .i64 (max r.2.1 hi))) base b gc n (R.set l (r.1, max r.2.1 hi, r.2.2)) va ah from fun Q => (HC2.out.low (below_drew (Below.refl _ _) Q)).putE hri (max r.2.1 hi))
      have HBQ := Lib.hid (show ∀ Q B w0, B ≤ gc → B ≤ w.heap.size → Below B w0 w → Below B w0 ((wc.drewN Q).setCell ⟨gc, l * 2 + 1, none⟩ (.int .i64 (max r.2.1 hi))) from fun Q B w0 h1 h2 h => by
        have k := h.trans (HBW.out.mono h2)
        exact (show Below B w0 (wc.drewN Q) from ⟨k.os, k.tape, k.output, k.size, k.block⟩).setCell (p := ⟨gc, l * 2 + 1, none⟩) h1 _)
      clear hri
      go_wp2_with fail
      go_quiet (fail)
      go_wp2_with fail
      go_region
      clear c0 c1 f1 hd0 hd1
      go_wp2_with fail
      go_ret
      exact ⟨.inr ⟨HG.out, rfl, r, HRI.out, HP.out _⟩, HBQ.out _⟩
    · rw [show (!(rightB (lo, hi)) || decide ((n : Int) < hi)) = true by unfold rightB; simp; omega]
      have HG := Lib.hid hgo
      clear hgo
      go_wp2_with fail
      go_ret
      exact ⟨.inl ⟨HG.out, rfl, HC2.out⟩, fun B w0 h1 h2 h => h.trans (HBW.out.mono h2)⟩
end Go.Proofs.Ytmgoakfnmgngoaa
/- cells' Join, walked: which blocks it writes. -/
namespace Go.Proofs.Ytmgoakfnmgngoaa
open Go.RowKit

/-- What Join leaves: all but the block of the cells. -/
def JoinKept (w w' : World) (base b gc n : Nat) (R : List RC) (va : Value) (ah : List Int) (lo hi : Int) (e : Ending) : Prop :=
  (¬ (0 ≤ lo ∧ lo < hi ∧ hi ≤ n) ∧ e = .returned (.int .i64 1) ∧ CellsAt w' base b gc n R va ah ∨
   (0 ≤ lo ∧ lo < hi ∧ hi ≤ n) ∧ e = .returned (.int .i64 0) ∧ ∃ r, R[lo.toNat]? = some r ∧ CellsAt w' base b gc n (R.set lo.toNat (r.1, max r.2.1 hi, r.2.2)) va ah) ∧
  Kept w w' [b, gc]
set_option maxRecDepth 100000 in
set_option maxHeartbeats 2000000 in
theorem join_keeps (base b gc n : Nat) (R : List RC) (va : Value) (ah : List Int) (lo hi : Int) (w : World) (hC : CellsAt w base b gc n R va ah) (hn : n ≤ 100000000) :
    Calls Try.prog 38 #[.pointer (some ⟨b, 0, none⟩), .agg #[.int .i64 lo, .int .i64 hi]] w fun e w' => JoinKept w w' base b gc n R va ah lo hi e := by
  have hbn := below_new w (.cells #[.int .i64 lo, .int .i64 hi] 31)
  have s1 := SpanBlk.new_ w lo hi 31
  have h1 := hC.low hbn
  obtain ⟨W1, hW1⟩ : ∃ W1, w.alloc (.cells #[.int .i64 lo, .int .i64 hi] 31) = W1 := ⟨_, rfl⟩
  rw [hW1] at hbn s1 h1
  obtain ⟨d0, d1, f0, f1⟩ := s1
  simp only at d0 d1
  obtain ⟨bs, hbs⟩ : ∃ bs, w.heap.size = bs := ⟨_, rfl⟩
  rw [hbs] at d0 d1
  have HB := Lib.hid hbn
  have HC := Lib.hid h1
  have HA := Lib.hid (fun W (k : Below W1.heap.size W1 W) => all_any b (some ⟨gc, 0, none⟩) n n W (hp_cell (j := 0) (h1.low k).hb rfl))
  have HD := Lib.hid (And.intro d0 d1)
  have HSZ := Lib.hid hbs
  have hfd : ∀ w : World, (Instr.field 31 (.agg #[.int .i64 0, .int .i64 (n : Int)]) 1).run Try.prog w = .ok (.int .i64 (n : Int)) w := fun _ => by kernel_rfl
  clear hC h1 hbn f0 f1
  go_enter Try.func38, Try.ntmps38
  go_upto_region 1 with fail
  try simp only [hW1, hbs]
  go_cut [16] (fun s wx => s = .bool (!(rightB (lo, hi)) || decide ((n : Int) < hi)) ∧ Below W1.heap.size W1 wx)
  case first =>
    cases hrb : rightB (lo, hi) with
    | false =>
      first
        | (go_region_law (first
            | (go_simp; go_at_call 69; refine (prRight_any lo hi _).mono ?_; rintro e' w4 ⟨rfl, hb4⟩; rw [hrb]; have hz4 : Below W1.heap.size W1 w4 := (by first | exact below_self (Below.refl _ _).drew hb4 | exact hb4); have y0 := cell_below hz4 d0; have y1 := cell_below hz4 d1)
            | fail))
        | fail
      all_goals (
        have HZ := Lib.hid hz4
        clear hz4 hb4 y0 y1
        go_wp2_with fail
        rename_i hJ
        refine Met.intro (hJ _ _ ?_)
        (repeat apply Exists.intro)
        refine ⟨?_, rfl⟩)
      all_goals exact ⟨by simp [hrb], HZ.out⟩
    | true =>
      go_region_held3 (fun w' => w'.cell? ⟨bs, 0, none⟩ = some (.int .i64 lo) ∧ w'.cell? ⟨bs, 1, none⟩ = some (.int .i64 hi) ∧ Below W1.heap.size W1 w')
        (first
          | exact ⟨d0, d1, Below.refl _ _⟩
          | exact ⟨d0, d1, (Below.refl _ _).drew⟩
          | exact ⟨cell_below hz4 d0, cell_below hz4 d1, hz4⟩
          | exact ⟨cell_below hz5 d0, cell_below hz5 d1, hz5⟩
          | fail)
        (first
          | (go_at_call 69; refine (prRight_any lo hi _).mono ?_; rintro e' w4 ⟨rfl, hb4⟩; rw [hrb]; have hz4 : Below W1.heap.size W1 w4 := (by first | exact below_self (Below.refl _ _).drew hb4 | exact hb4))
          | (go_at_call 68; refine (HA.out _ hz4).mono ?_; rintro e' w5 ⟨rfl, hb5⟩; have hz5 : Below W1.heap.size W1 w5 := below_self hz4 hb5)
          | fail)
      have HZ := Lib.hid hz5
      clear hz4 hb4 hz5 hb5
      go_wp2_with fail
      go_meet
      case rel => exact ⟨by simp [hrb], HZ.out⟩
  case rest =>
    obtain ⟨rfl, hb⟩ := hcut
    clear hbs hW1 d0 d1
    have hd0 := cell_below hb HD.out.1
    have hd1 := cell_below hb HD.out.2
    have HC2 := Lib.hid (HC.out.low hb)
    have hbw := below_self HB.out hb
    have HBW := Lib.hid hbw
    clear hb hbw
    by_cases hgo : 0 ≤ lo ∧ lo < hi ∧ hi ≤ n
    · obtain ⟨l, rfl⟩ := Int.eq_ofNat_of_zero_le hgo.1
      obtain ⟨r, hri⟩ : ∃ r, R[l]? = some r := ⟨_, List.getElem?_eq_getElem (by rw [HC2.out.len]; omega)⟩
      rw [show (!(rightB ((l : Int), hi)) || decide ((n : Int) < hi)) = false by unfold rightB; simp; omega]
      have c0 := hp_cell (j := 0) HC2.out.hb rfl
      have c1 := (HC2.out.cell hri).2
      have f1 := hp_froz HC2.out.hc (l * 2 + 1)
      have HG := Lib.hid hgo
      have HRI := Lib.hid hri
      have hl1 : (l : Int) < (n : Int) := by omega
      have hl0 : (0 : Int) ≤ (l : Int) := by omega
      have HP := Lib.hid (show ∀ Q, CellsAt ((wc.drewN Q).setCell ⟨gc, l * 2 + 1, none⟩ (.int .i64 (max r.2.1 hi))) base b gc n (R.set l (r.1, max r.2.1 hi, r.2.2)) va ah from fun Q => (HC2.out.low (below_drew (Below.refl _ _) Q)).putE hri (max r.2.1 hi))
      have HBQ := Lib.hid (show ∀ Q, Kept w ((wc.drewN Q).setCell ⟨gc, l * 2 + 1, none⟩ (.int .i64 (max r.2.1 hi))) [b, gc] from fun Q => (Kept.of_below (below_drew HBW.out Q) _).set (.inl (by simp)) _ _)
      clear hri
      go_wp2_with fail
      go_quiet (fail)
      go_wp2_with fail
      go_region
      clear c0 c1 f1 hd0 hd1
      go_wp2_with fail
      go_ret
      exact ⟨.inr ⟨HG.out, rfl, r, HRI.out, HP.out _⟩, HBQ.out _⟩
    · rw [show (!(rightB (lo, hi)) || decide ((n : Int) < hi)) = true by unfold rightB; simp; omega]
      have HG := Lib.hid hgo
      clear hgo
      go_wp2_with fail
      go_ret
      exact ⟨.inl ⟨HG.out, rfl, HC2.out⟩, Kept.of_below HBW.out _⟩
end Go.Proofs.Ytmgoakfnmgngoaa
/- cells' New, set, Set, walked. -/
namespace Go.Proofs.Ytmgoakfnmgngoaa
open Go.RowKit

/-- A cell that has nothing. -/
def zRC : RC := (.slice none 0 0, 0, [])
theorem zcells_at (n : Nat) {j : Nat} (h : j < n * 2) : (cellsRC (List.replicate n zRC))[j]? = some (if j % 2 = 0 then .slice none 0 0 else .int .i64 0) := by
  have hr : (List.replicate n zRC)[j / 2]? = some zRC := by rw [List.getElem?_replicate, if_pos (by omega)]
  obtain ⟨h1, h2⟩ := cellsRC_at hr
  rcases Nat.mod_two_eq_zero_or_one j with e | e
  · rw [show j / 2 * 2 = j by omega] at h1
    rw [h1, if_pos e]; rfl
  · rw [show j / 2 * 2 + 1 = j by omega] at h2
    rw [h2, if_neg (by omega)]; rfl
theorem mk_cells (n : Nat) (hn : n ≤ 16777216) (w : World) : (Instr.makeSlice 62 (.int .i64 (n : Int)) (.int .i64 (n : Int))).run Try.prog w = .ok (.slice (some ⟨w.heap.size, 0, none⟩) n n) (w.alloc (.cells (cellsRC (List.replicate n zRC)).toArray 108)) := by
  have hin : (Try.prog.info? 108).map (fun i => (i.zero, i.size, i.bytes)) = some (some (.agg #[.slice none 0 0, .int .i64 0]), 2, 32) := by kernel_rfl
  obtain ⟨i, h1, h2, h3, h4⟩ := info_parts hin
  have h := run_make (P := Try.prog) w 62 108 i (.agg #[.slice none 0 0, .int .i64 0]) Try.underlying62 h1 h2 .i64 .i64 n n (by omega) (Int.le_refl _) (by rw [h4]; omega) (by omega)
  rw [h3] at h
  simp only [Int.toNat_natCast] at h
  rw [h]
  refine congrArg (fun c => Result.ok _ (w.alloc (.cells c _))) ?_
  apply Array.toList_inj.1
  rw [show (Value.agg #[.slice none 0 0, .int .i64 0]).cells = #[.slice none 0 0, .int .i64 0] from rfl]
  apply List.ext_getElem?
  intro j
  by_cases hj : j < n * 2
  · rw [show (cellsRC (List.replicate n zRC)).toArray.toList = cellsRC (List.replicate n zRC) from rfl, zcells_at n hj]
    unfold madeCells
    simp only [Array.toList_map, Array.toList_range, List.getElem?_map, List.getElem?_range hj, Option.map_some]
    rcases Nat.mod_two_eq_zero_or_one j with e | e
    · simp [e]
    · simp [e]
  · rw [List.getElem?_eq_none (by simp [madeCells]; omega), List.getElem?_eq_none (by simp [cellsRC_len]; omega)]
theorem zrows (w : World) (base n : Nat) : ∀ (i : Nat) (r : RC), (List.replicate n zRC)[i]? = some r → w.ownsRow base 3 1 r.1 r.2.2.length (r.2.2.map (Value.int .i64)) := fun i r h => by
  rw [List.getElem?_replicate] at h
  split at h
  · obtain rfl := Option.some.inj h
    exact ⟨rfl, .inl ⟨rfl, rfl⟩⟩
  · cases h
theorem znone (n : Nat) : ∀ (i : Nat) (r : RC), (List.replicate n zRC)[i]? = some r → r.1.ownBlock = none := fun i r h => by
  rw [List.getElem?_replicate] at h
  split at h
  · obtain rfl := Option.some.inj h
    rfl
  · cases h
/-- What New answers. -/
def NewAns (w w' : World) (n : Int) (e : Ending) : Prop :=
  ((n < 0 ∨ 16777216 < n) ∧ e = .returned (.tuple #[.pointer none, .int .i64 1])) ∨
  (∃ (m b gc base : Nat), n = (m : Int) ∧ m ≤ 16777216 ∧ e = .returned (.tuple #[.pointer (some ⟨b, 0, none⟩), .int .i64 0]) ∧ CellsAt w' base b gc m (List.replicate m zRC) (.slice none 0 0) [] ∧ w.heap.size ≤ b ∧ w.heap.size ≤ gc)
set_option maxRecDepth 100000 in
set_option maxHeartbeats 1000000 in
theorem new_any (n : Int) (w : World) : Calls Try.prog 26 #[.int .i64 n] w fun e w' => NewAns w w' n e ∧ Below w.heap.size w w' := by
  have hb0 := Below.refl w.heap.size w
  have hc : n < 0 ∨ (0 ≤ n ∧ 16777216 < n) ∨ (∃ m : Nat, n = (m : Int) ∧ m ≤ 16777216) := by
    by_cases h1 : n < 0
    · exact .inl h1
    · by_cases h2 : 16777216 < n
      · exact .inr (.inl ⟨by omega, h2⟩)
      · exact .inr (.inr ⟨n.toNat, by omega, by omega⟩)
  rcases hc with h1 | ⟨h1, h2⟩ | ⟨m, rfl, hm⟩
  · go_enter Try.func26, Try.ntmps26
    go_wp2_with fail
    exact bodyPost_ret (v := .tuple #[.pointer none, .int .i64 1]) (by simp [results, go_sem]) rfl ⟨.inl ⟨.inl h1, rfl⟩, hb0⟩
  · go_enter Try.func26, Try.ntmps26
    go_wp2_with fail
    exact bodyPost_ret (v := .tuple #[.pointer none, .int .i64 1]) (by simp [results, go_sem]) rfl ⟨.inl ⟨.inr h2, rfl⟩, hb0⟩
  · have hmk := mk_cells m hm
    have hmi : (m : Int) ≤ 16777216 := by omega
    have hm0 : (0 : Int) ≤ (m : Int) := by omega
    have HB := Lib.hid (below_self (below_new w (.cells (cellsRC (List.replicate m zRC)).toArray 108)) (below_new (w.alloc (.cells (cellsRC (List.replicate m zRC)).toArray 108)) (.cells #[.slice (some ⟨w.heap.size, 0, none⟩) m m, .slice none 0 0] 66)))
    have HC := Lib.hid (show CellsAt ((w.alloc (.cells (cellsRC (List.replicate m zRC)).toArray 108)).alloc (.cells #[.slice (some ⟨w.heap.size, 0, none⟩) m m, .slice none 0 0] 66)) (w.heap.size + 2) (w.heap.size + 1) w.heap.size m (List.replicate m zRC) (.slice none 0 0) [] from
      ⟨by have h := heap_alloc_new (w.alloc (.cells (cellsRC (List.replicate m zRC)).toArray 108)) (.cells #[.slice (some ⟨w.heap.size, 0, none⟩) m m, .slice none 0 0] 66); simpa using h,
       by rw [heap_alloc_old (h := by simp)]; exact heap_alloc_new w _, by simp, zrows _ _ m, ⟨rfl, .inl ⟨rfl, rfl⟩⟩, fun i j r s _ h _ => .inl (znone m i r h), fun i r h => .inl (znone m i r h), ⟨by omega, by omega, by omega, by simp⟩⟩)
    clear hb0
    go_enter Try.func26, Try.ntmps26
    go_wp2_with fail
    exact bodyPost_ret (v := .tuple #[.pointer (some ⟨w.heap.size + 1, 0, none⟩), .int .i64 0]) (by simp [results, go_sem]) rfl ⟨.inr ⟨m, w.heap.size + 1, w.heap.size, w.heap.size + 2, rfl, hm, rfl, HC.out, by omega, by omega⟩, HB.out⟩
end Go.Proofs.Ytmgoakfnmgngoaa
/- naskhlaw12's awake: two cells, of which the second one has two codes. -/
namespace Go.Proofs.Ytmgoakfnmgngoaa
open Go.RowKit

def twoR (v : Value) : List RC := [zRC, (v, 0, [7, 8])]
theorem two_set (v : Value) : (List.replicate 2 zRC).set 1 (v, zRC.2.1, [7, 8]) = twoR v := rfl
theorem two_cnt (v : Value) : cntR (twoR v) [] 0 2 = 2 := rfl
theorem two_len (v : Value) : ([] : List Int).length + lenR (twoR v) ≤ 1000000 := by rw [show ([] : List Int).length + lenR (twoR v) = 2 from rfl]; omega
theorem two_told (v : Value) : toldR (twoR v) [] 0 2 = [7, 8] := rfl
def twoL : List Cl := [((1, 2), (0, 2))]
theorem two_links (v : Value) : linksR 2 (twoR v) [] = twoL := by
  have h1 : joinedTo (twoR v) 2 = [] := rfl
  unfold linksR
  rw [h1]
  rfl
theorem two_fit : fitB 2 2 twoL = true := rfl
theorem two_cov : CovP 2 twoL := fun j h1 h2 => ⟨(0, 2), by simp [twoL], h1, h2⟩
theorem two_E : finE 2 2 twoL = 0 := by
  unfold finE
  rw [two_fit, if_neg (by simp), if_neg (by simp), if_neg (by simp), if_pos two_cov]
theorem two_finest : Finest (twoL.map ncOf ++ fillsOf 2 (twoL.map ncOf)) 0 2 2 [⟨0, 2, 0, 2⟩] := by
  have hK : twoL.map ncOf = [⟨1, 2, 0, 2⟩] := rfl
  rw [hK]
  have hf : FirstOf [(⟨1, 2, 0, 2⟩ : NC)] 1 := ⟨⟨_, List.mem_singleton_self _, ⟨by decide, by decide⟩, rfl⟩, fun y hy _ => by rw [List.mem_singleton.1 hy]; exact Nat.le_refl 1⟩
  have hmem : (⟨0, 2, 0, 0⟩ : NC) ∈ fillsOf 2 [(⟨1, 2, 0, 2⟩ : NC)] := by
    unfold fillsOf
    refine List.mem_append_right _ ?_
    unfold fillAhead
    have hex : ∃ f, FirstOf [(⟨1, 2, 0, 2⟩ : NC)] f ∧ 0 < f := ⟨1, hf, by omega⟩
    rw [dif_pos hex, (Classical.choose_spec hex).1.only hf]
    exact List.mem_singleton_self _
  have t1 : ∀ i, i < 2 → Tog ([(⟨1, 2, 0, 2⟩ : NC)] ++ fillsOf 2 [(⟨1, 2, 0, 2⟩ : NC)]) (false, 1) (false, i) := fun i hi => .link ⟨0, 2, 0, 0⟩ _ _ (List.mem_append_right _ hmem) (show 0 ≤ 1 ∧ 1 < 2 by omega) (show 0 ≤ i ∧ i < 2 by omega)
  have t2 : ∀ k, k < 2 → Tog ([(⟨1, 2, 0, 2⟩ : NC)] ++ fillsOf 2 [(⟨1, 2, 0, 2⟩ : NC)]) (false, 1) (true, k) := fun k hk => .link ⟨1, 2, 0, 2⟩ _ _ (List.mem_append_left _ (List.mem_singleton_self _)) (show 1 ≤ 1 ∧ 1 < 2 by omega) (show 0 ≤ k ∧ k < 2 by omega)
  refine ⟨⟨rfl, by decide, rfl⟩, fun x hx => by rw [List.mem_singleton.1 hx]; exact ⟨by decide, by decide⟩, fun i _ hi q hq => ⟨fun _ => ⟨_, List.mem_singleton_self _, (show 0 ≤ i ∧ i < 2 by omega), ?_⟩, fun _ => ?_⟩⟩
  · obtain ⟨s, k⟩ := q
    cases s
    · exact (show 0 ≤ k ∧ k < 2 from hq)
    · exact (show 0 ≤ k ∧ k < 2 from ⟨Nat.zero_le _, hq⟩)
  · obtain ⟨s, k⟩ := q
    cases s
    · exact .trans _ _ _ (.symm _ _ (t1 i hi)) (t1 k hq.2)
    · exact .trans _ _ _ (.symm _ _ (t1 i hi)) (t2 k hq)
set_option maxRecDepth 100000 in
set_option maxHeartbeats 2000000 in
theorem awake12_any (w : World) : Calls Try.prog 25 #[] w fun e w' => e = .returned (.bool true) ∧ Below w.heap.size w w' := by
  go_enter Try.func25, Try.ntmps25
  go_wp2_with fail
  refine (new_any 2 w).mono ?_
  rintro e w1 ⟨hans, hb1⟩
  rcases hans with ⟨h, _⟩ | ⟨m, b, gc, base, hm, _, rfl, hC, hbb, hbg⟩
  · omega
  · have hm2 : m = 2 := by omega
    subst hm2
    have hbn := below_new w1 (.cells #[.int .i64 7, .int .i64 8] 3)
    have HC2 := Lib.hid (hC.low hbn)
    have hr : Rd (w1.alloc (.cells #[.int .i64 7, .int .i64 8] 3)) 1 (some ⟨w1.heap.size, 0, none⟩) 2 (([7, 8] : List Int).map (Value.int .i64)) := rd_blk (m := 2) (cs := [.int .i64 7, .int .i64 8]) 1 (heap_alloc_new w1 (.cells #[.int .i64 7, .int .i64 8] 3)) rfl
    have HR := Lib.hid hr
    have HB := Lib.hid (below_self hb1 hbn)
    have hsz : w.heap.size ≤ (w1.alloc (.cells #[.int .i64 7, .int .i64 8] 3)).heap.size := HB.out.size
    clear hm hC hr hbn
    go_wp2_with fail
    refine (set_cells base b gc 2 1 _ _ _ [7, 8] _ 2 2 _ HC2.out (by omega) HR.out (by omega) (by omega)).mono ?_
    rintro e w3 ⟨rfl, ⟨v, r, hri, hC3⟩, hB3⟩
    have hr0 : r = zRC := (Option.some.inj hri).symm
    subst hr0
    have hC4 : CellsAt w3 base b gc 2 (twoR v) (.slice none 0 0) [] := hC3
    have HC4 := Lib.hid hC4
    have HB3 := Lib.hid (hB3 w.heap.size w hbb hbg hsz HB.out)
    clear hri hC3 hB3 hC4 hsz hbb hbg hb1
    go_wp2_with fail
    refine (clusters_cells base b gc 2 (twoR v) _ [] w3 HC4.out (by omega) (by omega) (two_len v)).mono ?_
    rintro e w4 ⟨hans, hb4⟩
    have hans2 : FinAns w3 w4 2 2 twoL e := by
      have h := hans
      rw [two_cnt, two_links] at h
      exact h
    clear hans
    rcases hans2 with ⟨hne, _⟩ | ⟨_, _, _, _, _, _, _, v4, l', rfl, hfi, hown⟩
    · exact absurd two_E hne
    · have hl' : l' = [⟨0, 2, 0, 2⟩] := Finest.only (hfi.2 (by decide)) two_finest
      subst hl'
      obtain ⟨V, cv, rfl, _⟩ := own_form hown
      have HR4 := Lib.hid (show Rd w4 4 V 1 (cellsC [((0, 2), (0, 2))]) from Rd.of_own hown)
      have HC5 := Lib.hid (HC4.out.low hb4)
      have HB4 := Lib.hid (below_self HB3.out hb4)
      clear hfi hown hb4
      go_wp2_with fail
      refine (text_cells base b gc 2 (twoR v) _ [] w4 HC5.out (by omega) (by omega) (Nat.le_trans (two_len v) (by omega))).mono ?_
      rintro e w5 ⟨v5, rfl, hown5, hb5⟩
      rw [two_told] at hown5
      obtain ⟨V5, cv5, rfl, _⟩ := own_form hown5
      have hbn := below_new w5 (.cells #[.int .i64 7, .int .i64 8] 3)
      have HR5 := Lib.hid (show Rd (w5.alloc (.cells #[.int .i64 7, .int .i64 8] 3)) 1 V5 2 (([7, 8] : List Int).map (Value.int .i64)) from (Rd.of_own hown5).below hbn)
      have HR6 := Lib.hid (show Rd (w5.alloc (.cells #[.int .i64 7, .int .i64 8] 3)) 1 (some ⟨w5.heap.size, 0, none⟩) 2 (([7, 8] : List Int).map (Value.int .i64)) from rd_blk (m := 2) (cs := [.int .i64 7, .int .i64 8]) 1 (heap_alloc_new w5 (.cells #[.int .i64 7, .int .i64 8] 3)) rfl)
      have HB5 := Lib.hid (below_self (below_self HB4.out hb5) hbn)
      have HRC := Lib.hid ((HR4.out.below hb5).below hbn)
      clear hown5 hbn hb5
      go_wp2_with fail
      refine (equalInt_any V5 (some ⟨w5.heap.size, 0, none⟩) 2 2 cv5 2 [7, 8] [7, 8] _ HR5.out HR6.out (by unfold maxLen; omega) (by unfold maxLen; omega)).mono ?_
      rintro e w6 ⟨rfl, q6, hw6⟩
      rw [show decide (([7, 8] : List Int) = [7, 8]) = true from decide_eq_true rfl]
      have HB6 := Lib.hid (show Below w.heap.size w w6 by rw [hw6]; exact below_drew HB5.out q6)
      have HRC6 := Lib.hid (show Rd w6 4 V 1 (cellsC [((0, 2), (0, 2))]) by rw [hw6]; exact HRC.out)
      clear hw6
      have hbn := below_new w6 (.cells #[.int .i64 0, .int .i64 2, .int .i64 0, .int .i64 2] 33)
      have HR7 := Lib.hid (show Rd (w6.alloc (.cells #[.int .i64 0, .int .i64 2, .int .i64 0, .int .i64 2] 33)) 4 (some ⟨w6.heap.size, 0, none⟩) 1 (cellsC [((0, 2), (0, 2))]) from rd_blk (m := 1) (cs := [.int .i64 0, .int .i64 2, .int .i64 0, .int .i64 2]) 4 (heap_alloc_new w6 (.cells #[.int .i64 0, .int .i64 2, .int .i64 0, .int .i64 2] 33)) rfl)
      have HR8 := Lib.hid (HRC6.out.below hbn)
      have HB7 := Lib.hid (below_self HB6.out hbn)
      clear hbn
      go_wp2_with fail
      refine (equalC_b V (some ⟨w6.heap.size, 0, none⟩) 1 1 cv 1 [((0, 2), (0, 2))] [((0, 2), (0, 2))] _ HR8.out HR7.out (by unfold maxLen; omega) (by unfold maxLen; omega)).mono ?_
      rintro e w7 ⟨rfl, hb7⟩
      rw [show decide (([((0, 2), (0, 2))] : List Cl) = [((0, 2), (0, 2))]) = true from decide_eq_true rfl]
      have hfin := below_self HB7.out hb7
      go_wp2_with fail
      go_ret
      exact ⟨rfl, hfin⟩
end Go.Proofs.Ytmgoakfnmgngoaa
