/- Texts of one claim, one behind the other. -/
import Derived.Deep.RegionHeld3
import Derived.Deep.RegionLaw
import Derived.Deep.DeepCutAuto
import Derived.Deep.CutBlock
import Derived.Laws.MakeOwn
import Derived.Test.YtcbiaeeifclieaaGreatDoorMgM1
import Derived.Test.YtcbiaeeifclieaaGreatDoorMgM2
import Derived.Test.YtcbiaeeifclieaaGreatDoorMgM3
import Derived.Test.YtcbiaeeifclieaaGreatDoorMgM4
import Derived.Test.YtcbiaeeifclieaaGreatDoorMgM8
import Derived.Test.YtcbiaeeifclieaaGreatDoorMgM19
import Derived.Test.YtcbiaeeifclieaaGreatDoorMgM20
import Derived.Test.YtcbiaeeifclieaaGreatDoorMgM30
import Derived.Test.YtcbiaeeifclieaaGreatDoorMgM31
/- cells' links and Clusters, walked. -/
namespace Go.Proofs.YtcbiaeeifclieaaGreatDoor
open Go.RowKit

/-- One group more: its link, if it has codes, and where its codes end. -/
def lkStep (R : List RC) (ah : List Int) (acc : List Cl × Nat) (g : Sp) : List Cl × Nat :=
  (if 0 < cntR R ah g.1.toNat g.2.toNat then acc.1 ++ [(g, ((acc.2 : Int), (acc.2 : Int) + (cntR R ah g.1.toNat g.2.toNat : Nat)))] else acc.1, acc.2 + cntR R ah g.1.toNat g.2.toNat)
def linksTo (R : List RC) (ah : List Int) (G : List Sp) : List Cl × Nat := G.foldl (lkStep R ah) ([], 0)
theorem linksTo_step {R : List RC} {ah : List Int} {G : List Sp} {k : Nat} {g : Sp} (h : G[k]? = some g) : linksTo R ah (G.take (k + 1)) = lkStep R ah (linksTo R ah (G.take k)) g := by
  unfold linksTo; rw [List.take_add_one, h]; simp
theorem linksTo_len (R : List RC) (ah : List Int) (G : List Sp) (k : Nat) : (linksTo R ah (G.take k)).1.length ≤ k := by
  induction k with
  | zero => simp [linksTo]
  | succ k ih =>
    rcases h : G[k]? with _ | g
    · rw [List.take_add_one, h]; simp; omega
    · rw [linksTo_step h]
      unfold lkStep
      simp only
      split
      · rw [List.length_append]; simp; omega
      · omega
theorem linksTo_end (R : List RC) (ah : List Int) (G : List Sp) (k : Nat) : (linksTo R ah (G.take k)).2 ≤ k * (ah.length + lenR R) := by
  induction k with
  | zero => simp [linksTo]
  | succ k ih =>
    rw [Nat.succ_mul]
    rcases h : G[k]? with _ | g
    · rw [List.take_add_one, h]; simp; omega
    · rw [linksTo_step h]
      have := cntR_le R ah g.1.toNat g.2.toNat
      unfold lkStep
      simp only
      omega
theorem linksTo_yes {R : List RC} {ah : List Int} {G : List Sp} {k a b : Nat} (h : G[k]? = some ((a : Int), (b : Int))) (hc : 0 < cntR R ah a b) : linksTo R ah (G.take (k + 1)) = ((linksTo R ah (G.take k)).1 ++ [(((a : Int), (b : Int)), (((linksTo R ah (G.take k)).2 : Int), ((linksTo R ah (G.take k)).2 : Int) + (cntR R ah a b : Nat)))], (linksTo R ah (G.take k)).2 + cntR R ah a b) := by
  rw [linksTo_step h]
  unfold lkStep
  simp only [Int.toNat_natCast]
  rw [if_pos hc]
theorem linksTo_no {R : List RC} {ah : List Int} {G : List Sp} {k a b : Nat} (h : G[k]? = some ((a : Int), (b : Int))) (hc : ¬ 0 < cntR R ah a b) : linksTo R ah (G.take (k + 1)) = ((linksTo R ah (G.take k)).1, (linksTo R ah (G.take k)).2 + cntR R ah a b) := by
  rw [linksTo_step h]
  unfold lkStep
  simp only [Int.toNat_natCast]
  rw [if_neg hc]
theorem parts_mem {n : Int} : ∀ {l : List Sp} {e : Int}, 0 ≤ e → partsFrom e l n = true → ∀ g ∈ l, ∃ a b : Nat, g = ((a : Int), (b : Int)) ∧ a < b ∧ (b : Int) ≤ n
  | [], _, _, _, g, hg => by simp at hg
  | s :: l, e, he, h, g, hg => by
    cases hr : rightB s with
    | false => rw [partsFrom_no (.inl hr)] at h; cases h
    | true =>
      cases hq : (s.1 == e) with
      | false => rw [partsFrom_no (.inr hq)] at h; cases h
      | true =>
        rw [partsFrom_yes hr hq] at h
        have hs := of_decide_eq_true hr
        rcases List.mem_cons.1 hg with rfl | hg
        · have hle : g.2 ≤ n := parts_le h
          refine ⟨g.1.toNat, g.2.toNat, ?_, by omega, by omega⟩
          obtain ⟨g1, g2⟩ := g
          simp only [Prod.mk.injEq]
          simp only at hs
          omega
        · exact parts_mem (by omega) h g hg
where
  parts_le {n : Int} : ∀ {l : List Sp} {e : Int}, partsFrom e l n = true → e ≤ n
  | [], e, h => by
    have : (e == n) = true := h
    have : e = n := by simpa using this
    omega
  | s :: l, e, h => by
    cases hr : rightB s with
    | false => rw [partsFrom_no (.inl hr)] at h; cases h
    | true =>
      cases hq : (s.1 == e) with
      | false => rw [partsFrom_no (.inr hq)] at h; cases h
      | true =>
        rw [partsFrom_yes hr hq] at h
        have hs := of_decide_eq_true hr
        have h1 := parts_le h
        have h2 : s.1 = e := by simpa using hq
        omega
set_option maxRecDepth 100000 in
set_option maxHeartbeats 2000000 in
theorem links_any (base b gc n : Nat) (R : List RC) (va : Value) (ah : List Int) (w : World) (hC : CellsAt w base b gc n R va ah) (hn : n ≤ 1000) (ht : ah.length + lenR R ≤ 1000000) :
    Calls Tryz.prog 45 #[.pointer (some ⟨b, 0, none⟩)] w fun e w' => ∃ v, e = .returned v ∧ w'.ownsRow w.heap.size 41 4 v (linksTo R ah (groupsS n (joinedTo R n))).1.length (cellsC (linksTo R ah (groupsS n (joinedTo R n))).1) ∧ Below w.heap.size w w' := by
  obtain ⟨Aa, ca, rfl, _⟩ := own_form hC.arow
  have c0 := hp_cell (j := 0) hC.hb rfl
  have HC := Lib.hid hC
  have HJ := Lib.hid (fun W (h : Below w.heap.size w W) => joined_any base b gc n R _ ah W (hC.low h) (by omega))
  have hjl : (joinedTo R n).length ≤ 1000 := Nat.le_trans (joinedTo_len R n) hn
  obtain ⟨J, hJ⟩ : ∃ J, joinedTo R n = J := ⟨_, rfl⟩
  rw [hJ] at HJ hjl ⊢
  have HP := Lib.hid (parts_mem (Int.le_refl 0) (groups_whole (n := (n : Int)) J (by omega)))
  have hgl : (groupsS (n : Int) J).length ≤ 1000 := groups_len (by omega)
  obtain ⟨G, hG⟩ : ∃ G, groupsS (n : Int) J = G := ⟨_, rfl⟩
  rw [hG] at hgl HP ⊢
  have HGJ := Lib.hid hG
  obtain ⟨gl, hgl2⟩ : ∃ gl, G.length = gl := ⟨_, rfl⟩
  rw [hgl2] at hgl
  have HG := Lib.hid hgl2
  clear hJ hG hgl2
  go_enter Tryz.func45, Tryz.ntmps45
  go_wp2_with fail
  go_region_held3 (fun w' => w'.cell? ⟨b, 0, none⟩ = some (.slice (some ⟨gc, 0, none⟩) n n) ∧ Below w.heap.size w w')
    (first
      | exact ⟨c0, Below.refl _ _⟩
      | exact ⟨c0, (Below.refl _ _).drew⟩
      | exact ⟨cell_below hz1 c0, hz1⟩
      | exact ⟨cell_below hz2 c0, hz2⟩
      | fail)
    (first
      | (go_at_call 75; with_reducible refine (HJ.out _ (by first | exact (Below.refl _ _).drew | exact Below.refl _ _)).mono ?_; rintro e' w1 ⟨v1, rfl, hown1, hb1⟩; obtain ⟨A1, c1, rfl, hc1⟩ := own_form hown1; have hz1 : Below w.heap.size w w1 := (by first | exact below_self (Below.refl _ _).drew hb1 | exact hb1))
      | (go_at_call 74; refine (prGroups_any (n : Int) A1 J.length c1 J w1 (Rd.of_own hown1) hjl (by omega) (by omega)).mono ?_; rintro e' w2 ⟨v2, rfl, hown2, hb2⟩; rw [HGJ.out, HG.out] at hown2; obtain ⟨A2, c2, rfl, hc2⟩ := own_form hown2; have hz2 : Below w.heap.size w w2 := below_self hz1 hb2)
      | fail)
  have HRG := Lib.hid (Rd.of_own hown2)
  have HZ := Lib.hid hz2
  have HC2 := Lib.hid (HC.out.low hz2)
  clear hown1 hb1 hz1 hb2 hown2 hz2 hc1 hc2 c0 hC
  go_wp2_with fail
  go_loopw [3, 4, 17] (fun v e i ws => ∃ k : Nat, k ≤ gl ∧ i = .int .i64 (k : Int) ∧ e = .int .i64 ((linksTo R ah (G.take k)).2 : Nat) ∧ ws.ownsRow w2.heap.size 41 4 v (linksTo R ah (G.take k)).1.length (cellsC (linksTo R ah (G.take k)).1) ∧ Below w2.heap.size w2 ws) (fun _ _ i _ => gl - (intOf i).toNat)
  case atStart => exact ⟨0, Nat.zero_le _, rfl, rfl, ⟨rfl, .inl ⟨rfl, rfl⟩⟩, Below.refl _ _⟩
  case round =>
    obtain ⟨k, hk, rfl, rfl, hown, hb⟩ := hrel
    have hll := linksTo_len R ah G k
    have hle := linksTo_end R ah G k
    have hkm : k * (ah.length + lenR R) ≤ 1000 * 1000000 := Nat.mul_le_mul (by omega) ht
    by_cases hlt : k < gl
    · obtain ⟨g, hg⟩ : ∃ g, G[k]? = some g := ⟨_, List.getElem?_eq_getElem (by rw [HG.out]; exact hlt)⟩
      obtain ⟨a, d, rfl, had, hdn⟩ := HP.out g (List.mem_of_getElem? hg)
      obtain ⟨ad, rfl, hab, x0, x1⟩ := (HRG.out.below hb).span hg
      have HY := Lib.hid (fun h => linksTo_yes (R := R) (ah := ah) hg h)
      have HN := Lib.hid (fun h => linksTo_no (R := R) (ah := ah) hg h)
      have hcb := cntR_le R ah a d
      obtain ⟨e, he⟩ : ∃ e, (linksTo R ah (G.take k)).2 = e := ⟨_, rfl⟩
      obtain ⟨L, hL⟩ : ∃ L, (linksTo R ah (G.take k)).1 = L := ⟨_, rfl⟩
      rw [he, hL] at HY HN
      rw [hL] at hll hown
      rw [he] at hle ⊢
      simp only at x0 x1
      have hb1 := below_new wr (.cells #[.int .i64 (a : Int), .int .i64 (d : Int)] 39)
      have s1 := SpanBlk.new_ wr (a : Int) (d : Int) 39
      obtain ⟨W1, hW1⟩ : ∃ W1, wr.alloc (.cells #[.int .i64 (a : Int), .int .i64 (d : Int)] 39) = W1 := ⟨_, rfl⟩
      rw [hW1] at hb1 s1
      obtain ⟨p0, p1, f0, f1⟩ := s1
      obtain ⟨bk, hbk⟩ : ∃ bk, wr.heap.size = bk := ⟨_, rfl⟩
      rw [hbk] at p0 p1
      have HB1 := Lib.hid (below_self hb hb1)
      have HO1 := Lib.hid (own_below hown hb1)
      have HNE0 := Lib.hid (fun g (h : u3.ownBlock = some g) => (hown.lt g h).2)
      have hs1 := hb1.size
      clear hg he hL f0 f1 hown hb hb1
      go_wp2_with fail
      refine (count_any base b gc n a d R _ ah W1 (HC2.out.low HB1.out) had (by omega) (by omega) (by omega)).mono ?_
      rintro e' w3 ⟨rfl, hb3⟩
      obtain ⟨cq, hcq⟩ : ∃ cq, cntR R ah a d = cq := ⟨_, rfl⟩
      rw [hcq] at HY HN hcb ⊢
      have q0 := cell_below hb3 p0
      have q1 := cell_below hb3 p1
      have hb4 := below_new w3 (.cells #[.int .i64 (e : Int), .int .i64 ((e : Int) + (cq : Int))] 39)
      have s4 := SpanBlk.new_ w3 (e : Int) ((e : Int) + (cq : Int)) 39
      obtain ⟨W4, hW4⟩ : ∃ W4, w3.alloc (.cells #[.int .i64 (e : Int), .int .i64 ((e : Int) + (cq : Int))] 39) = W4 := ⟨_, rfl⟩
      rw [hW4] at hb4 s4
      obtain ⟨r0, r1, f0, f1⟩ := s4
      have HNE := Lib.hid (fun g (h : u3.ownBlock = some g) => (show g < w3.heap.size from Nat.lt_of_lt_of_le (HNE0.out g h) (Nat.le_trans hs1 hb3.size)))
      obtain ⟨bj, hbj⟩ : ∃ bj, w3.heap.size = bj := ⟨_, rfl⟩
      rw [hbj] at HNE
      clear HNE0 hs1
      rw [hbj] at r0 r1
      have t0 := cell_below hb4 q0
      have t1 := cell_below hb4 q1
      have HB4 := Lib.hid (below_self (below_self HB1.out hb3) hb4)
      have HO4 := Lib.hid (own_below (own_below HO1.out hb3) hb4)
      clear hcq p0 p1 q0 q1 f0 f1 hb3 hb4 x0 x1 hab hW1 hbk
      go_wp2_with fail
      refine (prRight_any (e : Int) ((e : Int) + (cq : Int)) W4).mono ?_
      rintro e' w5 ⟨rfl, hb5⟩
      have u0 := cell_below hb5 r0
      have u1 := cell_below hb5 r1
      have v0 := cell_below hb5 t0
      have v1 := cell_below hb5 t1
      have HB5 := Lib.hid (below_self HB4.out hb5)
      have HO5 := Lib.hid (own_below HO4.out hb5)
      clear r0 r1 t0 t1 hb5 hW4 hbj
      by_cases hc0 : 0 < cq
      · rw [show rightB ((e : Int), (e : Int) + (cq : Int)) = true by unfold rightB; exact decide_eq_true (by omega)]
        have HE := Lib.hid (HY.out hc0)
        have z0 := cell_below (below_new w5 (.cells #[.int .i64 (a : Int), .int .i64 (d : Int), .int .i64 (e : Int), .int .i64 ((e : Int) + (cq : Int))] 41)) u0
        have z1 := cell_below (below_new w5 (.cells #[.int .i64 (a : Int), .int .i64 (d : Int), .int .i64 (e : Int), .int .i64 ((e : Int) + (cq : Int))] 41)) u1
        go_wp2_with (at_builtin; refine wpList_app rfl _ _ _ rfl clusSlice (by decide) u3 L.length _ rfl (HO5.out.alloc _) ⟨w5.heap.size, 0, none⟩ 1 1 [.int .i64 (a : Int), .int .i64 (d : Int), .int .i64 (e : Int), .int .i64 ((e : Int) + (cq : Int))] rfl rfl (cells_new w5 [_, _, _, _] _) (oneInt4 _ _ _ _ _) (by omega) (by unfold maxLen; omega) (Nat.le_trans HB5.out.size (by simp)) ?_; intro v6 w6 hown6 hg6 hat6; have HB6 := Lib.hid ((HB5.out.alloc HB5.out.size (.cells #[.int .i64 (a : Int), .int .i64 (d : Int), .int .i64 (e : Int), .int .i64 ((e : Int) + (cq : Int))] 41)).grown hg6 (Nat.le_trans HB5.out.size (by simp)) (fun b hb => (HO5.out.lt b hb).1)); have y1 := hg6.cell z1 (fun h9 => absurd (HNE.out _ h9.symm) (Nat.lt_irrefl _)))
        have HO6 := Lib.hid (show w6.ownsRow w2.heap.size 41 4 v6 (L ++ [(((a : Int), (d : Int)), ((e : Int), (e : Int) + (cq : Int)))]).length (cellsC (L ++ [(((a : Int), (d : Int)), ((e : Int), (e : Int) + (cq : Int)))])) by rw [List.length_append, cellsC_snoc]; exact hown6)
        clear hown6 hg6 hat6 z0 z1 y1 u0 u1 v0 v1
        go_roundw
        case rel => exact ⟨k + 1, by omega, by go_num, by rw [HE.out]; go_num, by rw [HE.out]; exact HO6.out, HB6.out⟩
        case measure => simp [intOf]; omega
      · rw [show rightB ((e : Int), (e : Int) + (cq : Int)) = false by unfold rightB; exact decide_eq_false (by omega)]
        have HE := Lib.hid (HN.out hc0)
        go_wp2_with fail
        clear u0 u1 v0 v1
        go_roundw
        case rel => exact ⟨k + 1, by omega, by go_num, by rw [HE.out]; go_num, by rw [HE.out]; exact HO5.out, HB5.out⟩
        case measure => simp [intOf]; omega
    · have hkg : k = gl := by omega
      have HTK := Lib.hid (show G.take k = G by rw [hkg, ← HG.out, List.take_length])
      rw [HTK.out] at hown
      have HO := Lib.hid (own_base hown HZ.out.size)
      have HB := Lib.hid (below_self HZ.out hb)
      clear hown hb hkg hll hle hkm
      go_wp2_with fail
      go_ret
      exact ⟨u3, rfl, HO.out, HB.out⟩
end Go.Proofs.YtcbiaeeifclieaaGreatDoor
/- cells' Clusters, Text, At, walked. -/
namespace Go.Proofs.YtcbiaeeifclieaaGreatDoor
open Go.RowKit

theorem FinAns.low {w w1 w' : World} {n m : Int} {l : List Cl} {e : Ending} (h : FinAns w1 w' n m l e) (hw : w.heap.size ≤ w1.heap.size) : FinAns w w' n m l e := by
  rcases h with h | ⟨h0, h1, h2, h3, h4, h5, h6, v, l', h7, h8, h9⟩
  · exact .inl h
  · exact .inr ⟨h0, h1, h2, h3, h4, h5, h6, v, l', h7, h8, own_base h9 hw⟩
theorem FinAns.form {w w' : World} {n m : Int} {l : List Cl} {e : Ending} (h : FinAns w w' n m l e) : ∃ (v : Value) (er : Int), e = .returned (.tuple #[v, .int .i64 er]) := by
  rcases h with ⟨_, h⟩ | ⟨_, _, _, _, _, _, _, v, l', h, _⟩
  · exact ⟨_, _, h⟩
  · exact ⟨v, 0, h⟩
/-- The links of cells. -/
def linksR (n : Nat) (R : List RC) (ah : List Int) : List Cl := (linksTo R ah (groupsS n (joinedTo R n))).1
set_option maxRecDepth 100000 in
set_option maxHeartbeats 2000000 in
theorem clusters_cells (base b gc n : Nat) (R : List RC) (va : Value) (ah : List Int) (w : World) (hC : CellsAt w base b gc n R va ah) (hn0 : 0 < n) (hn : n ≤ 1000) (ht : ah.length + lenR R ≤ 1000000) :
    Calls Tryz.prog 18 #[.pointer (some ⟨b, 0, none⟩)] w fun e w' => FinAns w w' (n : Int) (cntR R ah 0 n : Nat) (linksR n R ah) e ∧ Below w.heap.size w w' := by
  have c0 := hp_cell (j := 0) hC.hb rfl
  have HC := Lib.hid hC
  have HAL := Lib.hid (all_any b (some ⟨gc, 0, none⟩) n n w c0)
  have HL := Lib.hid (fun W (h : Below w.heap.size w W) => links_any base b gc n R va ah W (hC.low h) hn ht)
  have hll : (linksR n R ah).length ≤ 1000 := by
    have h1 := linksTo_len R ah (groupsS (n : Int) (joinedTo R n)) (groupsS (n : Int) (joinedTo R n)).length
    rw [List.take_length] at h1
    exact Nat.le_trans h1 (groups_len (by omega))
  have hct := cntR_le R ah 0 n
  have HLE : Hid ((linksTo R ah (groupsS n (joinedTo R n))).1 = linksR n R ah) := Lib.hid rfl
  rw [HLE.out] at HL
  obtain ⟨L, hL⟩ : ∃ L, linksR n R ah = L := ⟨_, rfl⟩
  rw [hL] at HL hll ⊢
  have HCT := Lib.hid (fun W (h : Below w.heap.size w W) => count_any base b gc n 0 n R va ah W (hC.low h) hn0 (Nat.le_refl _) (by omega) (by omega))
  obtain ⟨cq, hcq⟩ : ∃ cq, cntR R ah 0 n = cq := ⟨_, rfl⟩
  rw [hcq] at HCT hct ⊢
  clear hC c0 hL HLE hcq
  go_enter Tryz.func18, Tryz.ntmps18
  go_wp2_with fail
  refine HAL.out.mono ?_
  rintro e w1 ⟨rfl, hb1⟩
  have hb2 := below_new w1 (.cells #[.int .i64 0, .int .i64 (n : Int)] 39)
  have s2 := SpanBlk.new_ w1 0 (n : Int) 39
  obtain ⟨W2, hW2⟩ : ∃ W2, w1.alloc (.cells #[.int .i64 0, .int .i64 (n : Int)] 39) = W2 := ⟨_, rfl⟩
  rw [hW2] at hb2 s2
  obtain ⟨p0, p1, f0, f1⟩ := s2
  obtain ⟨bk, hbk⟩ : ∃ bk, w1.heap.size = bk := ⟨_, rfl⟩
  rw [hbk] at p0 p1
  have hbw2 := below_self hb1 hb2
  clear f0 f1 hb1 hb2
  go_wp2_with fail
  refine (prRight_any 0 (n : Int) W2).mono ?_
  rintro e w3 ⟨rfl, hb3⟩
  rw [show rightB ((0 : Int), (n : Int)) = true by unfold rightB; exact decide_eq_true (by omega)]
  have q0 := cell_below hb3 p0
  have q1 := cell_below hb3 p1
  have hbw3 := below_self hbw2 hb3
  have HB3 := Lib.hid hbw3
  clear p0 p1 hb3 hbw2 hW2 hbk
  go_wp2_with fail
  go_region_held3 (fun w' => w'.cell? ⟨bk, 0, none⟩ = some (.int .i64 0) ∧ w'.cell? ⟨bk, 1, none⟩ = some (.int .i64 (n : Int)) ∧ Below w3.heap.size w3 w')
    (first
      | exact ⟨q0, q1, Below.refl _ _⟩
      | exact ⟨q0, q1, (Below.refl _ _).drew⟩
      | exact ⟨cell_below hz1 q0, cell_below hz1 q1, hz1⟩
      | exact ⟨cell_below hz2 q0, cell_below hz2 q1, hz2⟩
      | exact ⟨cell_below hz3 q0, cell_below hz3 q1, hz3⟩
      | fail)
    (first
      | (go_at_call 44; refine (HCT.out _ (by first | exact below_self HB3.out (Below.refl _ _).drew | exact HB3.out)).mono ?_; rintro e' w4 ⟨rfl, hb4⟩; have hz1 : Below w3.heap.size w3 w4 := (by first | exact below_self (Below.refl _ _).drew hb4 | exact hb4))
      | (go_at_call 45; refine (HL.out _ (below_self HB3.out hz1)).mono ?_; rintro e' w5 ⟨v5, rfl, hown5, hb5⟩; obtain ⟨A5, c5, rfl, hc5⟩ := own_form hown5; have hz2 : Below w3.heap.size w3 w5 := below_self hz1 hb5)
      | (go_at_call 43; refine (prFinest_all (n : Int) (cq : Int) L.length c5 A5 L w5 (Rd.of_own hown5) (by omega)).mono ?_; rintro e' w6 ⟨hans, hb6⟩; obtain ⟨v6, er, rfl⟩ := hans.form; have hz3 : Below w3.heap.size w3 w6 := below_self hz2 hb6)
      | fail)
  have HA := Lib.hid (hans.low (Nat.le_trans HB3.out.size hz2.size))
  have HBF := Lib.hid (below_self HB3.out hz3)
  clear hans hz1 hz2 hz3 hb4 hown5 hb5 hb6 q0 q1
  go_wp2_with fail
  exact bodyPost_ret (v := .tuple #[v6, .int .i64 er]) (by simp [results, go_sem]) rfl ⟨HA.out, HBF.out⟩
set_option maxRecDepth 100000 in
set_option maxHeartbeats 2000000 in
theorem text_cells (base b gc n : Nat) (R : List RC) (va : Value) (ah : List Int) (w : World) (hC : CellsAt w base b gc n R va ah) (hn0 : 0 < n) (hn : n ≤ 100000000) (ht : ah.length + lenR R ≤ 100000000) :
    Calls Tryz.prog 19 #[.pointer (some ⟨b, 0, none⟩)] w fun e w' => ∃ v, e = .returned v ∧ w'.ownsRow w.heap.size 3 1 v (toldR R ah 0 n).length ((toldR R ah 0 n).map (Value.int .i64)) ∧ Below w.heap.size w w' := by
  have c0 := hp_cell (j := 0) hC.hb rfl
  have HAL := Lib.hid (all_any b (some ⟨gc, 0, none⟩) n n w c0)
  have HT := Lib.hid (fun W (h : Below w.heap.size w W) => told_any base b gc n 0 n R va ah W (hC.low h) hn0 (Nat.le_refl _) hn ht)
  clear hC c0
  go_enter Tryz.func19, Tryz.ntmps19
  go_wp2_with fail
  refine HAL.out.mono ?_
  rintro e w1 ⟨rfl, hb1⟩
  have hb2 := below_new w1 (.cells #[.int .i64 0, .int .i64 (n : Int)] 39)
  have s2 := SpanBlk.new_ w1 0 (n : Int) 39
  obtain ⟨W2, hW2⟩ : ∃ W2, w1.alloc (.cells #[.int .i64 0, .int .i64 (n : Int)] 39) = W2 := ⟨_, rfl⟩
  rw [hW2] at hb2 s2
  obtain ⟨p0, p1, f0, f1⟩ := s2
  obtain ⟨bk, hbk⟩ : ∃ bk, w1.heap.size = bk := ⟨_, rfl⟩
  rw [hbk] at p0 p1
  have hbw2 := below_self hb1 hb2
  clear f0 f1 hb1 hb2
  go_wp2_with fail
  refine (prRight_any 0 (n : Int) W2).mono ?_
  rintro e w3 ⟨rfl, hb3⟩
  rw [show rightB ((0 : Int), (n : Int)) = true by unfold rightB; exact decide_eq_true (by omega)]
  have q0 := cell_below hb3 p0
  have q1 := cell_below hb3 p1
  have HB3 := Lib.hid (below_self hbw2 hb3)
  clear p0 p1 hb3 hbw2 hW2 hbk
  go_wp2_with fail
  go_region_held3 (fun w' => w'.cell? ⟨bk, 0, none⟩ = some (.int .i64 0) ∧ w'.cell? ⟨bk, 1, none⟩ = some (.int .i64 (n : Int)) ∧ Below w3.heap.size w3 w')
    (first
      | exact ⟨q0, q1, Below.refl _ _⟩
      | exact ⟨q0, q1, (Below.refl _ _).drew⟩
      | exact ⟨cell_below hz1 q0, cell_below hz1 q1, hz1⟩
      | fail)
    (first
      | (go_at_call 46; refine (HT.out _ (by first | exact below_self HB3.out (Below.refl _ _).drew | exact HB3.out)).mono ?_; rintro e' w4 ⟨v4, rfl, hown4, hb4⟩; have hz1 : Below w3.heap.size w3 w4 := (by first | exact below_self (Below.refl _ _).drew hb4 | exact hb4); have ho4 := (by first | exact own_base hown4 (Nat.le_trans HB3.out.size (Nat.le_refl w3.heap.size)) | exact own_base hown4 HB3.out.size : w4.ownsRow w.heap.size 3 1 v4 (toldR R ah 0 n).length ((toldR R ah 0 n).map (Value.int .i64))))
      | fail)
  have HO := Lib.hid ho4
  have HBF := Lib.hid (below_self HB3.out hz1)
  clear ho4 hown4 hz1 hb4 q0 q1
  go_wp2_with fail
  go_ret
  exact ⟨v4, rfl, HO.out, HBF.out⟩
end Go.Proofs.YtcbiaeeifclieaaGreatDoor
/- cells' Set out of range, At, Join, walked. -/
namespace Go.Proofs.YtcbiaeeifclieaaGreatDoor
open Go.RowKit

set_option maxRecDepth 100000 in
set_option maxHeartbeats 1000000 in
theorem set_out (base b gc n : Nat) (R : List RC) (va : Value) (ah : List Int) (i : Int) (A : Option Addr) (q c : Nat) (w : World) (hC : CellsAt w base b gc n R va ah) (hi : ¬ (0 ≤ i ∧ i < n)) :
    Calls Tryz.prog 32 #[.pointer (some ⟨b, 0, none⟩), .int .i64 i, .slice A q c] w fun e w' => e = .returned (.int .i64 1) ∧ Below w.heap.size w w' := by
  have H := Lib.hid (all_any b (some ⟨gc, 0, none⟩) n n w (hp_cell (j := 0) hC.hb rfl))
  clear hC
  go_enter Tryz.func32, Tryz.ntmps32
  go_wp2_with fail
  refine H.out.mono ?_
  rintro e w1 ⟨rfl, hb1⟩
  go_wp2_with fail
  refine (prHas_any 0 (n : Int) i w1).mono ?_
  rintro e w2 ⟨rfl, hb2⟩
  rw [show hasB ((0 : Int), (n : Int)) i = false from decide_eq_false hi]
  have hb3 := below_self hb1 hb2
  clear hi
  go_wp2_with fail
  go_ret
  exact ⟨rfl, hb3⟩
/-- What Join leaves. -/
def JoinAns (w w' : World) (base b gc n : Nat) (R : List RC) (va : Value) (ah : List Int) (lo hi : Int) (e : Ending) : Prop :=
  (¬ (0 ≤ lo ∧ lo < hi ∧ hi ≤ n) ∧ e = .returned (.int .i64 1) ∧ CellsAt w' base b gc n R va ah ∨
   (0 ≤ lo ∧ lo < hi ∧ hi ≤ n) ∧ e = .returned (.int .i64 0) ∧ ∃ r, R[lo.toNat]? = some r ∧ CellsAt w' base b gc n (R.set lo.toNat (r.1, max r.2.1 hi, r.2.2)) va ah) ∧
  (∀ B w0, B ≤ gc → B ≤ w.heap.size → Below B w0 w → Below B w0 w')
set_option maxRecDepth 100000 in
set_option maxHeartbeats 2000000 in
theorem join_cells (base b gc n : Nat) (R : List RC) (va : Value) (ah : List Int) (lo hi : Int) (w : World) (hC : CellsAt w base b gc n R va ah) (hn : n ≤ 100000000) :
    Calls Tryz.prog 65 #[.pointer (some ⟨b, 0, none⟩), .agg #[.int .i64 lo, .int .i64 hi]] w fun e w' => JoinAns w w' base b gc n R va ah lo hi e := by
  have hbn := below_new w (.cells #[.int .i64 lo, .int .i64 hi] 39)
  have s1 := SpanBlk.new_ w lo hi 39
  have h1 := hC.low hbn
  obtain ⟨W1, hW1⟩ : ∃ W1, w.alloc (.cells #[.int .i64 lo, .int .i64 hi] 39) = W1 := ⟨_, rfl⟩
  rw [hW1] at hbn s1 h1
  obtain ⟨d0, d1, f0, f1⟩ := s1
  simp only at d0 d1
  obtain ⟨bs, hbs⟩ : ∃ bs, w.heap.size = bs := ⟨_, rfl⟩
  rw [hbs] at d0 d1
  have HB := Lib.hid hbn
  have HC := Lib.hid h1
  have HA := Lib.hid (fun W (k : Below W1.heap.size W1 W) => all_any b (some ⟨gc, 0, none⟩) n n W (hp_cell (j := 0) (h1.low k).hb rfl))
  have HD := Lib.hid (And.intro d0 d1)
  have HSZ := Lib.hid hbs
  have hfd : ∀ w : World, (Instr.field 39 (.agg #[.int .i64 0, .int .i64 (n : Int)]) 1).run Tryz.prog w = .ok (.int .i64 (n : Int)) w := fun _ => by kernel_rfl
  clear hC h1 hbn f0 f1
  go_enter Tryz.func65, Tryz.ntmps65
  go_upto_region 1 with fail
  try simp only [hW1, hbs]
  go_cut [16] (fun s wx => s = .bool (!(rightB (lo, hi)) || decide ((n : Int) < hi)) ∧ Below W1.heap.size W1 wx)
  case first =>
    cases hrb : rightB (lo, hi) with
    | false =>
      first
        | (go_region_law (first
            | (go_simp; go_at_call 42; refine (prRight_any lo hi _).mono ?_; rintro e' w4 ⟨rfl, hb4⟩; rw [hrb]; have hz4 : Below W1.heap.size W1 w4 := (by first | exact below_self (Below.refl _ _).drew hb4 | exact hb4); have y0 := cell_below hz4 d0; have y1 := cell_below hz4 d1)
            | fail))
        | fail
      all_goals (
        have HZ := Lib.hid hz4
        clear hz4 hb4 y0 y1
        go_wp2_with fail
        rename_i hJ
        refine Met.intro (hJ _ _ ?_)
        (repeat apply Exists.intro)
        refine ⟨?_, rfl⟩)
      all_goals exact ⟨by simp [hrb], HZ.out⟩
    | true =>
      go_region_held3 (fun w' => w'.cell? ⟨bs, 0, none⟩ = some (.int .i64 lo) ∧ w'.cell? ⟨bs, 1, none⟩ = some (.int .i64 hi) ∧ Below W1.heap.size W1 w')
        (first
          | exact ⟨d0, d1, Below.refl _ _⟩
          | exact ⟨d0, d1, (Below.refl _ _).drew⟩
          | exact ⟨cell_below hz4 d0, cell_below hz4 d1, hz4⟩
          | exact ⟨cell_below hz5 d0, cell_below hz5 d1, hz5⟩
          | fail)
        (first
          | (go_at_call 42; refine (prRight_any lo hi _).mono ?_; rintro e' w4 ⟨rfl, hb4⟩; rw [hrb]; have hz4 : Below W1.heap.size W1 w4 := (by first | exact below_self (Below.refl _ _).drew hb4 | exact hb4))
          | (go_at_call 41; refine (HA.out _ hz4).mono ?_; rintro e' w5 ⟨rfl, hb5⟩; have hz5 : Below W1.heap.size W1 w5 := below_self hz4 hb5)
          | fail)
      have HZ := Lib.hid hz5
      clear hz4 hb4 hz5 hb5
      go_wp2_with fail
      go_meet
      case rel => exact ⟨by simp [hrb], HZ.out⟩
  case rest =>
    obtain ⟨rfl, hb⟩ := hcut
    clear hbs hW1 d0 d1
    have hd0 := cell_below hb HD.out.1
    have hd1 := cell_below hb HD.out.2
    have HC2 := Lib.hid (HC.out.low hb)
    have hbw := below_self HB.out hb
    have HBW := Lib.hid hbw
    clear hb hbw
    by_cases hgo : 0 ≤ lo ∧ lo < hi ∧ hi ≤ n
    · obtain ⟨l, rfl⟩ := Int.eq_ofNat_of_zero_le hgo.1
      obtain ⟨r, hri⟩ : ∃ r, R[l]? = some r := ⟨_, List.getElem?_eq_getElem (by rw [HC2.out.len]; omega)⟩
      rw [show (!(rightB ((l : Int), hi)) || decide ((n : Int) < hi)) = false by unfold rightB; simp; omega]
      have c0 := hp_cell (j := 0) HC2.out.hb rfl
      have c1 := (HC2.out.cell hri).2
      have f1 := hp_froz HC2.out.hc (l * 2 + 1)
      have HG := Lib.hid hgo
      have HRI := Lib.hid hri
      have hl1 : (l : Int) < (n : Int) := by omega
      have hl0 : (0 : Int) ≤ (l : Int) := by omega
      have HP := Lib.hid (show ∀ Q, CellsAt ((wc.drewN Q).setCell ⟨gc, l * 2 + 1, none⟩ (.int .i64 (max r.2.1 hi))) base b gc n (R.set l (r.1, max r.2.1 hi, r.2.2)) va ah from fun Q => (HC2.out.low (below_drew (Below.refl _ _) Q)).putE hri (max r.2.1 hi))
      have HBQ := Lib.hid (show ∀ Q B w0, B ≤ gc → B ≤ w.heap.size → Below B w0 w → Below B w0 ((wc.drewN Q).setCell ⟨gc, l * 2 + 1, none⟩ (.int .i64 (max r.2.1 hi))) from fun Q B w0 h1 h2 h => by
        have k := h.trans (HBW.out.mono h2)
        exact (show Below B w0 (wc.drewN Q) from ⟨k.os, k.tape, k.output, k.size, k.block⟩).setCell (p := ⟨gc, l * 2 + 1, none⟩) h1 _)
      clear hri
      go_wp2_with fail
      go_quiet (fail)
      go_wp2_with fail
      go_region
      clear c0 c1 f1 hd0 hd1
      go_wp2_with fail
      go_ret
      exact ⟨.inr ⟨HG.out, rfl, r, HRI.out, HP.out _⟩, HBQ.out _⟩
    · rw [show (!(rightB (lo, hi)) || decide ((n : Int) < hi)) = true by unfold rightB; simp; omega]
      have HG := Lib.hid hgo
      clear hgo
      go_wp2_with fail
      go_ret
      exact ⟨.inl ⟨HG.out, rfl, HC2.out⟩, fun B w0 h1 h2 h => h.trans (HBW.out.mono h2)⟩
end Go.Proofs.YtcbiaeeifclieaaGreatDoor
/- cells' Join, walked: which blocks it writes. -/
namespace Go.Proofs.YtcbiaeeifclieaaGreatDoor
open Go.RowKit

/-- What Join leaves: all but the block of the cells. -/
def JoinKept (w w' : World) (base b gc n : Nat) (R : List RC) (va : Value) (ah : List Int) (lo hi : Int) (e : Ending) : Prop :=
  (¬ (0 ≤ lo ∧ lo < hi ∧ hi ≤ n) ∧ e = .returned (.int .i64 1) ∧ CellsAt w' base b gc n R va ah ∨
   (0 ≤ lo ∧ lo < hi ∧ hi ≤ n) ∧ e = .returned (.int .i64 0) ∧ ∃ r, R[lo.toNat]? = some r ∧ CellsAt w' base b gc n (R.set lo.toNat (r.1, max r.2.1 hi, r.2.2)) va ah) ∧
  Kept w w' [b, gc]
set_option maxRecDepth 100000 in
set_option maxHeartbeats 2000000 in
theorem join_keeps (base b gc n : Nat) (R : List RC) (va : Value) (ah : List Int) (lo hi : Int) (w : World) (hC : CellsAt w base b gc n R va ah) (hn : n ≤ 100000000) :
    Calls Tryz.prog 65 #[.pointer (some ⟨b, 0, none⟩), .agg #[.int .i64 lo, .int .i64 hi]] w fun e w' => JoinKept w w' base b gc n R va ah lo hi e := by
  have hbn := below_new w (.cells #[.int .i64 lo, .int .i64 hi] 39)
  have s1 := SpanBlk.new_ w lo hi 39
  have h1 := hC.low hbn
  obtain ⟨W1, hW1⟩ : ∃ W1, w.alloc (.cells #[.int .i64 lo, .int .i64 hi] 39) = W1 := ⟨_, rfl⟩
  rw [hW1] at hbn s1 h1
  obtain ⟨d0, d1, f0, f1⟩ := s1
  simp only at d0 d1
  obtain ⟨bs, hbs⟩ : ∃ bs, w.heap.size = bs := ⟨_, rfl⟩
  rw [hbs] at d0 d1
  have HB := Lib.hid hbn
  have HC := Lib.hid h1
  have HA := Lib.hid (fun W (k : Below W1.heap.size W1 W) => all_any b (some ⟨gc, 0, none⟩) n n W (hp_cell (j := 0) (h1.low k).hb rfl))
  have HD := Lib.hid (And.intro d0 d1)
  have HSZ := Lib.hid hbs
  have hfd : ∀ w : World, (Instr.field 39 (.agg #[.int .i64 0, .int .i64 (n : Int)]) 1).run Tryz.prog w = .ok (.int .i64 (n : Int)) w := fun _ => by kernel_rfl
  clear hC h1 hbn f0 f1
  go_enter Tryz.func65, Tryz.ntmps65
  go_upto_region 1 with fail
  try simp only [hW1, hbs]
  go_cut [16] (fun s wx => s = .bool (!(rightB (lo, hi)) || decide ((n : Int) < hi)) ∧ Below W1.heap.size W1 wx)
  case first =>
    cases hrb : rightB (lo, hi) with
    | false =>
      first
        | (go_region_law (first
            | (go_simp; go_at_call 42; refine (prRight_any lo hi _).mono ?_; rintro e' w4 ⟨rfl, hb4⟩; rw [hrb]; have hz4 : Below W1.heap.size W1 w4 := (by first | exact below_self (Below.refl _ _).drew hb4 | exact hb4); have y0 := cell_below hz4 d0; have y1 := cell_below hz4 d1)
            | fail))
        | fail
      all_goals (
        have HZ := Lib.hid hz4
        clear hz4 hb4 y0 y1
        go_wp2_with fail
        rename_i hJ
        refine Met.intro (hJ _ _ ?_)
        (repeat apply Exists.intro)
        refine ⟨?_, rfl⟩)
      all_goals exact ⟨by simp [hrb], HZ.out⟩
    | true =>
      go_region_held3 (fun w' => w'.cell? ⟨bs, 0, none⟩ = some (.int .i64 lo) ∧ w'.cell? ⟨bs, 1, none⟩ = some (.int .i64 hi) ∧ Below W1.heap.size W1 w')
        (first
          | exact ⟨d0, d1, Below.refl _ _⟩
          | exact ⟨d0, d1, (Below.refl _ _).drew⟩
          | exact ⟨cell_below hz4 d0, cell_below hz4 d1, hz4⟩
          | exact ⟨cell_below hz5 d0, cell_below hz5 d1, hz5⟩
          | fail)
        (first
          | (go_at_call 42; refine (prRight_any lo hi _).mono ?_; rintro e' w4 ⟨rfl, hb4⟩; rw [hrb]; have hz4 : Below W1.heap.size W1 w4 := (by first | exact below_self (Below.refl _ _).drew hb4 | exact hb4))
          | (go_at_call 41; refine (HA.out _ hz4).mono ?_; rintro e' w5 ⟨rfl, hb5⟩; have hz5 : Below W1.heap.size W1 w5 := below_self hz4 hb5)
          | fail)
      have HZ := Lib.hid hz5
      clear hz4 hb4 hz5 hb5
      go_wp2_with fail
      go_meet
      case rel => exact ⟨by simp [hrb], HZ.out⟩
  case rest =>
    obtain ⟨rfl, hb⟩ := hcut
    clear hbs hW1 d0 d1
    have hd0 := cell_below hb HD.out.1
    have hd1 := cell_below hb HD.out.2
    have HC2 := Lib.hid (HC.out.low hb)
    have hbw := below_self HB.out hb
    have HBW := Lib.hid hbw
    clear hb hbw
    by_cases hgo : 0 ≤ lo ∧ lo < hi ∧ hi ≤ n
    · obtain ⟨l, rfl⟩ := Int.eq_ofNat_of_zero_le hgo.1
      obtain ⟨r, hri⟩ : ∃ r, R[l]? = some r := ⟨_, List.getElem?_eq_getElem (by rw [HC2.out.len]; omega)⟩
      rw [show (!(rightB ((l : Int), hi)) || decide ((n : Int) < hi)) = false by unfold rightB; simp; omega]
      have c0 := hp_cell (j := 0) HC2.out.hb rfl
      have c1 := (HC2.out.cell hri).2
      have f1 := hp_froz HC2.out.hc (l * 2 + 1)
      have HG := Lib.hid hgo
      have HRI := Lib.hid hri
      have hl1 : (l : Int) < (n : Int) := by omega
      have hl0 : (0 : Int) ≤ (l : Int) := by omega
      have HP := Lib.hid (show ∀ Q, CellsAt ((wc.drewN Q).setCell ⟨gc, l * 2 + 1, none⟩ (.int .i64 (max r.2.1 hi))) base b gc n (R.set l (r.1, max r.2.1 hi, r.2.2)) va ah from fun Q => (HC2.out.low (below_drew (Below.refl _ _) Q)).putE hri (max r.2.1 hi))
      have HBQ := Lib.hid (show ∀ Q, Kept w ((wc.drewN Q).setCell ⟨gc, l * 2 + 1, none⟩ (.int .i64 (max r.2.1 hi))) [b, gc] from fun Q => (Kept.of_below (below_drew HBW.out Q) _).set (.inl (by simp)) _ _)
      clear hri
      go_wp2_with fail
      go_quiet (fail)
      go_wp2_with fail
      go_region
      clear c0 c1 f1 hd0 hd1
      go_wp2_with fail
      go_ret
      exact ⟨.inr ⟨HG.out, rfl, r, HRI.out, HP.out _⟩, HBQ.out _⟩
    · rw [show (!(rightB (lo, hi)) || decide ((n : Int) < hi)) = true by unfold rightB; simp; omega]
      have HG := Lib.hid hgo
      clear hgo
      go_wp2_with fail
      go_ret
      exact ⟨.inl ⟨HG.out, rfl, HC2.out⟩, Kept.of_below HBW.out _⟩
end Go.Proofs.YtcbiaeeifclieaaGreatDoor
/- cells' New, set, Set, walked. -/
namespace Go.Proofs.YtcbiaeeifclieaaGreatDoor
open Go.RowKit

/-- A cell that has nothing. -/
def zRC : RC := (.slice none 0 0, 0, [])
theorem zcells_at (n : Nat) {j : Nat} (h : j < n * 2) : (cellsRC (List.replicate n zRC))[j]? = some (if j % 2 = 0 then .slice none 0 0 else .int .i64 0) := by
  have hr : (List.replicate n zRC)[j / 2]? = some zRC := by rw [List.getElem?_replicate, if_pos (by omega)]
  obtain ⟨h1, h2⟩ := cellsRC_at hr
  rcases Nat.mod_two_eq_zero_or_one j with e | e
  · rw [show j / 2 * 2 = j by omega] at h1
    rw [h1, if_pos e]; rfl
  · rw [show j / 2 * 2 + 1 = j by omega] at h2
    rw [h2, if_neg (by omega)]; rfl
theorem mk_cells (n : Nat) (hn : n ≤ 16777216) (w : World) : (Instr.makeSlice 90 (.int .i64 (n : Int)) (.int .i64 (n : Int))).run Tryz.prog w = .ok (.slice (some ⟨w.heap.size, 0, none⟩) n n) (w.alloc (.cells (cellsRC (List.replicate n zRC)).toArray 139)) := by
  have hin : (Tryz.prog.info? 139).map (fun i => (i.zero, i.size, i.bytes)) = some (some (.agg #[.slice none 0 0, .int .i64 0]), 2, 32) := by kernel_rfl
  obtain ⟨i, h1, h2, h3, h4⟩ := info_parts hin
  have h := run_make (P := Tryz.prog) w 90 139 i (.agg #[.slice none 0 0, .int .i64 0]) Tryz.underlying90 h1 h2 .i64 .i64 n n (by omega) (Int.le_refl _) (by rw [h4]; omega) (by omega)
  rw [h3] at h
  simp only [Int.toNat_natCast] at h
  rw [h]
  refine congrArg (fun c => Result.ok _ (w.alloc (.cells c _))) ?_
  apply Array.toList_inj.1
  rw [show (Value.agg #[.slice none 0 0, .int .i64 0]).cells = #[.slice none 0 0, .int .i64 0] from rfl]
  apply List.ext_getElem?
  intro j
  by_cases hj : j < n * 2
  · rw [show (cellsRC (List.replicate n zRC)).toArray.toList = cellsRC (List.replicate n zRC) from rfl, zcells_at n hj]
    unfold madeCells
    simp only [Array.toList_map, Array.toList_range, List.getElem?_map, List.getElem?_range hj, Option.map_some]
    rcases Nat.mod_two_eq_zero_or_one j with e | e
    · simp [e]
    · simp [e]
  · rw [List.getElem?_eq_none (by simp [madeCells]; omega), List.getElem?_eq_none (by simp [cellsRC_len]; omega)]
theorem zrows (w : World) (base n : Nat) : ∀ (i : Nat) (r : RC), (List.replicate n zRC)[i]? = some r → w.ownsRow base 3 1 r.1 r.2.2.length (r.2.2.map (Value.int .i64)) := fun i r h => by
  rw [List.getElem?_replicate] at h
  split at h
  · obtain rfl := Option.some.inj h
    exact ⟨rfl, .inl ⟨rfl, rfl⟩⟩
  · cases h
theorem znone (n : Nat) : ∀ (i : Nat) (r : RC), (List.replicate n zRC)[i]? = some r → r.1.ownBlock = none := fun i r h => by
  rw [List.getElem?_replicate] at h
  split at h
  · obtain rfl := Option.some.inj h
    rfl
  · cases h
/-- What New answers. -/
def NewAns (w w' : World) (n : Int) (e : Ending) : Prop :=
  ((n < 0 ∨ 16777216 < n) ∧ e = .returned (.tuple #[.pointer none, .int .i64 1])) ∨
  (∃ (m b gc base : Nat), n = (m : Int) ∧ m ≤ 16777216 ∧ e = .returned (.tuple #[.pointer (some ⟨b, 0, none⟩), .int .i64 0]) ∧ CellsAt w' base b gc m (List.replicate m zRC) (.slice none 0 0) [] ∧ w.heap.size ≤ b ∧ w.heap.size ≤ gc)
set_option maxRecDepth 100000 in
set_option maxHeartbeats 1000000 in
theorem new_any (n : Int) (w : World) : Calls Tryz.prog 31 #[.int .i64 n] w fun e w' => NewAns w w' n e ∧ Below w.heap.size w w' := by
  have hb0 := Below.refl w.heap.size w
  have hc : n < 0 ∨ (0 ≤ n ∧ 16777216 < n) ∨ (∃ m : Nat, n = (m : Int) ∧ m ≤ 16777216) := by
    by_cases h1 : n < 0
    · exact .inl h1
    · by_cases h2 : 16777216 < n
      · exact .inr (.inl ⟨by omega, h2⟩)
      · exact .inr (.inr ⟨n.toNat, by omega, by omega⟩)
  rcases hc with h1 | ⟨h1, h2⟩ | ⟨m, rfl, hm⟩
  · go_enter Tryz.func31, Tryz.ntmps31
    go_wp2_with fail
    exact bodyPost_ret (v := .tuple #[.pointer none, .int .i64 1]) (by simp [results, go_sem]) rfl ⟨.inl ⟨.inl h1, rfl⟩, hb0⟩
  · go_enter Tryz.func31, Tryz.ntmps31
    go_wp2_with fail
    exact bodyPost_ret (v := .tuple #[.pointer none, .int .i64 1]) (by simp [results, go_sem]) rfl ⟨.inl ⟨.inr h2, rfl⟩, hb0⟩
  · have hmk := mk_cells m hm
    have hmi : (m : Int) ≤ 16777216 := by omega
    have hm0 : (0 : Int) ≤ (m : Int) := by omega
    have HB := Lib.hid (below_self (below_new w (.cells (cellsRC (List.replicate m zRC)).toArray 139)) (below_new (w.alloc (.cells (cellsRC (List.replicate m zRC)).toArray 139)) (.cells #[.slice (some ⟨w.heap.size, 0, none⟩) m m, .slice none 0 0] 94)))
    have HC := Lib.hid (show CellsAt ((w.alloc (.cells (cellsRC (List.replicate m zRC)).toArray 139)).alloc (.cells #[.slice (some ⟨w.heap.size, 0, none⟩) m m, .slice none 0 0] 94)) (w.heap.size + 2) (w.heap.size + 1) w.heap.size m (List.replicate m zRC) (.slice none 0 0) [] from
      ⟨by have h := heap_alloc_new (w.alloc (.cells (cellsRC (List.replicate m zRC)).toArray 139)) (.cells #[.slice (some ⟨w.heap.size, 0, none⟩) m m, .slice none 0 0] 94); simpa using h,
       by rw [heap_alloc_old (h := by simp)]; exact heap_alloc_new w _, by simp, zrows _ _ m, ⟨rfl, .inl ⟨rfl, rfl⟩⟩, fun i j r s _ h _ => .inl (znone m i r h), fun i r h => .inl (znone m i r h), ⟨by omega, by omega, by omega, by simp⟩⟩)
    clear hb0
    go_enter Tryz.func31, Tryz.ntmps31
    go_wp2_with fail
    exact bodyPost_ret (v := .tuple #[.pointer (some ⟨w.heap.size + 1, 0, none⟩), .int .i64 0]) (by simp [results, go_sem]) rfl ⟨.inr ⟨m, w.heap.size + 1, w.heap.size, w.heap.size + 2, rfl, hm, rfl, HC.out, by omega, by omega⟩, HB.out⟩
end Go.Proofs.YtcbiaeeifclieaaGreatDoor
/- Cells as they stand, without what their rows are called: set, joined. -/
namespace Go.Proofs.YtcbiaeeifclieaaGreatDoor
open Go.RowKit

theorem CellsAt.keep {w w' : World} {base b gc n : Nat} {R : List RC} {va : Value} {ah : List Int} {S : List Nat} (h : CellsAt w base b gc n R va ah) (hk : Kept w w' S) (hs : ∀ x ∈ S, x < base ∧ x ≠ b ∧ x ≠ gc) : CellsAt w' base b gc n R va ah :=
  ⟨hk.heap h.hb (fun hm => (hs b hm).2.1 rfl), hk.heap h.hc (fun hm => (hs gc hm).2.2 rfl), h.len, fun i r hi => own_kept (h.rows i r hi) hk (fun x hx => (hs x hx).1), own_kept h.arow hk (fun x hx => (hs x hx).1), h.ne, h.nea, ⟨h.far.1, h.far.2.1, h.far.2.2.1, Nat.le_trans h.far.2.2.2 hk.size⟩⟩
/-- The cells in block b have these ends and codes. -/
def SAt (w : World) (base b gc n : Nat) (S : St) : Prop := ∃ R, CellsAt w base b gc n R (.slice none 0 0) [] ∧ R.map Prod.snd = S
theorem SAt.keep {w w' : World} {base b gc n : Nat} {S : St} {L : List Nat} (h : SAt w base b gc n S) (hk : Kept w w' L) (hs : ∀ x ∈ L, x < base ∧ x ≠ b ∧ x ≠ gc) : SAt w' base b gc n S := by
  obtain ⟨R, h1, h2⟩ := h
  exact ⟨R, h1.keep hk hs, h2⟩
theorem SAt.low {w w' : World} {base b gc n : Nat} {S : St} (h : SAt w base b gc n S) (hb : Below w.heap.size w w') : SAt w' base b gc n S := h.keep (Kept.of_below hb []) (by simp)
theorem SAt.len {w : World} {base b gc n : Nat} {S : St} (h : SAt w base b gc n S) : S.length = n := by
  obtain ⟨R, h1, rfl⟩ := h
  rw [List.length_map, h1.len]
theorem SAt.lt {w : World} {base b gc n : Nat} {S : St} (h : SAt w base b gc n S) : b < base ∧ gc < base ∧ b ≠ gc ∧ base ≤ w.heap.size := by
  obtain ⟨R, h1, rfl⟩ := h
  exact h1.far
theorem getD_map {R : List RC} {i : Nat} {r : RC} (h : R[i]? = some r) : (R.map Prod.snd).getD i (0, []) = r.2 := by
  rw [List.getD_eq_getElem?_getD, List.getElem?_map, h]; rfl
theorem SAt.set (base b gc n i : Nat) (S : St) (codes : List Int) (A : Option Addr) (q c : Nat) (w : World) (hC : SAt w base b gc n S) (hi : i < n) (hr : Rd w 1 A q (codes.map (Value.int .i64))) (hq : q ≤ 16777216) (hn : n ≤ 100000000) :
    Calls Tryz.prog 32 #[.pointer (some ⟨b, 0, none⟩), .int .i64 (i : Int), .slice A q c] w fun e w' => e = .returned (.int .i64 0) ∧ SAt w' base b gc n (sSet S i codes) ∧ Kept w w' [b, gc] := by
  obtain ⟨R, h1, rfl⟩ := hC
  refine (set_keeps base b gc n i R _ [] codes A q c w h1 hi hr hq hn).mono ?_
  rintro e w' ⟨rfl, ⟨v, r, hri, hC', _⟩, hk⟩
  have hC2 : CellsAt w' base b gc n (R.set i (v, r.2.1, codes)) (.slice none 0 0) [] := by
    simpa using hC'
  refine ⟨rfl, ⟨_, hC2, ?_⟩, hk⟩
  unfold sSet
  rw [getD_map hri, List.map_set]
theorem SAt.join (base b gc n lo hi : Nat) (S : St) (w : World) (hC : SAt w base b gc n S) (h1 : lo < hi) (h2 : hi ≤ n) (hn : n ≤ 100000000) :
    Calls Tryz.prog 65 #[.pointer (some ⟨b, 0, none⟩), .agg #[.int .i64 (lo : Int), .int .i64 (hi : Int)]] w fun e w' => e = .returned (.int .i64 0) ∧ SAt w' base b gc n (sJoin S lo hi) ∧ Kept w w' [b, gc] := by
  obtain ⟨R, hR, rfl⟩ := hC
  refine (join_keeps base b gc n R _ [] lo hi w hR hn).mono ?_
  rintro e w' ⟨h | ⟨_, rfl, r, hri, hC'⟩, hk⟩
  · exact absurd ⟨by omega, by omega, by omega⟩ h.1
  · rw [Int.toNat_natCast] at hri hC'
    refine ⟨rfl, ⟨_, hC', ?_⟩, hk⟩
    unfold sJoin
    rw [getD_map hri, List.map_set]
theorem SAt.new_ (n : Nat) (hn : n ≤ 16777216) (w : World) :
    Calls Tryz.prog 31 #[.int .i64 (n : Int)] w fun e w' => (∃ b gc base, e = .returned (.tuple #[.pointer (some ⟨b, 0, none⟩), .int .i64 0]) ∧ SAt w' base b gc n (List.replicate n (0, [])) ∧ w.heap.size ≤ b ∧ w.heap.size ≤ gc) ∧ Below w.heap.size w w' := by
  refine (new_any (n : Int) w).mono ?_
  rintro e w' ⟨h | ⟨m, b, gc, base, hm, _, rfl, hC, h1, h2⟩, hb⟩
  · exact absurd h.1 (by omega)
  · obtain rfl : n = m := by omega
    exact ⟨⟨b, gc, base, rfl, ⟨_, hC, by simp [zRC]⟩, h1, h2⟩, hb⟩
/-- The cells behind k calls of Set. -/
def stTo (f : Int → List Int) (xs : List Int) (k n : Nat) : St := (xs.take k).map (fun c => (0, f c)) ++ List.replicate (n - k) (0, [])
theorem stTo_zero (f : Int → List Int) (xs : List Int) (n : Nat) : stTo f xs 0 n = List.replicate n (0, []) := by simp [stTo]
theorem stTo_end {f : Int → List Int} {xs : List Int} {n : Nat} (h : xs.length = n) : stTo f xs n n = stOf f xs := by
  subst h
  simp [stTo, stOf]
theorem stTo_step {f : Int → List Int} {xs : List Int} {k n : Nat} {x : Int} (h : xs[k]? = some x) (hk : k < n) : sSet (stTo f xs k n) k (f x) = stTo f xs (k + 1) n := by
  have hl : k < xs.length := (List.getElem?_eq_some_iff.1 h).1
  have hlen : ((xs.take k).map (fun c => ((0 : Int), f c))).length = k := by simp; omega
  have hrep : List.replicate (n - k) ((0 : Int), ([] : List Int)) = (0, []) :: List.replicate (n - (k + 1)) (0, []) := by
    rw [show n - k = (n - (k + 1)) + 1 by omega]; rfl
  have hg : (stTo f xs k n).getD k (0, []) = (0, []) := by
    unfold stTo
    rw [List.getD_eq_getElem?_getD, List.getElem?_append_right (by omega), hlen, Nat.sub_self, hrep]; rfl
  unfold sSet
  rw [hg]
  unfold stTo
  rw [List.set_append_right _ _ (by omega), hlen, Nat.sub_self, hrep, List.set_cons_zero, List.take_add_one, h]
  simp
end Go.Proofs.YtcbiaeeifclieaaGreatDoor
/- What links of cells are: they fit, and each code lies in one. -/
namespace Go.Proofs.YtcbiaeeifclieaaGreatDoor
open Go.RowKit

def totR (R : List RC) (ah : List Int) (e : Nat) : Nat := if e = 0 then 0 else cntR R ah 0 e
theorem lenR_app (R S : List RC) : lenR (R ++ S) = lenR R + lenR S := by simp [lenR]
theorem lenR_part (R : List RC) {a b : Nat} (h : a ≤ b) : lenR (R.take a) + lenR (partR R a b) = lenR (R.take b) := by
  unfold partR
  rw [← lenR_app]
  congr 1
  obtain ⟨k, rfl⟩ : ∃ k, b = a + k := ⟨b - a, by omega⟩
  rw [List.take_add, Nat.add_sub_cancel_left]
theorem totR_pos {R : List RC} {ah : List Int} {e : Nat} (h : 0 < e) : totR R ah e = ah.length + lenR (R.take e) := by
  unfold totR cntR partR
  rw [if_neg (by omega), if_pos rfl, List.drop_zero, Nat.sub_zero]
theorem totR_step {R : List RC} {ah : List Int} {a b : Nat} (h : a < b) : totR R ah a + cntR R ah a b = totR R ah b := by
  have hb := totR_pos (R := R) (ah := ah) (show 0 < b by omega)
  have hl := lenR_part R (show a ≤ b by omega)
  by_cases h0 : a = 0
  · subst h0
    simp only [totR, cntR, if_true] at *
    rw [if_neg (by omega)]
    omega
  · have ha := totR_pos (R := R) (ah := ah) (show 0 < a by omega)
    rw [ha, hb, ← hl]
    unfold cntR
    rw [if_neg h0]
    omega
theorem right_iff (a b : Int) : rightB (a, b) = true ↔ 0 ≤ a ∧ a < b := by simp [rightB]
/-- What the links so far owe. -/
structure LkOk (n : Int) (l : List Cl) (m : Nat) : Prop where
  fit : ∀ x ∈ l, fitC n (m : Int) x = true
  cov : CovP (m : Int) l
theorem fitC_more {n m m' : Int} {x : Cl} (h : fitC n m x = true) (hm : m ≤ m') : fitC n m' x = true := by
  unfold fitC at *
  simp only [Bool.and_eq_true, decide_eq_true_eq] at *
  exact ⟨h.1, h.2.1, by omega⟩
theorem LkOk.step {n : Nat} {l : List Cl} {m a b : Nat} {R : List RC} {ah : List Int} (h : LkOk n l m) (hab : a < b) (hb : b ≤ n) : LkOk n (lkStep R ah (l, m) ((a : Int), (b : Int))).1 (lkStep R ah (l, m) ((a : Int), (b : Int))).2 := by
  unfold lkStep
  simp only [Int.toNat_natCast]
  obtain ⟨c, hc⟩ : ∃ c, cntR R ah a b = c := ⟨_, rfl⟩
  rw [hc]
  by_cases h0 : 0 < c
  · rw [if_pos h0]
    refine ⟨fun x hx => ?_, fun j j0 j1 => ?_⟩
    · rcases List.mem_append.1 hx with hx | hx
      · exact fitC_more (h.fit x hx) (by omega)
      · rw [List.mem_singleton] at hx
        subst hx
        unfold fitC
        simp only [Bool.and_eq_true, decide_eq_true_eq, right_iff]
        omega
    · by_cases hj : j < (m : Int)
      · obtain ⟨s, hs, k⟩ := h.cov j j0 hj
        exact ⟨s, by rw [List.map_append]; exact List.mem_append_left _ hs, k⟩
      · exact ⟨((m : Int), (m : Int) + (c : Nat)), by simp, by simp only; omega, by simp only; omega⟩
  · rw [if_neg h0]
    have : c = 0 := by omega
    subst this
    exact h
theorem links_go {n : Nat} {R : List RC} {ah : List Int} : ∀ (G : List Sp) (e : Nat) (acc : List Cl × Nat), partsFrom (e : Int) G (n : Int) = true → acc.2 = totR R ah e → LkOk n acc.1 acc.2 →
    (G.foldl (lkStep R ah) acc).2 = totR R ah n ∧ LkOk n (G.foldl (lkStep R ah) acc).1 (G.foldl (lkStep R ah) acc).2
  | [], e, acc, hp, ha, hk => by
    have h0 : (e : Int) = (n : Int) := by simpa [partsFrom] using hp
    have : e = n := by omega
    subst this
    exact ⟨ha, hk⟩
  | g :: G, e, acc, hp, ha, hk => by
    cases hr : rightB g with
    | false => rw [partsFrom_no (.inl hr)] at hp; cases hp
    | true =>
      cases hq : (g.1 == (e : Int)) with
      | false => rw [partsFrom_no (.inr hq)] at hp; cases hp
      | true =>
        obtain ⟨a, b, rfl, hab, hbn⟩ := parts_mem (Int.natCast_nonneg e) hp g (List.mem_cons_self ..)
        rw [partsFrom_yes hr hq] at hp
        have hae : a = e := by have h0 : (a : Int) = (e : Int) := by simpa using hq
                               omega
        subst hae
        have hst := hk.step (R := R) (ah := ah) hab (show b ≤ n by omega)
        refine links_go G b (lkStep R ah acc ((a : Int), (b : Int))) hp ?_ hst
        show acc.2 + cntR R ah a b = _
        rw [ha, totR_step hab]
theorem linksR_ok {n : Nat} (R : List RC) (ah : List Int) (h0 : 0 < n) : LkOk n (linksR n R ah) (cntR R ah 0 n) := by
  have h := links_go (n := n) (R := R) (ah := ah) (groupsS (n : Int) (joinedTo R n)) 0 ([], 0) (groups_whole (joinedTo R n) (Int.natCast_nonneg n)) (by simp [totR]) ⟨fun x hx => by simp at hx, fun j j0 j1 => by omega⟩
  have ht : totR R ah n = cntR R ah 0 n := if_neg (by omega)
  have h2 : (linksTo R ah (groupsS (n : Int) (joinedTo R n))).2 = cntR R ah 0 n := h.1.trans ht
  have h3 : LkOk n (linksTo R ah (groupsS (n : Int) (joinedTo R n))).1 (linksTo R ah (groupsS (n : Int) (joinedTo R n))).2 := h.2
  rw [h2] at h3
  exact h3
/-- What Clusters finds: nothing where there is no code, else the finest map. -/
theorem linksR_fit {n : Nat} (R : List RC) (ah : List Int) (h0 : 0 < n) (hn : n ≤ 16777216) (hm : cntR R ah 0 n ≤ 16777216) : fitB (n : Int) (cntR R ah 0 n : Nat) (linksR n R ah) = true := by
  unfold fitB
  rw [Bool.and_eq_true]
  refine ⟨by simp [fitN]; omega, List.all_eq_true.2 (linksR_ok R ah h0).fit⟩
theorem linksR_err {n : Nat} (R : List RC) (ah : List Int) (h0 : 0 < n) (hn : n ≤ 16777216) (hm : cntR R ah 0 n ≤ 16777216) : finE (n : Int) (cntR R ah 0 n : Nat) (linksR n R ah) = if cntR R ah 0 n = 0 then 8 else 0 := by
  unfold finE
  rw [linksR_fit R ah h0 hn hm, if_neg (by simp)]
  by_cases h : cntR R ah 0 n = 0
  · rw [if_pos ⟨by omega, by omega⟩, if_pos h]
  · rw [if_neg (by omega), if_neg (by omega), if_pos (linksR_ok R ah h0).cov, if_neg h]
end Go.Proofs.YtcbiaeeifclieaaGreatDoor
/- What the cells of both have alike. -/
namespace Go.Proofs.YtcbiaeeifclieaaGreatDoor
open Go.RowKit

/-- List i of the reference is what cell i has. -/
def RelL (R : List RC) (ah : List Int) (L : List (List Int)) : Prop := L.length = R.length ∧ ∀ (i : Nat) (r : RC), R[i]? = some r → L[i]? = some ((if i = 0 then ah.reverse else []) ++ r.2.2)
section
variable {R : List RC} {ah : List Int} {L : List (List Int)}
theorem RelL.new_ (n : Nat) (r : RC) (hr : r.2.2 = []) : RelL (List.replicate n r) [] (List.replicate n []) :=
  ⟨by simp, fun i s hs => by
    rw [List.getElem?_replicate] at hs ⊢
    split at hs
    · rename_i h
      obtain rfl := Option.some.inj hs
      rw [if_pos h, hr]
      simp
    · cases hs⟩
theorem RelL.set (h : RelL R ah L) {i : Nat} {r : RC} (hr : R[i]? = some r) (x : RC) {ah' l l' : List Int} (hl : l' = (if i = 0 then ah'.reverse else []) ++ x.2.2) (ha : i ≠ 0 → ah' = ah) : RelL (R.set i x) ah' (L.set i l') := by
  have hil := (List.getElem?_eq_some_iff.1 hr).1
  refine ⟨by rw [List.length_set, List.length_set]; exact h.1, fun j s hs => ?_⟩
  by_cases e : i = j
  · subst e
    rw [List.getElem?_set_self hil] at hs
    obtain rfl := Option.some.inj hs
    rw [List.getElem?_set_self (by rw [h.1]; exact hil), hl]
  · rw [List.getElem?_set_ne e] at hs ⊢
    rw [h.2 j s hs]
    by_cases hj : j = 0
    · subst hj
      rw [ha e]
    · rw [if_neg hj, if_neg hj]
theorem partR_one {i : Nat} {r : RC} (hr : R[i]? = some r) : partR R i (i + 1) = [r] := by
  unfold partR
  rw [dropCons hr, Nat.add_sub_cancel_left]
  rfl
theorem RelL.told (h : RelL R ah L) {i : Nat} {l : List Int} (hl : L[i]? = some l) : l = toldR R ah i (i + 1) ∧ l.length = cntR R ah i (i + 1) := by
  have hil := (List.getElem?_eq_some_iff.1 hl).1
  obtain ⟨r, hr⟩ : ∃ r, R[i]? = some r := ⟨_, List.getElem?_eq_getElem (by rw [← h.1]; exact hil)⟩
  have h1 := h.2 i r hr
  rw [hl] at h1
  obtain rfl := Option.some.inj h1
  have h2 : (if i = 0 then ah.reverse else []) ++ r.2.2 = toldR R ah i (i + 1) := by
    unfold toldR
    rw [partR_one hr]
    simp [codesR]
  exact ⟨h2, by rw [h2, toldR_len]⟩
theorem RelL.flat (h : RelL R ah L) (hn : 0 < R.length) : L.flatten = toldR R ah 0 R.length := by
  have key : ∀ k, k + 1 ≤ R.length → (L.take (k + 1)).flatten = toldR R ah 0 (k + 1) := fun k => by
    induction k with
    | zero =>
      intro hk
      obtain ⟨l, hl⟩ : ∃ l, L[0]? = some l := ⟨_, List.getElem?_eq_getElem (by rw [h.1]; omega)⟩
      rw [flat_take hl, (h.told hl).1]
      simp
    | succ k ih =>
      intro hk
      obtain ⟨l, hl⟩ : ∃ l, L[k + 1]? = some l := ⟨_, List.getElem?_eq_getElem (by rw [h.1]; omega)⟩
      obtain ⟨r, hr⟩ : ∃ r, R[k + 1]? = some r := ⟨_, List.getElem?_eq_getElem (by omega)⟩
      rw [flat_take hl, ih (by omega), (h.told hl).1]
      unfold toldR
      rw [if_pos rfl, if_neg (by omega), partR_one hr, List.nil_append, List.append_assoc]
      congr 1
      unfold partR
      rw [List.drop_zero, Nat.sub_zero, Nat.sub_zero, codesR_take hr]
      simp [codesR]
  obtain ⟨k, hk⟩ : ∃ k, R.length = k + 1 := ⟨R.length - 1, by omega⟩
  have := key k (by omega)
  rw [← hk] at this
  rw [← this, List.take_of_length_le (by rw [h.1]; exact Nat.le_refl _)]
theorem RelL.none (h : RelL R ah L) (hn : R.length = 0) : L = [] := List.eq_nil_of_length_eq_zero (by rw [h.1, hn])
theorem RelL.small (h : RelL R ah L) : L.flatten.length ≤ ah.length + lenR R := by
  rcases Nat.eq_zero_or_pos R.length with h0 | h0
  · rw [h.none h0]; simp
  · rw [h.flat h0, toldR_len]
    exact cntR_le R ah 0 R.length
end
end Go.Proofs.YtcbiaeeifclieaaGreatDoor
/- The reference's cells: Clusters. -/
namespace Go.Proofs.YtcbiaeeifclieaaGreatDoor
open Go.RowKit

/-- How many codes the cells from a on have, ahead of j. -/
def sumTo (R : List RC) (ah : List Int) (a j : Nat) : Nat := if j = a then 0 else cntR R ah a j
theorem sumTo_step {R : List RC} {ah : List Int} {a j : Nat} (h : a ≤ j) : sumTo R ah a j + cntR R ah j (j + 1) = sumTo R ah a (j + 1) := by
  unfold sumTo
  rw [if_neg (show ¬ j + 1 = a by omega)]
  by_cases e : j = a
  · subst e; rw [if_pos rfl]; omega
  · rw [if_neg e]
    unfold cntR
    have h1 := lenR_part R (a := a) (b := j) h
    have h2 := lenR_part R (a := j) (b := j + 1) (by omega)
    have h3 := lenR_part R (a := a) (b := j + 1) (by omega)
    rw [if_neg (show ¬ j = 0 by omega)]
    omega
theorem sumTo_le {R : List RC} {ah : List Int} {a j : Nat} : sumTo R ah a j ≤ ah.length + lenR R := by
  unfold sumTo
  split
  · omega
  · exact cntR_le R ah a j
theorem sumTo_end {R : List RC} {ah : List Int} {a j : Nat} (h : a < j) : sumTo R ah a j = cntR R ah a j := if_neg (by omega)
theorem sumTo_self {R : List RC} {ah : List Int} {a : Nat} : sumTo R ah a a = 0 := if_pos rfl
set_option maxRecDepth 100000 in
set_option maxHeartbeats 4000000 in
theorem rcClusters_any (base b gl n : Nat) (Q : List Value) (L : List (List Int)) (J : Value) (Js : List Sp) (R : List RC) (ah : List Int) (w : World) (hC : RCAt w base b gl n Q L J) (hJ : w.ownsRow base 39 2 J Js.length (cellsS Js)) (hjl : Js.length ≤ 100000) (hn : n ≤ 1000) (ht : ah.length + lenR R ≤ 1000000)
    (hcnt : ∀ (k : Nat) (l : List Int), L[k]? = some l → l.length = cntR R ah k (k + 1)) (Pst : Int → Value → World → World → Prop) (ml tt : Nat) (hml : (linksTo R ah (groupsS (n : Int) Js)).1.length = ml) (htt : (linksTo R ah (groupsS (n : Int) Js)).2 = tt)
    (hF : ∀ (A : Option Addr) (cv : Nat) (W : World), Below w.heap.size w W → Rd W 4 A ml (cellsC (linksTo R ah (groupsS (n : Int) Js)).1) → Calls Tryz.prog 55 #[.int .i64 (n : Int), .int .i64 (tt : Int), .slice A ml cv] W fun e W' => ∃ u er, e = .returned (.tuple #[u, .int .i64 er]) ∧ Pst er u W W' ∧ Below W.heap.size W W') :
    Calls Tryz.prog 21 #[.pointer (some ⟨b, 0, none⟩)] w fun e w' => ∃ u er W, e = .returned (.tuple #[u, .int .i64 er]) ∧ Below w.heap.size w W ∧ Pst er u W w' ∧ Below w.heap.size w w' := by
  obtain ⟨AJ, cJ, rfl, _⟩ := own_form hJ
  have c0 := hp_cell (j := 0) hC.hb rfl
  have c1 := hp_cell (j := 1) hC.hb rfl
  have HC := Lib.hid hC
  have HRJ := Lib.hid (Rd.of_own hJ)
  have HCNT := Lib.hid hcnt
  have HP := Lib.hid (parts_mem (Int.le_refl 0) (groups_whole (n := (n : Int)) Js (by omega)))
  have hgl : (groupsS (n : Int) Js).length ≤ 1000 := groups_len (by omega)
  obtain ⟨G, hG⟩ : ∃ G, groupsS (n : Int) Js = G := ⟨_, rfl⟩
  rw [hG] at hgl HP hml htt hF
  have HGJ := Lib.hid hG
  have HFF := Lib.hid hF
  obtain ⟨jn, hjn⟩ : ∃ jn, Js.length = jn := ⟨_, rfl⟩
  rw [hjn] at hjl HRJ c1
  obtain ⟨gn, hgn⟩ : ∃ gn, G.length = gn := ⟨_, rfl⟩
  have HG := Lib.hid hgn
  rw [hgn] at hgl
  have HML := Lib.hid hml
  have HTT := Lib.hid htt
  clear hC hJ hcnt hG hF hjn hgn hml htt
  go_enter Tryz.func21, Tryz.ntmps21
  go_wp2_with fail
  go_region_held3 (fun w' => w'.cell? ⟨b, 0, none⟩ = some (.slice (some ⟨gl, 0, none⟩) n n) ∧ w'.cell? ⟨b, 1, none⟩ = some (.slice AJ jn cJ) ∧ Below w.heap.size w w')
    (first
      | exact ⟨c0, c1, Below.refl _ _⟩
      | exact ⟨c0, c1, (Below.refl _ _).drew⟩
      | exact ⟨cell_below hz1 c0, cell_below hz1 c1, hz1⟩
      | fail)
    (first
      | (go_at_call 54; refine (refGroups_any (n : Int) AJ jn cJ Js _ (HRJ.out.below (by first | exact (Below.refl _ _).drew | exact Below.refl _ _)) (by unfold maxLen; omega) (by omega)).mono ?_; rintro e' w1 ⟨v1, rfl, hown1, hb1⟩; rw [HGJ.out, HG.out] at hown1; obtain ⟨A1, c1', rfl, hc1⟩ := own_form hown1; have hz1 : Below w.heap.size w w1 := (by first | exact below_self (Below.refl _ _).drew hb1 | exact hb1))
      | fail)
  have HRG := Lib.hid (Rd.of_own hown1)
  have HZ := Lib.hid hz1
  have HC2 := Lib.hid (HC.out.low hz1)
  clear hown1 hb1 hz1 hc1 c0 c1
  go_wp2_with fail
  go_loopw [5, 6, 7] (fun v e i ws => ∃ k : Nat, k ≤ gn ∧ i = .int .i64 (k : Int) ∧ e = .int .i64 ((linksTo R ah (G.take k)).2 : Nat) ∧ ws.ownsRow w1.heap.size 41 4 v (linksTo R ah (G.take k)).1.length (cellsC (linksTo R ah (G.take k)).1) ∧ Below w1.heap.size w1 ws) (fun _ _ i _ => gn - (intOf i).toNat)
  case atStart => exact ⟨0, Nat.zero_le _, rfl, rfl, ⟨rfl, .inl ⟨rfl, rfl⟩⟩, Below.refl _ _⟩
  case round =>
    obtain ⟨k, hk, rfl, rfl, hown, hb⟩ := hrel
    have hll := linksTo_len R ah G k
    have hle := linksTo_end R ah G k
    have hkm : k * (ah.length + lenR R) ≤ 1000 * 1000000 := Nat.mul_le_mul (by omega) ht
    by_cases hlt : k < gn
    · obtain ⟨g, hg⟩ : ∃ g, G[k]? = some g := ⟨_, List.getElem?_eq_getElem (by rw [HG.out]; exact hlt)⟩
      obtain ⟨a, d, rfl, had, hdn⟩ := HP.out g (List.mem_of_getElem? hg)
      obtain ⟨ad, rfl, hab, x0, x1⟩ := (HRG.out.below hb).span hg
      have HY := Lib.hid (fun h => linksTo_yes (R := R) (ah := ah) hg h)
      have HN := Lib.hid (fun h => linksTo_no (R := R) (ah := ah) hg h)
      have hcb := cntR_le R ah a d
      obtain ⟨e, he⟩ : ∃ e, (linksTo R ah (G.take k)).2 = e := ⟨_, rfl⟩
      obtain ⟨M, hM⟩ : ∃ M, (linksTo R ah (G.take k)).1 = M := ⟨_, rfl⟩
      rw [he, hM] at HY HN
      rw [hM] at hll hown
      rw [he] at hle ⊢
      simp only at x0 x1
      have HO := Lib.hid hown
      have HB := Lib.hid hb
      have HC3 := Lib.hid (HC2.out.low hb)
      have b0 := hp_cell (j := 0) HC3.out.hb rfl
      have hkg : (k : Int) < (gn : Int) := by omega
      clear hg he hM hown hb
      go_wp2_with fail
      go_loopw [6, 9] (fun t j ws => ∃ z : Nat, a ≤ z ∧ z ≤ d ∧ j = .int .i64 (z : Int) ∧ t = .int .i64 ((e + sumTo R ah a z : Nat) : Int) ∧ ws = wr) (fun _ j _ => d - (intOf j).toNat)
      case atStart => exact ⟨a, Nat.le_refl _, by omega, rfl, by rw [sumTo_self]; rfl, rfl⟩
      case round =>
        obtain ⟨z, haz, hzd, rfl, rfl, rfl⟩ := hrel
        have hsl := sumTo_le (R := R) (ah := ah) (a := a) (j := z)
        by_cases hlt2 : z < d
        · obtain ⟨l, hl⟩ : ∃ l, L[z]? = some l := ⟨_, List.getElem?_eq_getElem (by rw [HC3.out.len]; omega)⟩
          obtain ⟨Al, kl, hcl, _, _⟩ := HC3.out.row hl
          have hcz := HCNT.out z l hl
          have HST := Lib.hid (sumTo_step (R := R) (ah := ah) (a := a) (j := z) haz)
          rw [← hcz] at HST
          obtain ⟨s, hs⟩ : ∃ s, sumTo R ah a z = s := ⟨_, rfl⟩
          obtain ⟨q, hq⟩ : ∃ q, l.length = q := ⟨_, rfl⟩
          have hqb := cntR_le R ah z (z + 1)
          rw [← hcz, hq] at hqb
          rw [hs, hq] at HST
          rw [hs] at hsl ⊢
          rw [hq] at hcl
          have hzd' : (z : Int) < (d : Int) := by omega
          have hzn : (z : Int) < (n : Int) := by omega
          have hz0 : (0 : Int) ≤ (z : Int) := by omega
          clear hl hcz hs hq
          go_wp2_with fail
          go_roundw
          case rel => exact ⟨z + 1, by omega, by omega, by go_num, by rw [← HST.out]; go_num, trivial⟩
          case measure => simp [intOf]; omega
        · obtain rfl : z = d := by omega
          rw [sumTo_end had]
          obtain ⟨cq, hcq⟩ : ∃ cq, cntR R ah a z = cq := ⟨_, rfl⟩
          rw [hcq] at HY HN hcb ⊢
          clear hcq hsl
          by_cases hc0 : 0 < cq
          · have HE := Lib.hid (HY.out hc0)
            have hgt : (e : Int) < ((e + cq : Nat) : Int) := by omega
            have hcast : ((e + cq : Nat) : Int) = (e : Int) + (cq : Int) := by omega
            have HCS := Lib.hid hcast
            clear hcast
            obtain ⟨E, hE⟩ : ∃ E : Int, ((e + cq : Nat) : Int) = E := ⟨_, rfl⟩
            have HEE := Lib.hid hE
            rw [hE] at hgt ⊢
            have hEb : E ≤ 2000000000 := by omega
            clear hE
            go_wp2_with (first
              | (at_builtin; refine wpList_app rfl _ _ _ rfl clusSlice (by decide) _ M.length _ rfl (HO.out.alloc _) ⟨wr.heap.size, 0, none⟩ 1 1 [.int .i64 (a : Int), .int .i64 (z : Int), .int .i64 (e : Int), .int .i64 E] rfl rfl (cells_new wr [_, _, _, _] _) (oneInt4 _ _ _ _ _) (by omega) (by unfold maxLen; omega) (Nat.le_trans HB.out.size (by simp)) ?_; intro v6 w6 hown6 hg6 hat6; have HB6 := Lib.hid ((HB.out.alloc HB.out.size (.cells #[.int .i64 (a : Int), .int .i64 (z : Int), .int .i64 (e : Int), .int .i64 E] 41)).grown hg6 (Nat.le_trans HB.out.size (by simp)) (fun b hb => (HO.out.lt b hb).1)))
              | fail)
            have hE2 : E = (e : Int) + (cq : Int) := HEE.out.symm.trans HCS.out
            have HO6 := Lib.hid (show w6.ownsRow w1.heap.size 41 4 v6 (M ++ [(((a : Int), (z : Int)), ((e : Int), (e : Int) + (cq : Int)))]).length (cellsC (M ++ [(((a : Int), (z : Int)), ((e : Int), (e : Int) + (cq : Int)))])) by rw [List.length_append, cellsC_snoc, ← hE2]; exact hown6)
            have HE2 := Lib.hid hE2
            clear hown6 hg6 hat6 hE2
            go_roundw
            case rel => exact ⟨k + 1, by omega, by go_num, by rw [HE.out]; simp only; rw [← HEE.out], by rw [HE.out]; exact HO6.out, HB6.out⟩
            case measure => simp [intOf]; omega
          · have HE := Lib.hid (HN.out hc0)
            obtain rfl : cq = 0 := by omega
            rw [Nat.add_zero]
            rw [Nat.add_zero] at HE
            clear hc0
            go_wp2_with fail
            go_roundw
            case rel => exact ⟨k + 1, by omega, by go_num, by rw [HE.out]; rfl, by rw [HE.out]; exact HO.out, HB.out⟩
            case measure => simp [intOf]; omega
    · obtain rfl : k = gn := by omega
      have HT := Lib.hid (show G.take k = G from List.take_of_length_le (by rw [HG.out]; exact Nat.le_refl _))
      rw [HT.out] at hown
      rw [HT.out, HTT.out]
      rw [HML.out] at hown
      obtain ⟨A6, c6, rfl, _⟩ := own_form hown
      have HC3 := Lib.hid (HC2.out.low hb)
      have b0 := hp_cell (j := 0) HC3.out.hb rfl
      have HBW := Lib.hid (below_self HZ.out hb)
      have HFN := Lib.hid (HFF.out A6 c6 wr HBW.out (Rd.of_own hown))
      clear hown hb
      go_wp2_with fail
      refine HFN.out.mono ?_
      rintro e' w7 ⟨u, er, rfl, hP, hb7⟩
      have HPP := Lib.hid hP
      have HB7 := Lib.hid (below_self HBW.out hb7)
      clear hP hb7
      go_wp2_with fail
      exact bodyPost_ret (v := .tuple #[u, .int .i64 er]) (by simp [results, go_sem]) rfl ⟨u, er, wr, rfl, HBW.out, HPP.out, HB7.out⟩
end Go.Proofs.YtcbiaeeifclieaaGreatDoor
/- The reference's links and what it adds to them: the same as what fills. No program in this text. -/
namespace Go.Proofs.YtcbiaeeifclieaaGreatDoor

theorem fillB_get {xs : List Bool} {lo hi : Nat} (h : lo ≤ hi) (hk : hi ≤ xs.length) (i : Nat) : (fillB xs lo hi)[i]? = if lo ≤ i ∧ i < hi then some true else xs[i]? := by
  unfold fillB
  rcases Nat.lt_or_ge i lo with h1 | h1
  · rw [if_neg (by omega), List.append_assoc, List.getElem?_append_left (by simp; omega), List.getElem?_take, if_pos h1]
  · rcases Nat.lt_or_ge i hi with h2 | h2
    · rw [if_pos ⟨h1, h2⟩, List.getElem?_append_left (by simp; omega), List.getElem?_append_right (by simp; omega), List.getElem?_replicate, if_pos (by simp; omega)]
    · rw [if_neg (by omega), List.getElem?_append_right (by simp; omega), List.getElem?_drop]
      congr 1
      simp; omega
/-- A link in range, its ends natural numbers. -/
def RealC (n m : Nat) (c : Cl) : Prop := c = (ncOf c).cl ∧ (ncOf c).real ∧ (ncOf c).b ≤ n ∧ (ncOf c).d ≤ m
theorem linked_fold {n m : Nat} (i : Nat) : ∀ (l : List Cl) (xs : List Bool), xs.length = n → (∀ x ∈ l, RealC n m x) → (l.foldl linkStep xs).length = n ∧ ((l.foldl linkStep xs)[i]? = some true ↔ xs[i]? = some true ∨ ∃ y ∈ l.map ncOf, y.a ≤ i ∧ i < y.b)
  | [], xs, hl, _ => ⟨hl, by simp⟩
  | c :: l, xs, hl, h => by
    obtain ⟨e, h1, h2, h3⟩ := h c (List.mem_cons_self ..)
    have e1 : linkStep xs c = fillB xs (ncOf c).a (ncOf c).b := rfl
    have hb : (ncOf c).b ≤ xs.length := by omega
    have hle := Nat.le_of_lt h1.1
    obtain ⟨r1, r2⟩ := linked_fold i l (linkStep xs c) (by rw [e1, fillB_len hle hb, hl]) (fun x hx => h x (List.mem_cons_of_mem _ hx))
    rw [List.foldl_cons]
    refine ⟨r1, r2.trans ?_⟩
    rw [e1, fillB_get hle hb]
    simp only [List.map_cons, List.mem_cons, exists_eq_or_imp]
    by_cases hc : (ncOf c).a ≤ i ∧ i < (ncOf c).b
    · simp [hc]
    · simp [hc]
theorem linked_iff {n m : Nat} {l : List Cl} (h : ∀ x ∈ l, RealC n m x) (i : Nat) : (linkedS n l)[i]? = some true ↔ ∃ y ∈ l.map ncOf, y.a ≤ i ∧ i < y.b := by
  have := (linked_fold (m := m) i l (List.replicate n false) (by simp) h).2
  unfold linkedS
  rw [this, List.getElem?_replicate]
  constructor
  · rintro (h | h)
    · split at h <;> cases h
    · exact h
  · exact .inr
theorem linked_len {n m : Nat} {l : List Cl} (h : ∀ x ∈ l, RealC n m x) : (linkedS n l).length = n := (linked_fold (m := m) 0 l (List.replicate n false) (by simp) h).1
/-- What joins each place that no link has to the one ahead of it, below k. -/
def backC (i : Nat) : Cl := (((i : Int) - 1, (i : Int) + 1), (0, 0))
def backAt (h : List Bool) (i : Nat) : Option Cl := if i = 0 then none else if h[i]? = some true then none else some (backC i)
def backTo (h : List Bool) (k : Nat) : List Cl := (List.range k).filterMap (backAt h)
theorem backTo_one (h : List Bool) : backTo h 1 = [] := rfl
theorem backTo_yes {h : List Bool} {k : Nat} (hk : h[k]? = some true) : backTo h (k + 1) = backTo h k := by
  unfold backTo
  rw [List.range_succ, List.filterMap_append]
  simp [backAt, hk]
theorem backTo_no {h : List Bool} {k : Nat} (h0 : 0 < k) (hk : h[k]? = some false) : backTo h (k + 1) = backTo h k ++ [backC k] := by
  unfold backTo
  rw [List.range_succ, List.filterMap_append]
  have : k ≠ 0 := by omega
  simp [backAt, hk, this]
theorem backTo_len (h : List Bool) (k : Nat) : (backTo h k).length ≤ k := by
  unfold backTo
  exact Nat.le_trans (List.length_filterMap_le _ _) (by simp)
theorem ncOf_back {i : Nat} (h : i ≠ 0) : ncOf (backC i) = ⟨i - 1, i + 1, 0, 0⟩ := by
  unfold ncOf backC
  simp only [NC.mk.injEq]
  omega
theorem aheadFrom_no : ∀ (l : List Bool) (k : Nat), (∀ j : Nat, l[j]? ≠ some true) → aheadFrom l k = []
  | [], _, _ => rfl
  | true :: _, _, h => absurd rfl (h 0)
  | false :: l, k, h => by
    rw [aheadFrom]
    exact aheadFrom_no l (k + 1) (fun j hj => h (j + 1) (by simpa using hj))
theorem aheadFrom_at : ∀ (l : List Bool) (k j : Nat), l[j]? = some true → (∀ i : Nat, i < j → l[i]? ≠ some true) → aheadFrom l k = if 0 < k + j then [((0, ((k + j : Nat) : Int) + 1), (0, 0))] else []
  | [], _, _, h, _ => by simp at h
  | true :: l, k, j, h, h2 => by
    have : j = 0 := by
      rcases Nat.eq_zero_or_pos j with e | e
      · exact e
      · exact absurd rfl (h2 0 e)
    subst this
    rfl
  | false :: l, k, 0, h, _ => by simp at h
  | false :: l, k, j + 1, h, h2 => by
    rw [aheadFrom, aheadFrom_at l (k + 1) j (by simpa using h) (fun i hi h9 => h2 (i + 1) (by omega) (by simpa using h9)), show k + 1 + j = k + (j + 1) by omega]
theorem ahead_fill {n m : Nat} {l : List Cl} (h : ∀ x ∈ l, RealC n m x) (hne : l ≠ []) : (aheadS (linkedS n l)).map ncOf = fillAhead (l.map ncOf) := by
  have hreal : ∀ y ∈ l.map ncOf, y.real := fun y hy => by
    obtain ⟨x, hx, rfl⟩ := List.mem_map.1 hy
    exact (h x hx).2.1
  obtain ⟨c, l', e⟩ := List.exists_cons_of_ne_nil hne
  obtain ⟨f, hf⟩ := first_of (L := l.map ncOf) ⟨ncOf c, by rw [e]; exact List.mem_cons_self .., hreal _ (by rw [e]; exact List.mem_cons_self ..)⟩
  obtain ⟨⟨y, hy, hyr, hya⟩, hmin⟩ := id hf
  have h1 : (linkedS n l)[f]? = some true := (linked_iff h f).2 ⟨y, hy, by omega, by have := hyr.1; omega⟩
  have h2 : ∀ i, i < f → (linkedS n l)[i]? ≠ some true := fun i hi h9 => by
    obtain ⟨z, hz, z1, z2⟩ := (linked_iff h i).1 h9
    have := hmin z hz (hreal z hz)
    omega
  unfold aheadS
  rw [aheadFrom_at _ 0 f h1 h2, Nat.zero_add]
  unfold fillAhead
  by_cases h0 : 0 < f
  · have hex : ∃ f, FirstOf (l.map ncOf) f ∧ 0 < f := ⟨f, hf, h0⟩
    rw [if_pos h0, dif_pos hex]
    have e := (Classical.choose_spec hex).1.only hf
    rw [e]
    unfold ncOf
    simp
  · rw [if_neg h0, dif_neg (fun ⟨g, hg, hg0⟩ => h0 (by rw [← hg.only hf]; exact hg0))]
    rfl
/-- All links of the reference. -/
def allC (n : Nat) (l : List Cl) : List Cl := l ++ backTo (linkedS n l) n ++ aheadS (linkedS n l)
theorem all_fills {n m : Nat} {l : List Cl} (h : ∀ x ∈ l, RealC n m x) (hne : l ≠ []) (x : NC) : x ∈ l.map ncOf ++ fillsOf n (l.map ncOf) ↔ x ∈ (allC n l).map ncOf := by
  unfold allC fillsOf
  rw [List.map_append, List.map_append, ahead_fill h hne, List.append_assoc]
  simp only [List.mem_append]
  have key : x ∈ (List.range n).filterMap (fillAt (l.map ncOf)) ↔ x ∈ (backTo (linkedS n l) n).map ncOf := by
    unfold backTo
    simp only [List.mem_filterMap, List.mem_map, List.mem_range]
    constructor
    · rintro ⟨i, hi, hf⟩
      unfold fillAt at hf
      split at hf
      · cases hf
      · rename_i hno
        injection hf with hf
        have h0 : i ≠ 0 := fun e => hno (.inl e)
        refine ⟨backC i, ⟨i, hi, ?_⟩, by rw [ncOf_back h0, hf]⟩
        unfold backAt
        rw [if_neg h0, if_neg (fun h9 => hno (.inr ((linked_iff h i).1 h9)))]
    · rintro ⟨c, ⟨i, hi, hb⟩, rfl⟩
      unfold backAt at hb
      split at hb
      · cases hb
      · rename_i h0
        split at hb
        · cases hb
        · rename_i h1
          injection hb with hb
          subst hb
          refine ⟨i, hi, ?_⟩
          unfold fillAt
          rw [if_neg (fun h9 => by rcases h9 with h9 | h9; exact h0 h9; exact h1 ((linked_iff h i).2 h9)), ncOf_back h0]
  rw [key]
/-- A link of all: its ends. -/
def LinkC (n m : Nat) (c : Cl) : Prop := c = (ncOf c).cl ∧ (ncOf c).a < (ncOf c).b ∧ (ncOf c).b ≤ n ∧ (((ncOf c).c < (ncOf c).d ∧ (ncOf c).d ≤ m) ∨ ((ncOf c).c = 0 ∧ (ncOf c).d = 0))
theorem all_link {n m : Nat} {l : List Cl} (h : ∀ x ∈ l, RealC n m x) {c : Cl} (hc : c ∈ allC n l) : LinkC n m c := by
  unfold allC at hc
  rcases List.mem_append.1 hc with hc | hc
  · rcases List.mem_append.1 hc with hc | hc
    · obtain ⟨e, h1, h2, h3⟩ := h c hc
      exact ⟨e, h1.1, h2, .inl ⟨h1.2, h3⟩⟩
    · unfold backTo at hc
      obtain ⟨i, hi, hb⟩ := List.mem_filterMap.1 hc
      rw [List.mem_range] at hi
      unfold backAt at hb
      split at hb
      · cases hb
      · rename_i h0
        split at hb
        · cases hb
        · injection hb with hb
          subst hb
          unfold LinkC
          rw [ncOf_back h0]
          refine ⟨?_, by simp only; omega, by simp only; omega, .inr ⟨rfl, rfl⟩⟩
          unfold backC NC.cl
          simp only [Prod.mk.injEq]
          omega
  · have hl := linked_len (m := m) h
    have hh : ∀ (l : List Bool) (k : Nat), c ∈ aheadFrom l k → ∃ j, k ≤ j ∧ j < k + l.length ∧ 0 < j ∧ c = ((0, (j : Int) + 1), (0, 0)) := by
      intro l
      induction l with
      | nil => intro k hk; cases hk
      | cons b l ih =>
        intro k hk
        cases b with
        | true =>
          rw [aheadFrom] at hk
          split at hk
          · exact ⟨k, Nat.le_refl _, by simp, by assumption, List.mem_singleton.1 hk⟩
          · cases hk
        | false =>
          rw [aheadFrom] at hk
          obtain ⟨j, j1, j2, j3, j4⟩ := ih (k + 1) hk
          exact ⟨j, by omega, by simp; omega, j3, j4⟩
    obtain ⟨j, j1, j2, j3, rfl⟩ := hh _ 0 hc
    rw [hl] at j2
    unfold LinkC ncOf NC.cl
    simp only [Prod.mk.injEq]
    omega
theorem all_len {n m : Nat} {l : List Cl} (h : ∀ x ∈ l, RealC n m x) : (allC n l).length ≤ l.length + n + 1 := by
  unfold allC
  rw [List.length_append, List.length_append]
  have h1 := backTo_len (linkedS n l) n
  have h2 : ∀ (l : List Bool) (k : Nat), (aheadFrom l k).length ≤ 1 := by
    intro l
    induction l with
    | nil => intro k; simp [aheadFrom]
    | cons b l ih =>
      intro k
      cases b with
      | true => rw [aheadFrom]; split <;> simp
      | false => rw [aheadFrom]; exact ih _
  have h3 := h2 (linkedS n l) 0
  unfold aheadS
  omega
end Go.Proofs.YtcbiaeeifclieaaGreatDoor
