/- Texts of one claim, one behind the other. -/
import Derived.Test.YtmgoakfnmgngoaaMgSm14
import Derived.Test.YtmgoakfnmgngoaaMgSm20
/- A map turned, and turned twice; as mathematics. No program in this text. -/
namespace Go.Proofs.Ytmgoakfnmgngoaa

theorem same_of_perm {a b : List Cl} (h : a.Perm b) (hd : a.Pairwise fun x y => keyC x ≠ keyC y) : Same a b := fun v => by
  have hp : (ofKey v a).Perm (ofKey v b) := h.filter _
  have hw : (ofKey v a).Pairwise fun x y => keyC x ≠ keyC y := hd.filter _
  have hv : ∀ x ∈ ofKey v a, keyC x = v := fun x hx => by
    have := (List.mem_filter.1 hx).2
    simpa using this
  rcases he : ofKey v a with _ | ⟨x, _ | ⟨y, r⟩⟩
  · rw [he] at hp
    exact (List.nil_perm.1 hp).symm
  · rw [he] at hp
    exact List.singleton_perm.1 hp
  · exfalso
    rw [he] at hw hv
    rw [List.pairwise_cons] at hw
    have e1 := hv x (by simp)
    have e2 := hv y (by simp)
    exact hw.1 y (by simp) (e1.trans e2.symm)
theorem map_swap_swap (l : List Cl) : (l.map swapC).map swapC = l := by
  rw [List.map_map]
  conv => rhs; rw [← List.map_id l]
  rfl
theorem turn_twice {l ys zs : List Cl} (hl : l.Pairwise fun x y => keyC x < keyC y) (h1 : Same (l.map swapC) ys) (h2 : Same (ys.map swapC) zs) (hz : SortC zs) : zs = l := by
  have hp : l.Perm zs := by
    have e := (h1.perm.map swapC)
    rw [map_swap_swap] at e
    exact e.trans h2.perm
  have hs : SortC l := hl.imp (fun h => by omega)
  exact (same_only hs hz (same_of_perm hp (hl.imp (fun h => by omega)))).symm
theorem turn_check {l ys : List Cl} {n m : Int} (hc : checkC l n m = true) (hs : Same (l.map swapC) ys) (ht : SortC ys) (hl : l.Pairwise fun x y => keyC x < keyC y) : checkC ys m n = true := by
  have h1 := turn_run hc hs ht
  unfold checkC at hc ⊢
  rw [Bool.and_eq_true] at hc ⊢
  refine ⟨h1, ?_⟩
  rw [← hc.1]
  refine parts_perm ?_ ?_ (sortR_sorted _) n
  · refine (sortR_perm _).trans ?_
    have := (hs.perm.symm).map Prod.snd
    rwa [List.map_map] at this
  · unfold LoSorted
    rw [List.pairwise_map]
    exact hl.imp (fun h => by have h' : _ < _ := h; unfold keyC at h'; omega)
theorem tiles_keys {l : List NC} {s n : Nat} (h : Tiles s l n) : (l.map NC.cl).Pairwise fun x y => keyC x < keyC y := by
  rw [List.pairwise_map]
  refine List.Pairwise.imp_of_mem ?_ h.apart
  intro x y hx hy hxy
  have := Tiles.from_ h x hx
  simp only [keyC, NC.cl]
  omega
/-- Each place by itself, as clusters in natural numbers. -/
def identN (n : Nat) : List NC := (List.range n).map fun i => ⟨i, i + 1, i, i + 1⟩
theorem identN_cl (n : Nat) : (identN n).map NC.cl = identS n := by
  unfold identN identS
  rw [List.map_map]
  apply List.map_congr_left
  intro i _
  simp [NC.cl]
theorem identN_tiles : ∀ n, Tiles 0 (identN n) n
  | 0 => rfl
  | n + 1 => by
    have := (identN_tiles n).snoc (x := ⟨n, n + 1, n, n + 1⟩) rfl (Nat.lt_succ_self n)
    unfold identN at this ⊢
    rwa [List.range_succ, List.map_append]
theorem ident_check (n : Nat) : checkC (identS n) (n : Int) (n : Int) = true := by
  have h1 : partsS ((identS n).map Prod.fst) (n : Int) = true := by
    rw [← identN_cl]; exact tiles_parts (identN_tiles n)
  have h2 : (identS n).map Prod.snd = (identS n).map Prod.fst := by
    unfold identS
    rw [List.map_map, List.map_map]
    rfl
  unfold checkC
  rw [Bool.and_eq_true]
  refine ⟨h1, ?_⟩
  rw [h2, ← h1]
  refine parts_perm (sortR_perm _) ?_ (sortR_sorted _) _
  unfold LoSorted
  rw [List.pairwise_map, ← identN_cl]
  exact (tiles_keys (identN_tiles n)).imp (fun h => by have h' : _ < _ := h; unfold keyC at h'; omega)
theorem ident_ins (n : Nat) : insS (identS n) = (n : Int) := ins_end (by omega) (fun x hx => by obtain ⟨i, hi, rfl⟩ := ident_mem.1 hx; simp only; omega) (by
  by_cases h : n = 0
  · left; omega
  · right; exact ⟨_, ident_mem.2 ⟨n - 1, by omega, rfl⟩, by simp only; omega⟩)
theorem ident_outs (n : Nat) : outsS (identS n) = (n : Int) := outs_end (by omega) (fun x hx => by obtain ⟨i, hi, rfl⟩ := ident_mem.1 hx; simp only; omega) (by
  by_cases h : n = 0
  · left; omega
  · right; exact ⟨_, ident_mem.2 ⟨n - 1, by omega, rfl⟩, by simp only; omega⟩)
theorem map_ins {l : List NC} {n : Nat} (h : Tiles 0 l n) : insS (l.map NC.cl) = (n : Int) := ins_end (by omega) (fun x hx => by
  obtain ⟨y, hy, rfl⟩ := List.mem_map.1 hx
  have := Tiles.from_ h y hy
  simp only [NC.cl]; omega) (by
  by_cases h0 : n = 0
  · left; omega
  · right
    obtain ⟨y, hy, h1, h2⟩ := Tiles.cover h (n - 1) (Nat.zero_le _) (by omega)
    have := Tiles.from_ h y hy
    exact ⟨_, List.mem_map.2 ⟨y, hy, rfl⟩, by simp only [NC.cl]; omega⟩)
theorem map_outs {l : List NC} {m : Nat} (h : ∀ x ∈ l, x.c < x.d ∧ x.d ≤ m) (hcov : ∀ j, j < m → ∃ x ∈ l, x.c ≤ j ∧ j < x.d) : outsS (l.map NC.cl) = (m : Int) := outs_end (by omega) (fun x hx => by
  obtain ⟨y, hy, rfl⟩ := List.mem_map.1 hx
  have := h y hy
  simp only [NC.cl]; omega) (by
  by_cases h0 : m = 0
  · left; omega
  · right
    obtain ⟨y, hy, h1, h2⟩ := hcov (m - 1) (by omega)
    have := h y hy
    exact ⟨_, List.mem_map.2 ⟨y, hy, rfl⟩, by simp only [NC.cl]; omega⟩)
end Go.Proofs.Ytmgoakfnmgngoaa
/- naskhlaw04's ClusterTurns, walked. -/
namespace Go.Proofs.Ytmgoakfnmgngoaa
open Go.RowKit

set_option maxRecDepth 100000 in
set_option maxHeartbeats 1000000 in
theorem prIdentity_neg (n : Int) (w : World) (hn : n < 0) :
    Calls Try.prog 21 #[.int .i64 n] w fun e w' => e = .returned (.slice none 0 0) ∧ w = w' := by
  go_enter Try.func21, Try.ntmps21
  go_wp2_with fail
  go_ret
  exact ⟨rfl, rfl⟩
theorem prIdentity_all (n : Int) (w : World) (hn : n ≤ 1000000) :
    Calls Try.prog 21 #[.int .i64 n] w fun e w' => ∃ v, e = .returned v ∧ w'.ownsRow w.heap.size 33 4 v n.toNat (cellsC (identS n.toNat)) ∧ Below w.heap.size w w' := by
  by_cases h : n < 0
  · refine (prIdentity_neg n w h).mono ?_
    rintro e w' ⟨rfl, rfl⟩
    rw [Int.toNat_of_nonpos (by omega)]
    exact ⟨_, rfl, ⟨rfl, .inl ⟨rfl, rfl⟩⟩, Below.refl _ _⟩
  · obtain ⟨N, rfl⟩ := Int.eq_ofNat_of_zero_le (Int.not_lt.1 h)
    exact prIdentity_any N w (by omega)
set_option maxRecDepth 100000 in
set_option maxHeartbeats 2000000 in
theorem clusterTurns_any (A : Option Addr) (q c : Nat) (l : List Cl) (n : Int) (w : World) (hr : Rd w 4 A q (cellsC l)) (hq : q ≤ maxLen) :
    Calls Try.prog 8 #[.slice A q c, .int .i64 n] w fun e w' => e = .returned (.bool true) ∧ Below w.heap.size w w' := by
  have HR := Lib.hid hr
  unfold maxLen at hq
  clear hr
  have hcase : 60 < q ∨ (q ≤ 60 ∧ 200 < n) ∨ (q ≤ 60 ∧ n ≤ 200) := by omega
  go_enter Try.func8, Try.ntmps8
  rcases hcase with h1 | ⟨h1, h2⟩ | ⟨h1, h2⟩
  iterate 2
    · go_wp2_with fail
      refine (awakeCl_any _).mono ?_
      rintro e w2 ⟨rfl, hb2⟩
      go_wp2_with fail
      go_ret
      exact ⟨rfl, hb2⟩
  · go_wp2_with fail
    refine (prTurn_any A q c l _ HR.out (by omega)).mono ?_
    rintro e w1 ⟨v1, ys1, rfl, ho1, hs1, ht1, hb1⟩
    obtain ⟨V1, c1, rfl, _⟩ := own_form ho1
    have HL1 := Lib.hid (Rd.of_own ho1)
    have HS1 := Lib.hid hs1
    have HT1 := Lib.hid ht1
    clear ho1 hs1 ht1
    go_wp2_with fail
    refine (refTurnC_any A q c l w1 (HR.out.below hb1) (by omega)).mono ?_
    rintro e w2 ⟨v2, ys2, rfl, ho2, hs2, ht2, hb2⟩
    obtain ⟨V2, c2, rfl, _⟩ := own_form ho2
    have HL2 := Lib.hid (Rd.of_own ho2)
    have HL3 := Lib.hid (HL1.out.below hb2)
    have HE := Lib.hid (show decide (ys1 = ys2) = true from decide_eq_true (same_only HT1.out ht2 (HS1.out.symm.trans hs2)))
    have hb12 := below_self hb1 hb2
    clear ho2 hs2 ht2 hb1 hb2
    go_wp2_with fail
    refine (equalC_b V1 V2 q q c1 c2 ys1 ys2 w2 HL3.out HL2.out (by unfold maxLen; omega) (by unfold maxLen; omega)).mono ?_
    rintro e w3 ⟨rfl, hb3⟩
    rw [HE.out]
    have hb13 := below_self hb12 hb3
    clear hb12 hb3
    go_wp2_with fail
    refine (prIdentity_all n w3 (by omega)).mono ?_
    rintro e w4 ⟨v4, rfl, ho4, hb4⟩
    obtain ⟨V4, c4, rfl, _⟩ := own_form ho4
    have HL4 := Lib.hid (Rd.of_own ho4)
    have hb14 := below_self hb13 hb4
    clear ho4 hb13 hb4
    go_wp2_with fail
    refine (refIdentity_any n w4 (by omega)).mono ?_
    rintro e w5 ⟨v5, rfl, ho5, hb5⟩
    obtain ⟨V5, c5, rfl, _⟩ := own_form ho5
    have HL5 := Lib.hid (Rd.of_own ho5)
    have HL6 := Lib.hid (HL4.out.below hb5)
    have hb15 := below_self hb14 hb5
    clear ho5 hb14 hb5
    obtain ⟨p, hp⟩ : ∃ p, n.toNat = p := ⟨_, rfl⟩
    rw [hp] at HL5 HL6 ⊢
    have hp2 : p ≤ 200 := by omega
    clear hp
    go_wp2_with fail
    refine (equalC_b V4 V5 p p c4 c5 (identS p) (identS p) w5 HL6.out HL5.out (by unfold maxLen; omega) (by unfold maxLen; omega)).mono ?_
    rintro e w6 ⟨rfl, hb6⟩
    rw [show decide (identS p = identS p) = true from decide_eq_true rfl]
    have hb16 := below_self hb15 hb6
    go_wp2_with fail
    refine (awakeCl_any w6).mono ?_
    rintro e w7 ⟨rfl, hb7⟩
    have hb17 := below_self hb16 hb7
    go_wp2_with fail
    go_ret
    exact ⟨rfl, hb17⟩
end Go.Proofs.Ytmgoakfnmgngoaa
/- naskhlaw04's ClusterSame, walked. -/
namespace Go.Proofs.Ytmgoakfnmgngoaa
open Go.RowKit

theorem own_cap {w : World} {base : Nat} {e : TypeId} {size n m cap : Nat} {V : Option Addr} {xs : List Value} (h : w.ownsRow base e size (.slice V n cap) m xs) : cap ≤ maxLen := by
  rcases h.2 with ⟨e, _⟩ | ⟨g, cap, cur, e, _, _, _, hcm, _⟩
  · injection e with _ _ e; subst e; exact Nat.zero_le _
  · injection e with _ _ e; subst e; exact hcm
theorem finIs_cov {n m : Nat} {l : List Cl} {l' : List NC} (h : FinIs n m l l') (hn : n ≠ 0) (hfit : fitB (n : Int) (m : Int) l = true) (hc : CovP (m : Int) l) : ∀ j, j < m → ∃ x ∈ l', x.c ≤ j ∧ j < x.d := fun j hj => by
  obtain ⟨s, hs, h1, h2⟩ := hc (j : Int) (by omega) (by omega)
  obtain ⟨x, hx, rfl⟩ := List.mem_map.1 hs
  obtain ⟨e, hr, hb, hd⟩ := fitC_nat (fit_real hfit x hx)
  rw [e] at h1 h2
  simp only [NC.cl] at h1 h2
  exact (h.2 hn).out_all (List.mem_append_left _ (List.mem_map.2 ⟨x, hx, rfl⟩)) hr hb (by omega) (by omega) hj
theorem finE_both {n m : Nat} {l : List Cl} (h : finE (n : Int) (m : Int) l = 0) : (n = 0 ∧ m = 0) ∨ (n ≠ 0 ∧ m ≠ 0) := by
  unfold finE at h
  split at h
  · omega
  · split at h
    · omega
    · split at h
      · omega
      · omega
theorem link_none {a b L : List Cl} (h : LinkM a b L) (he : a = [] ∨ b = []) : L = [] := by
  rcases hL : L with _ | ⟨x, r⟩
  · rfl
  · exfalso
    obtain ⟨u, hu, v, hv, _⟩ := (h x).1 (by rw [hL]; simp)
    rcases he with rfl | rfl
    · simp at hu
    · simp at hv
theorem zero_none : finE ((0 : Nat) : Int) ((0 : Nat) : Int) [] = 0 := by
  unfold finE
  rw [if_neg (by decide), if_neg (by omega), if_neg (by omega), if_pos]
  intro j h1 h2
  omega
/-- What the map owes to both compositions, its turns and its check. -/
structure MapOf (n m : Nat) (l : List NC) : Prop where
  check : checkC (l.map NC.cl) (n : Int) (m : Int) = true
  keys : (l.map NC.cl).Pairwise fun x y => keyC x < keyC y
  ins : insS (l.map NC.cl) = (n : Int)
  outs : outsS (l.map NC.cl) = (m : Int)
  ahead : ∀ L, LinkM (identS n) (l.map NC.cl) L → finE (n : Int) (m : Int) L = 0 ∧ FinIs n m L l
  behind : ∀ L, LinkM (l.map NC.cl) (identS m) L → finE (n : Int) (m : Int) L = 0 ∧ FinIs n m L l
theorem map_of {n m : Nat} {l0 : List Cl} {l : List NC} (hn9 : n ≤ 1000) (hm9 : m ≤ 1000) (h : FinIs n m l0 l) (h0 : finE (n : Int) (m : Int) l0 = 0) (hfit : fitB (n : Int) (m : Int) l0 = true) (hc : CovP (m : Int) l0) : MapOf n m l := by
  have hck := finIs_check h hfit hc
  rcases finE_both h0 with ⟨rfl, rfl⟩ | ⟨hn, hm⟩
  · have hl := h.1 rfl
    subst hl
    refine ⟨hck, List.Pairwise.nil, rfl, rfl, fun L hL => ?_, fun L hL => ?_⟩
    · rw [link_none hL (.inr rfl)]
      exact ⟨zero_none, fun _ => rfl, fun h => absurd rfl h⟩
    · rw [link_none hL (.inl rfl)]
      exact ⟨zero_none, fun _ => rfl, fun h => absurd rfl h⟩
  · have hcov := finIs_cov h hn hfit hc
    have hF := h.2 hn
    refine ⟨hck, tiles_keys hF.tiles, map_ins hF.tiles, map_outs hF.out hcov, fun L hL => ?_, fun L hL => ?_⟩
    · have := back_ahead h hn hm hn9 hm9 hcov hL
      exact ⟨this.zero, this.is_⟩
    · have := back_behind h hn hm hn9 hm9 hcov hL
      exact ⟨this.zero, this.is_⟩
theorem prCompose_back (A B : Option Addr) (p q c d n m : Nat) (a b : List Cl) (l : List NC) (w : World) (hA : Rd w 4 A p (cellsC a)) (hB : Rd w 4 B q (cellsC b)) (hp : p ≤ 1000) (hq : q ≤ 1000) (hqd : q ≤ d) (hd9 : d ≤ maxLen)
    (h1 : checkC a (n : Int) (outsS a) = true) (h2 : checkC b (outsS a) (m : Int) = true) (hi : insS a = (n : Int)) (ho : outsS b = (m : Int)) (hL : ∀ L, LinkM a b L → finE (n : Int) (m : Int) L = 0 ∧ FinIs n m L l) :
    Calls Try.prog 19 #[.slice A p c, .slice B q d] w fun e w' => ∃ v, e = .returned (.tuple #[v, .int .i64 0]) ∧ w'.ownsRow w.heap.size 33 4 v l.length (cellsC (l.map NC.cl)) ∧ Below w.heap.size w w' := by
  unfold maxLen at hd9
  refine (prCompose_any A B p q c d a b w hA hB hp hq hqd (by omega)).mono ?_
  rintro e w' ⟨hans, hb⟩
  rcases hans with ⟨hno, _⟩ | ⟨_, L, hLk, w0, hw0, hf⟩
  · exact absurd (show CmOk a b by unfold CmOk; rw [hi, ho]; exact ⟨h1, h2⟩) hno
  · obtain ⟨e0, hfi⟩ := hL L hLk
    unfold FinAns at hf
    rw [hi, ho] at hf
    rcases hf with ⟨hne, _⟩ | ⟨_, _, _, _, _, _, _, v, k, rfl, hk, hown⟩
    · exact absurd e0 hne
    · have e1 : k = l := FinIs.only (by simpa using hk) hfi
      subst e1
      exact ⟨v, rfl, own_base hown hw0, hb⟩
set_option maxRecDepth 100000 in
set_option maxHeartbeats 4000000 in
theorem clusterSame_any (n m : Int) (A : Option Addr) (q c : Nat) (l : List Cl) (w : World) (hr : Rd w 4 A q (cellsC l)) (hq : q ≤ maxLen) :
    Calls Try.prog 7 #[.int .i64 n, .int .i64 m, .slice A q c] w fun e w' => e = .returned (.bool true) ∧ Below w.heap.size w w' := by
  have HR := Lib.hid hr
  have HF := Lib.hid (few_any A q c l w hr hq)
  unfold maxLen at hq
  clear hr
  go_enter Try.func7, Try.ntmps7
  go_wp2_with fail
  refine HF.out.mono ?_
  rintro e w1 ⟨b, rfl, hfew, hb1⟩
  have HW := Lib.hid hfew
  clear hfew
  have hcase : b = false ∨ (b = true ∧ n < 0) ∨ (b = true ∧ 0 ≤ n ∧ 40 < n) ∨ (b = true ∧ 0 ≤ n ∧ n ≤ 40 ∧ m < 0) ∨ (b = true ∧ 0 ≤ n ∧ n ≤ 40 ∧ 0 ≤ m ∧ 40 < m) ∨ (b = true ∧ 0 ≤ n ∧ n ≤ 40 ∧ 0 ≤ m ∧ m ≤ 40) := by
    cases b
    · exact .inl rfl
    · simp only [true_and]
      omega
  rcases hcase with rfl | ⟨rfl, h1⟩ | ⟨rfl, h0, h1⟩ | ⟨rfl, h0, h1, h2⟩ | ⟨rfl, h0, h1, h2, h3⟩ | ⟨rfl, h0, h1, h2, h3⟩
  iterate 5
    · go_wp2_with fail
      refine (awakeCl_any w1).mono ?_
      rintro e w2 ⟨rfl, hb2⟩
      have hb3 := below_self hb1 hb2
      go_wp2_with fail
      go_ret
      exact ⟨rfl, hb3⟩
  · obtain ⟨hq30, hx60⟩ := HW.out rfl
    clear hx60 HW
    go_wp2_with fail
    refine (prFinest_all n m q c A l w1 (HR.out.below hb1) (by omega)).mono ?_
    rintro e w2 ⟨hans, hb2⟩
    have hb12 := below_self hb1 hb2
    rcases hans with ⟨hne, rfl⟩ | ⟨e0, n1, n2, m1, m2, hfit, hcov, v, l', rfl, hfi, hown⟩
    · obtain ⟨er, her⟩ : ∃ er, finE n m l = er := ⟨_, rfl⟩
      rw [her] at hne ⊢
      clear her
      go_wp2_with fail
      refine (awakeCl_any w2).mono ?_
      rintro e w3 ⟨rfl, hb3⟩
      have hb4 := below_self hb12 hb3
      go_wp2_with fail
      go_ret
      exact ⟨rfl, hb4⟩
    · obtain ⟨N, rfl⟩ := Int.eq_ofNat_of_zero_le h0
      obtain ⟨M, rfl⟩ := Int.eq_ofNat_of_zero_le h2
      have hfi' : FinIs N M l l' := by simpa using hfi
      have HM := Lib.hid (map_of (by omega) (by omega) hfi' e0 hfit hcov)
      have hpb : l'.length ≤ 40 := by have := finIs_len hfi'; omega
      obtain ⟨V, cv, rfl, hcv⟩ := own_form hown
      have hcap := own_cap hown
      have HL2 := Lib.hid (Rd.of_own hown)
      obtain ⟨p, hp⟩ : ∃ p, l'.length = p := ⟨_, rfl⟩
      rw [hp] at hpb HL2 hcv ⊢
      have HP := Lib.hid hp
      clear e0 hfit hcov hfi hfi' hown hp n1 n2 m1 m2 hb1 hb2
      have hN40 : N ≤ 40 := by omega
      have hM40 : M ≤ 40 := by omega
      clear h0 h1 h2 h3
      go_wp2_with fail
      refine (prIdentity_any N w2 (by omega)).mono ?_
      rintro e w3 ⟨v3, rfl, ho3, hb3⟩
      obtain ⟨V3, c3, rfl, hc3⟩ := own_form ho3
      have HI3 := Lib.hid (Rd.of_own ho3)
      have hb13 := below_self hb12 hb3
      have HL3 := Lib.hid (HL2.out.below hb3)
      clear ho3 hb12 hb3 HL2
      go_wp2_with fail
      refine (prCompose_back V3 V N p c3 cv N M (identS N) (l'.map NC.cl) l' w3 HI3.out HL3.out (by omega) (by omega) hcv hcap (by rw [ident_outs]; exact ident_check N) (by rw [ident_outs]; exact HM.out.check) (ident_ins N) HM.out.outs HM.out.ahead).mono ?_
      rintro e w4 ⟨v4, rfl, ho4, hb4⟩
      obtain ⟨V4, c4, rfl, hc4⟩ := own_form ho4
      have HA4 := Lib.hid (Rd.of_own ho4)
      rw [HP.out] at HA4 ⊢
      have hb14 := below_self hb13 hb4
      have HL4 := Lib.hid (HL3.out.below hb4)
      clear ho4 hb13 hb4 HL3 HI3 hc3
      go_wp2_with fail
      refine (prIdentity_any M w4 (by omega)).mono ?_
      rintro e w5 ⟨v5, rfl, ho5, hb5⟩
      obtain ⟨V5, c5, rfl, hc5⟩ := own_form ho5
      have hcap5 := own_cap ho5
      have HI5 := Lib.hid (Rd.of_own ho5)
      have hb15 := below_self hb14 hb5
      have HL5 := Lib.hid (HL4.out.below hb5)
      have HA5 := Lib.hid (HA4.out.below hb5)
      clear ho5 hb14 hb5 HL4 HA4
      go_wp2_with fail
      refine (prCompose_back V V5 p M cv c5 N M (l'.map NC.cl) (identS M) l' w5 HL5.out HI5.out (by omega) (by omega) hc5 hcap5 (by rw [HM.out.outs]; exact HM.out.check) (by rw [HM.out.outs]; exact ident_check M) HM.out.ins (ident_outs M) HM.out.behind).mono ?_
      rintro e w6 ⟨v6, rfl, ho6, hb6⟩
      obtain ⟨V6, c6, rfl, hc6⟩ := own_form ho6
      have HB6 := Lib.hid (Rd.of_own ho6)
      rw [HP.out] at HB6 ⊢
      have hb16 := below_self hb15 hb6
      have HL6 := Lib.hid (HL5.out.below hb6)
      have HA6 := Lib.hid (HA5.out.below hb6)
      clear ho6 hb15 hb6 HL5 HA5 HI5 hc5 hcap5 hc4 hc6
      go_wp2_with fail
      refine (equalC_b V4 V p p c4 cv (l'.map NC.cl) (l'.map NC.cl) w6 HA6.out HL6.out (by unfold maxLen; omega) (by unfold maxLen; omega)).mono ?_
      rintro e w7 ⟨rfl, hb7⟩
      rw [show decide (l'.map NC.cl = l'.map NC.cl) = true from decide_eq_true rfl]
      have hb17 := below_self hb16 hb7
      have HL7 := Lib.hid (HL6.out.below hb7)
      have HB7 := Lib.hid (HB6.out.below hb7)
      clear hb16 hb7 HL6 HA6 HB6
      go_wp2_with fail
      refine (equalC_b V6 V p p c6 cv (l'.map NC.cl) (l'.map NC.cl) w7 HB7.out HL7.out (by unfold maxLen; omega) (by unfold maxLen; omega)).mono ?_
      rintro e w8 ⟨rfl, hb8⟩
      rw [show decide (l'.map NC.cl = l'.map NC.cl) = true from decide_eq_true rfl]
      have hb18 := below_self hb17 hb8
      have HL8 := Lib.hid (HL7.out.below hb8)
      clear hb17 hb8 HL7 HB7
      go_wp2_with fail
      refine (prTurn_any V p cv (l'.map NC.cl) w8 HL8.out (by omega)).mono ?_
      rintro e w9 ⟨v9, ys, rfl, ho9, hs9, ht9, hb9⟩
      obtain ⟨V9, c9, rfl, hc9⟩ := own_form ho9
      have HT9 := Lib.hid (Rd.of_own ho9)
      have HS9 := Lib.hid hs9
      have hb19 := below_self hb18 hb9
      have HL9 := Lib.hid (HL8.out.below hb9)
      clear ho9 hs9 ht9 hb18 hb9 HL8 hc9
      go_wp2_with fail
      refine (prTurn_any V9 p c9 ys w9 HT9.out (by omega)).mono ?_
      rintro e wa ⟨va, zs, rfl, hoa, hsa, hta, hba⟩
      obtain ⟨Va, ca, rfl, hca⟩ := own_form hoa
      have HTa := Lib.hid (Rd.of_own hoa)
      have HZ := Lib.hid (turn_twice HM.out.keys HS9.out hsa hta)
      have hb1a := below_self hb19 hba
      have HLa := Lib.hid (HL9.out.below hba)
      clear hoa hsa hta hb19 hba HL9 HT9 hca
      go_wp2_with fail
      refine (equalC_b Va V p p ca cv zs (l'.map NC.cl) wa HTa.out HLa.out (by unfold maxLen; omega) (by unfold maxLen; omega)).mono ?_
      rintro e wb ⟨rfl, hbb⟩
      rw [show decide (zs = l'.map NC.cl) = true from decide_eq_true HZ.out]
      have hb1b := below_self hb1a hbb
      have HLb := Lib.hid (HLa.out.below hbb)
      clear hb1a hbb HLa HTa HZ
      go_wp2_with fail
      refine (prTurn_any V p cv (l'.map NC.cl) wb HLb.out (by omega)).mono ?_
      rintro e wc ⟨vc, us, rfl, hoc, hsc, htc, hbc⟩
      obtain ⟨Vc, cc, rfl, hcc⟩ := own_form hoc
      have HTc := Lib.hid (Rd.of_own hoc)
      have HCK := Lib.hid (turn_check HM.out.check hsc htc HM.out.keys)
      have hb1c := below_self hb1b hbc
      clear hoc hsc htc hb1b hbc HLb hcc
      go_wp2_with fail
      refine (prCheckC_any Vc p cc us (M : Int) (N : Int) wc HTc.out (by omega)).mono ?_
      rintro e wd ⟨rfl, hbd⟩
      rw [HCK.out]
      have hb1d := below_self hb1c hbd
      clear hb1c hbd HTc
      go_wp2_with fail
      refine (awakeCl_any wd).mono ?_
      rintro e we ⟨rfl, hbe⟩
      have hb1e := below_self hb1d hbe
      go_wp2_with fail
      go_ret
      exact ⟨rfl, hb1e⟩
end Go.Proofs.Ytmgoakfnmgngoaa
