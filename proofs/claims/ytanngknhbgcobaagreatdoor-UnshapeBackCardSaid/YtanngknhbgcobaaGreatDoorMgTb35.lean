/- Texts of one claim, one behind the other. -/
import Derived.Test.YtanngknhbgcobaaGreatDoorMgTb4
import Derived.Test.YtanngknhbgcobaaGreatDoorMgTb19
import Derived.Test.YtanngknhbgcobaaGreatDoorMgTb33
import Derived.Test.YtanngknhbgcobaaGreatDoorMgTb34
/- unshape's near, walked: the alef of each lam with alef goes to its space. -/
namespace Go.Proofs.YtanngknhbgcobaaGreatDoor
open Go.RowKit

/-- Whether a code is passed over. -/
def mkB (c : Int) : Bool := accB c || decide (joinF c = 1)
set_option maxRecDepth 100000 in
set_option maxHeartbeats 1000000 in
theorem unMark_any (x : Int) (sp bp : Nat) (W : World) (hbx : W.heap[sp]? = some (.cells #[.pointer (some ⟨bp, 0, none⟩)] 26 (0, 0))) (hP : PropAt W bp) :
    Calls Tryz.prog 97 #[.int .i64 x, .pointer (some ⟨sp, 0, none⟩)] W fun e w' => e = .returned (.bool (mkB x)) ∧ Below W.heap.size W w' := by
  have c0 := hp_cell (j := 0) hbx rfl
  obtain ⟨a, ha⟩ : ∃ a, accB x = a := ⟨_, rfl⟩
  obtain ⟨v, hv⟩ : ∃ v, joinF x = v := ⟨_, rfl⟩
  obtain ⟨q, hq⟩ : ∃ q, decide (v = 1) = q := ⟨_, rfl⟩
  have gq : (v == 1) = q := by rw [← hq]; by_cases h : v = 1 <;> simp [h]
  have HA := Lib.hid (unAccent_any x a ha W)
  have HJ := Lib.hid (fun W' (h : Below W.heap.size W W') => ppJoin_any bp x v hv W' (hP.below h))
  have HM := Lib.hid (show mkB x = (a || q) by unfold mkB; rw [ha, hv, hq])
  rw [HM.out]
  clear hbx hP ha hv hq
  cases a with
  | true =>
    go_enter Tryz.func97, Tryz.ntmps97
    go_wp2_with (go_at_call 98; refine HA.out.mono ?_; rintro e w1 ⟨rfl, hb1⟩)
    go_ret
    exact ⟨rfl, hb1⟩
  | false =>
    go_enter Tryz.func97, Tryz.ntmps97
    go_wp2_with (first
      | (go_at_call 98; refine HA.out.mono ?_; rintro e w1 ⟨rfl, hb1⟩; have d0 := cell_below hb1 c0)
      | (go_at_call 99; refine (HJ.out _ hb1).mono ?_; rintro e w2 ⟨rfl, hb2⟩)
      | fail)
    go_ret
    exact ⟨rfl, below_self hb1 hb2⟩
theorem nearK_go {mk : Int → Bool} {xs : List Int} {t : Nat} {x : Int} (h : xs[t]? = some x) (hm : mk x = true) : nearK mk xs t = nearK mk xs (t + 1) := by
  unfold nearK; rw [dropCons h, List.takeWhile_cons, if_pos hm, List.length_cons]; omega
theorem nearK_stop {mk : Int → Bool} {xs : List Int} {t : Nat} {x : Int} (h : xs[t]? = some x) (hm : mk x = false) : nearK mk xs t = t := by
  unfold nearK; rw [dropCons h, List.takeWhile_cons, if_neg (by rw [hm]; simp)]; rfl
theorem nearK_end {mk : Int → Bool} {xs : List Int} {t : Nat} (h : xs.length ≤ t) : nearK mk xs t = t := by
  unfold nearK; rw [List.drop_eq_nil_of_le h]; rfl
theorem spNear_no {mk : Int → Bool} {xs : List Int} {a t : Nat} {l : List Nat} {S : St} (h : nearK mk xs (a + 1) = t) (hx : xs[t]? ≠ some 32) : spNear mk xs (a :: l) S = none := by
  rw [spNear, h, if_neg hx]
theorem spNear_yes {mk : Int → Bool} {xs : List Int} {a t : Nat} {l : List Nat} {S : St} {x : Int} (h : nearK mk xs (a + 1) = t) (hx : xs[t]? = some 32) (ha : xs[a]? = some x) : spNear mk xs (a :: l) S = spNear mk xs l (sShare S a t [1604] [(parF x).1]) := by
  have : xs.getD a 0 = x := by rw [List.getD_eq_getElem?_getD, ha]; rfl
  rw [spNear, h, if_pos hx, this]
/-- What near keeps from turn to turn. -/
structure NrAt (w00 w wr : World) (sp bp wk base b gc n c : Nat) (A : Option Addr) (xs : List Int) (S : St) : Prop where
  wk : WkAt wr wk base b gc n c A xs S
  box : wr.heap[sp]? = some (.cells #[.pointer (some ⟨bp, 0, none⟩)] 26 (0, 0))
  low : Below w00.heap.size w00 wr
  kp : Kept w wr [b, gc]
theorem NrAt.below {w00 w wr W : World} {sp bp wk base b gc n c : Nat} {A : Option Addr} {xs : List Int} {S : St} (h : NrAt w00 w wr sp bp wk base b gc n c A xs S) (hb : Below wr.heap.size wr W) : NrAt w00 w W sp bp wk base b gc n c A xs S :=
  ⟨h.wk.low hb, (hb.block _ (hp_lt h.box)).trans h.box, below_self h.low hb, h.kp.trans (Kept.of_below hb _)⟩
theorem NrAt.next {w00 w wr W : World} {sp bp wk base b gc n c : Nat} {A : Option Addr} {xs : List Int} {S S' : St} (h : NrAt w00 w wr sp bp wk base b gc n c A xs S) (hw : WkAt W wk base b gc n c A xs S') (hk : Kept wr W [b, gc]) (hs : sp ∉ [b, gc]) (hl : w00.heap.size ≤ b ∧ w00.heap.size ≤ gc) : NrAt w00 w W sp bp wk base b gc n c A xs S' :=
  ⟨hw, hk.heap h.box hs, hk.lower h.low h.low.size (by simp; omega), h.kp.trans hk⟩
set_option maxRecDepth 100000 in
set_option maxHeartbeats 4000000 in
theorem unNear_any (wk base b gc n c bp q cc : Nat) (A Cd : Option Addr) (xs : List Int) (L : List Nat) (S : St) (w00 w : World) (hW : WkAt w wk base b gc n c A xs S) (hP : PropAt w00 bp) (h00 : Below w00.heap.size w00 w) (hl : w00.heap.size ≤ b ∧ w00.heap.size ≤ gc)
    (hr : Rd w 1 Cd q ((natZ L).map (Value.int .i64))) (hcd : ∀ ad, Cd = some ad → ad.block ∉ [b, gc]) (hL : ∀ a ∈ L, a < n) (hn : n ≤ 100000) (hq : q ≤ 100000) :
    Calls Tryz.prog 65 #[.pointer (some ⟨wk, 0, none⟩), .pointer (some ⟨bp, 0, none⟩), .slice Cd q cc] w fun e w' => SpAns w' wk base b gc n c A xs (spNear mkB xs L S) e ∧ Kept w w' [b, gc] := by
  have hlen : xs.length = n := by simpa using hW.rd.len1
  have hql : L.length = q := by have := hr.1; rw [List.length_map, natZ_len] at this; omega
  have HL := Lib.hid hlen
  have HQL := Lib.hid hql
  have hbx := below_new w (.cells #[.pointer (some ⟨bp, 0, none⟩)] 26)
  have hlt := hW.sat.lt
  have hN : NrAt w00 w (w.alloc (.cells #[.pointer (some ⟨bp, 0, none⟩)] 26)) w.heap.size bp wk base b gc n c A xs S := ⟨hW.low hbx, heap_alloc_new _ _, below_self h00 hbx, Kept.of_below hbx _⟩
  have HSP := Lib.hid (show w.heap.size ∉ [b, gc] by simp; omega)
  have HN := Lib.hid hN
  have HP := Lib.hid hP
  have HLo := Lib.hid hl
  have HR := Lib.hid (hr.below hbx)
  have HCD := Lib.hid hcd
  have HLL := Lib.hid hL
  obtain ⟨w1, hw1⟩ : ∃ w1, w.alloc (.cells #[.pointer (some ⟨bp, 0, none⟩)] 26) = w1 := ⟨_, rfl⟩
  obtain ⟨sp, hsp⟩ : ∃ sp, w.heap.size = sp := ⟨_, rfl⟩
  rw [hw1, hsp] at HN
  rw [hw1] at HR
  rw [hsp] at HSP
  clear hW hP h00 hl hr hcd hL hlen hql hbx hlt hN
  go_enter Tryz.func65, Tryz.ntmps65
  go_wp2_with fail
  try simp only [hw1, hsp]
  clear hw1 hsp
  go_loopw [17] (fun i wr => ∃ (j : Nat) (S' : St), j ≤ q ∧ i = .int .i64 (j : Int) ∧ spNear mkB xs L S = spNear mkB xs (L.drop j) S' ∧ NrAt w00 w wr sp bp wk base b gc n c A xs S' ∧ Rd wr 1 Cd q ((natZ L).map (Value.int .i64))) (fun i _ => q - (intOf i).toNat)
  case atStart => exact ⟨0, S, Nat.zero_le _, rfl, rfl, HN.out, HR.out⟩
  case round =>
    obtain ⟨j, S', hj, rfl, hS, hN, hrd⟩ := hrel
    have HS := Lib.hid hS
    have HNr := Lib.hid hN
    have HRd := Lib.hid hrd
    clear hS
    by_cases hlt : j < q
    · obtain ⟨a, hak⟩ : ∃ a, L[j]? = some a := ⟨_, List.getElem?_eq_getElem (by rw [HQL.out]; exact hlt)⟩
      obtain ⟨ad, rfl, _, hc⟩ := hrd.at_ hlt
      have ca : wr.cell? (ad.add j) = some (.int .i64 (a : Int)) := hc _ (by rw [List.getElem?_map]; simp [natZ, hak])
      have han := HLL.out a (List.mem_of_getElem? hak)
      have HD := Lib.hid (dropCons hak)
      clear hc hak hN hrd
      go_wp2_with fail
      go_loopw [10] (fun i wt => ∃ t : Nat, a + 1 ≤ t ∧ t ≤ n ∧ i = .int .i64 (t : Int) ∧ nearK mkB xs (a + 1) = nearK mkB xs t ∧ Below wr.heap.size wr wt) (fun i _ => n - (intOf i).toNat)
      case atStart => exact ⟨a + 1, Nat.le_refl _, by omega, by go_num, rfl, Below.refl _ _⟩
      case round =>
        obtain ⟨t, hat, htn, rfl, hK, hb⟩ := hrel
        have HK := Lib.hid hK
        have hN1 := HNr.out.below hb
        have HN1 := Lib.hid hN1
        have HRt := Lib.hid (HRd.out.below hb)
        have HB := Lib.hid hb
        have c1 := hN1.wk.c1
        have ht0 : (0 : Int) ≤ (t : Int) := by omega
        clear hK hb
        by_cases htl : t < n
        · obtain ⟨x, hxt⟩ : ∃ x, xs[t]? = some x := ⟨_, List.getElem?_eq_getElem (by rw [HL.out]; exact htl)⟩
          obtain ⟨y, hya⟩ : ∃ y, xs[a]? = some y := ⟨_, List.getElem?_eq_getElem (by rw [HL.out]; exact han)⟩
          obtain ⟨at_, rfl, _, hct⟩ := hN1.wk.rd.at_ htl
          have cx : wr.cell? (at_.add t) = some (.int .i64 x) := hct _ (by rw [List.getElem?_map, hxt]; rfl)
          have cy : wr.cell? (at_.add a) = some (.int .i64 y) := hN1.wk.rd.news a _ (by rw [List.getElem?_map, hya]; rfl)
          have HM := Lib.hid (unMark_any x sp bp wr hN1.box (HP.out.below hN1.low))
          obtain ⟨m, hm⟩ : ∃ m, mkB x = m := ⟨_, rfl⟩
          rw [hm] at HM
          have HX := Lib.hid hxt
          have HY := Lib.hid hya
          have HMK := Lib.hid hm
          have hti : (t : Int) < (n : Int) := by omega
          have hai : (a : Int) < (n : Int) := by omega
          have ha0 : (0 : Int) ≤ (a : Int) := by omega
          clear hct hxt hya hN1 hm
          cases m with
          | true =>
            have HG := Lib.hid (nearK_go HX.out HMK.out)
            go_wp2_with (go_at_call 97; refine HM.out.mono ?_; rintro e w4 ⟨rfl, hb4⟩)
            go_roundw
            case rel => exact ⟨t + 1, by omega, by omega, by go_num, HK.out.trans HG.out, below_self HB.out hb4⟩
            case measure => simp [intOf]; omega
          | false =>
            have HG := Lib.hid (HK.out.trans (nearK_stop HX.out HMK.out))
            by_cases h32 : x = 32
            · subst h32
              have HYE := Lib.hid (spNear_yes (l := L.drop (j + 1)) (S := S') HG.out HX.out HY.out)
              obtain ⟨px, pq, pok, hpar⟩ : ∃ x q ok, parF y = (x, q, ok) := ⟨_, _, _, rfl⟩
              have HPA := Lib.hid (fun W => fmParted_any y px pq pok hpar W)
              rw [hpar] at HYE
              clear hpar
              go_wp2_with (first
                | (go_at_call 97; refine HM.out.mono ?_; rintro e w4 ⟨rfl, hb4⟩; have c14 := cell_below hb4 c1; have cx4 := cell_below hb4 cx; have cy4 := cell_below hb4 cy)
                | fail)
              refine (HPA.out _).mono ?_
              rintro e w5 ⟨rfl, hb5⟩
              have hN5 := HN1.out.below (below_self hb4 hb5)
              have hbn := below_new w5 (.cells #[.int .i64 px] 3)
              have hN6 := hN5.below hbn
              have HSH := Lib.hid (unShare_any wk base b gc n c a t 1 1 (some at_) (some ⟨w5.heap.size, 0, none⟩) xs [px] 1604 S' _ hN6.wk (by omega) htl (rdOne w5 px 3) (by omega) (fun ad' e => by
                have hlt5 := hN5.wk.sat.lt
                cases e
                simp
                omega) hn)
              have HN6 := Lib.hid hN6
              have HR6 := Lib.hid ((HRt.out.below (below_self hb4 hb5)).below hbn)
              clear hb4 hb5 hN5 hbn hN6 c1 cx cy c14 cx4 cy4
              go_wp2_with fail
              refine HSH.out.mono ?_
              rintro e w6 ⟨rfl, hW6, hk6⟩
              have HN7 := Lib.hid (HN6.out.next hW6 hk6 HSP.out HLo.out)
              have HR7 := Lib.hid (rd_kept HR6.out hk6 HCD.out)
              clear hW6 hk6
              go_wp2_with fail
              go_roundw
              case rel => exact ⟨j + 1, _, by omega, by go_num, by rw [HS.out, HD.out]; exact HYE.out, HN7.out, HR7.out⟩
              case measure => simp [intOf]; omega
            · have HNO := Lib.hid (spNear_no (l := L.drop (j + 1)) (S := S') HG.out (by rw [HX.out]; simpa using h32))
              have g1 : (x != 32) = true := by simp [h32]
              clear h32
              go_wp2_with (first
                | (go_at_call 97; refine HM.out.mono ?_; rintro e w4 ⟨rfl, hb4⟩; have c14 := cell_below hb4 c1; have cx4 := cell_below hb4 cx)
                | fail)
              go_ret
              exact ⟨.inl ⟨by rw [HS.out, HD.out, HNO.out], rfl⟩, HNr.out.kp.trans (Kept.of_below (below_self HB.out hb4) _)⟩
        · have htn' : t = n := by omega
          subst htn'
          have HG := Lib.hid (HK.out.trans (nearK_end (by rw [HL.out]; exact Nat.le_refl _)))
          have HNO := Lib.hid (spNear_no (l := L.drop (j + 1)) (S := S') HG.out (by rw [List.getElem?_eq_none (by rw [HL.out]; exact Nat.le_refl _)]; simp))
          clear hN1
          go_wp2_with fail
          go_ret
          exact ⟨.inl ⟨by rw [HS.out, HD.out, HNO.out], rfl⟩, HNr.out.kp.trans (Kept.of_below HB.out _)⟩
    · have hjq : j = q := by omega
      have HE := Lib.hid (show spNear mkB xs L S = some S' by rw [HS.out, List.drop_eq_nil_of_le (by rw [HQL.out]; omega)]; rfl)
      clear hN hrd
      go_wp2_with fail
      go_ret
      exact ⟨.inr ⟨S', HE.out, rfl, HNr.out.wk⟩, HNr.out.kp⟩
end Go.Proofs.YtanngknhbgcobaaGreatDoor
/- unshape's spaces, walked. -/
namespace Go.Proofs.YtanngknhbgcobaaGreatDoor
open Go.RowKit

theorem sp_near (mk : Int → Bool) (xs : List Int) (S : St) : spacesS mk xs 2 S = spNear mk xs (ligsL xs) S := if_pos rfl
theorem sp_end (mk : Int → Bool) (xs : List Int) (S : St) : spacesS mk xs 4 S = spClear xs (ligsL xs).length (xs.length - (ligsL xs).length) S := (if_neg (by decide)).trans (if_pos rfl)
theorem sp_begin (mk : Int → Bool) (xs : List Int) (S : St) : spacesS mk xs 3 S = spClear xs (ligsL xs).length 0 S := (if_neg (by decide)).trans ((if_neg (by decide)).trans (if_pos rfl))
theorem sp_else {mk : Int → Bool} {xs : List Int} {la : Int} {S : St} (h2 : la ≠ 2) (h3 : la ≠ 3) (h4 : la ≠ 4) : spacesS mk xs la S = some S := (if_neg h2).trans ((if_neg h4).trans (if_neg h3))
set_option maxRecDepth 100000 in
set_option maxHeartbeats 4000000 in
theorem unSpaces_any (wk base b gc n c bp : Nat) (A : Option Addr) (xs : List Int) (la : Int) (S : St) (w00 w : World) (hW : WkAt w wk base b gc n c A xs S) (hP : PropAt w00 bp) (h00 : Below w00.heap.size w00 w) (hl : w00.heap.size ≤ b ∧ w00.heap.size ≤ gc) (hn : n ≤ 100000) :
    Calls Tryz.prog 30 #[.pointer (some ⟨wk, 0, none⟩), .pointer (some ⟨bp, 0, none⟩), .int .i64 la] w fun e w' => SpAns w' wk base b gc n c A xs (spacesS mkB xs la S) e ∧ Kept w w' [b, gc] := by
  have hlen : xs.length = n := by simpa using hW.rd.len1
  have HL := Lib.hid hlen
  have HW := Lib.hid hW
  have HG := Lib.hid (unLigs_any A n c xs w hW.rd hn)
  have c1 := hW.c1
  have H00 := Lib.hid h00
  have HP := Lib.hid hP
  have HLo := Lib.hid hl
  have hq := ligs_le xs xs.length
  rw [hlen] at hq
  have HLL := Lib.hid (fun a (h : a ∈ ligsL xs) => ligs_lt h)
  rw [hlen] at HLL
  have hE4 := sp_end mkB xs S
  have hE3 := sp_begin mkB xs S
  rw [hlen] at hE4
  obtain ⟨L, hL⟩ : ∃ L, ligsL xs = L := ⟨_, rfl⟩
  have hq' : (ligsL xs).length ≤ n := by have : ligsL xs = ligsTo xs xs.length := rfl; rw [this, hlen]; exact hq
  have hE2 := sp_near mkB xs S
  rw [hL] at HG HLL hq' hE4 hE3 hE2
  have HE4 := Lib.hid hE4
  have HE3 := Lib.hid hE3
  have HE2 := Lib.hid hE2
  obtain ⟨q, hqq⟩ : ∃ q, L.length = q := ⟨_, rfl⟩
  rw [hqq] at HG hq'
  have HQ := Lib.hid hqq
  clear hW hP h00 hl hq hlen hE4 hE3 hE2 hL hqq
  go_enter Tryz.func30, Tryz.ntmps30
  go_wp2_with fail
  refine HG.out.mono ?_
  rintro e w1 ⟨⟨v, rfl, hown⟩, hb1⟩
  obtain ⟨V, cv, rfl, hcv⟩ := own_form hown
  have hW1 := HW.out.low hb1
  have d1 := hW1.c1
  have HW1 := Lib.hid hW1
  have HB1 := Lib.hid hb1
  have HR1 := Lib.hid (Rd.of_own hown)
  have HV := Lib.hid (show ∀ ad, V = some ad → ad.block ∉ [b, gc] from fun ad e => by
    subst e
    have h1 : w.heap.size ≤ ad.block := (hown.lt ad.block rfl).1
    have h2 := HW.out.sat.lt
    simp
    omega)
  clear hown hb1 hW1 c1
  by_cases h2 : la = 2
  · subst h2
    have HN := Lib.hid (unNear_any wk base b gc n c bp q cv A V xs L S w00 w1 HW1.out HP.out (below_self H00.out HB1.out) HLo.out HR1.out HV.out HLL.out hn (by omega))
    go_wp2_with fail
    refine HN.out.mono ?_
    rintro e w2 ⟨hA, hk2⟩
    have HA := Lib.hid hA
    have HK := Lib.hid ((Kept.of_below HB1.out _).trans hk2)
    obtain ⟨er, rfl⟩ : ∃ er, e = .returned (.int .i64 er) := by
      rcases hA with ⟨_, h⟩ | ⟨_, _, h, _⟩
      · exact ⟨_, h⟩
      · exact ⟨_, h⟩
    clear hA hk2
    go_wp2_with fail
    go_ret
    rw [HE2.out]
    exact ⟨HA.out, HK.out⟩
  · have g2 : (la == 2) = false := by simp [h2]
    by_cases h4 : la = 4
    · subst h4
      have HN := Lib.hid (unClear_any wk base b gc n c (n - q) q A xs S w1 HW1.out (by omega) hn)
      have hnq : ((n - q : Nat) : Int) = (n : Int) - (q : Int) := by omega
      rw [hnq] at HN
      clear hnq
      go_wp2_with fail
      refine HN.out.mono ?_
      rintro e w2 ⟨hA, hk2⟩
      have HA := Lib.hid hA
      have HK := Lib.hid ((Kept.of_below HB1.out _).trans hk2)
      obtain ⟨er, rfl⟩ : ∃ er, e = .returned (.int .i64 er) := by
        rcases hA with ⟨_, h⟩ | ⟨_, _, h, _⟩
        · exact ⟨_, h⟩
        · exact ⟨_, h⟩
      clear hA hk2
      go_wp2_with fail
      go_ret
      rw [HE4.out, HQ.out]
      exact ⟨HA.out, HK.out⟩
    · have g4 : (la == 4) = false := by simp [h4]
      by_cases h3 : la = 3
      · subst h3
        have HN := Lib.hid (unClear_any wk base b gc n c 0 q A xs S w1 HW1.out (by omega) hn)
        go_wp2_with fail
        refine HN.out.mono ?_
        rintro e w2 ⟨hA, hk2⟩
        have HA := Lib.hid hA
        have HK := Lib.hid ((Kept.of_below HB1.out _).trans hk2)
        obtain ⟨er, rfl⟩ : ∃ er, e = .returned (.int .i64 er) := by
          rcases hA with ⟨_, h⟩ | ⟨_, _, h, _⟩
          · exact ⟨_, h⟩
          · exact ⟨_, h⟩
        clear hA hk2
        go_wp2_with fail
        go_ret
        rw [HE3.out, HQ.out]
        exact ⟨HA.out, HK.out⟩
      · have g3 : (la == 3) = false := by simp [h3]
        have HE := Lib.hid (sp_else (mk := mkB) (xs := xs) (S := S) h2 h3 h4)
        clear h2 h3 h4
        go_wp2_with fail
        go_ret
        exact ⟨.inr ⟨S, HE.out, rfl, HW1.out⟩, Kept.of_below HB1.out _⟩
end Go.Proofs.YtanngknhbgcobaaGreatDoor
/- Forms taken back, as mathematics: the cells of a whole text. -/
namespace Go.Proofs.YtanngknhbgcobaaGreatDoor
open Go.RowKit

theorem small_tl (s y : Bool) : ∀ (xs : List Int) (k n : Nat) (S : St), Small n S → k + xs.length ≤ n → Small n (tlS s y xs k S)
  | [], _, _, _, h, _ => h
  | [_], _, _, _, h, _ => h
  | a :: b :: xs, k, n, S, h, hk => by
    rw [tlS]
    simp only [List.length_cons] at hk
    split
    · exact small_tl s y xs (k + 2) n _ (h.share (by omega) (by omega) (by simp) (by simp)) (by omega)
    · exact small_tl s y (b :: xs) (k + 1) n S h (by simp only [List.length_cons]; omega)
theorem small_near (mk : Int → Bool) (xs : List Int) : ∀ (l : List Nat) (S S' : St), Small xs.length S → (∀ a ∈ l, a < xs.length) → spNear mk xs l S = some S' → Small xs.length S'
  | [], S, S', h, _, e => by
    obtain rfl := Option.some.inj e
    exact h
  | a :: l, S, S', h, ha, e => by
    rw [spNear] at e
    split at e
    · rename_i hx
      have hlt := (List.getElem?_eq_some_iff.1 hx).1
      exact small_near mk xs l _ S' (h.share (ha a (by simp)) hlt (by simp) (by simp)) (fun b hb => ha b (by simp [hb])) e
    · cases e
theorem small_clear (xs : List Int) : ∀ (m f : Nat) (S S' : St), Small xs.length S → spClear xs m f S = some S' → Small xs.length S'
  | 0, _, S, S', h, e => by
    obtain rfl := Option.some.inj e
    exact h
  | m + 1, f, S, S', h, e => by
    rw [spClear] at e
    split at e
    · rename_i hx
      have hlt := (List.getElem?_eq_some_iff.1 hx).1
      exact small_clear xs m (f + 1) _ S' (h.set hlt (by simp)) e
    · cases e
/-- The cells of a text, its forms taken back by options; none: a space is not there. -/
def unS (xs : List Int) (o : Opt) : Option St := spacesS mkB xs o.l (tlS o.b4 o.b5 xs 0 (stOf (becL o.b1 o.l) xs))
theorem unS_small {xs : List Int} {o : Opt} {S : St} (h : unS xs o = some S) : Small xs.length S := by
  have h0 := Small.of (becL o.b1 o.l) xs fun c => (bec_len _ _ c).2
  have h1 := small_tl o.b4 o.b5 xs 0 xs.length _ h0 (by omega)
  unfold unS spacesS at h
  split at h
  · exact small_near mkB xs _ _ S h1 (fun a ha => ligs_lt ha) h
  · split at h
    · exact small_clear xs _ _ _ S h1 h
    · split at h
      · exact small_clear xs _ _ _ S h1 h
      · obtain rfl := Option.some.inj h
        exact h1
theorem told_all {R : List RC} {n : Nat} (h : R.length = n) : toldR R [] 0 n = codesS (R.map Prod.snd) := by
  unfold toldR partR codesR codesS
  rw [if_pos rfl, List.drop_zero, Nat.sub_zero, List.take_of_length_le (by omega), List.flatMap_map]
  rfl
theorem cnt_all {R : List RC} {n : Nat} (h : R.length = n) : cntR R [] 0 n = (codesS (R.map Prod.snd)).length := by rw [← toldR_len, told_all h]
theorem lenR_all (R : List RC) : lenR R = (codesS (R.map Prod.snd)).length := by
  rw [← lenR_codes]
  unfold codesR codesS
  rw [List.flatMap_map]
/-- What becomes of cells: their text and their clusters. -/
def ClAns (w w' : World) (n : Nat) (S : St) (e : Ending) : Prop :=
  (n = 0 ∧ e = .returned (.tuple #[.slice none 0 0, .slice none 0 0, .int .i64 0])) ∨
  (0 < n ∧ codesS S = [] ∧ e = .returned (.tuple #[.slice none 0 0, .slice none 0 0, .int .i64 8])) ∨
  (0 < n ∧ codesS S ≠ [] ∧ ∃ (v u : Value) (l' : List NC) (R : List RC), e = .returned (.tuple #[v, u, .int .i64 0]) ∧ R.map Prod.snd = S ∧ FinIs n (codesS S).length (linksR n R []) l' ∧
    w'.ownsRow w.heap.size 3 1 v (codesS S).length ((codesS S).map (Value.int .i64)) ∧ w'.ownsRow w.heap.size 41 4 u l'.length (cellsC (l'.map NC.cl)))
/-- What Unshape answers. -/
def UnAns (w w' : World) (xs : List Int) (o : Opt) (e : Ending) : Prop :=
  (o.err ≠ 0 ∧ e = .returned (.tuple #[.slice none 0 0, .slice none 0 0, .int .i64 o.err])) ∨
  (o.err = 0 ∧ unS xs o = none ∧ e = .returned (.tuple #[.slice none 0 0, .slice none 0 0, .int .i64 9])) ∨
  (o.err = 0 ∧ ∃ S, unS xs o = some S ∧ ClAns w w' xs.length S e)
end Go.Proofs.YtanngknhbgcobaaGreatDoor
