/- Texts of one claim, one behind the other. -/
import Derived.Test.YtcbiaeeifclieaaGreatDoorMgM4
import Derived.Test.YtcbiaeeifclieaaGreatDoorMgM7
import Derived.Test.YtcbiaeeifclieaaGreatDoorMgM18
import Derived.Test.YtcbiaeeifclieaaGreatDoorMgM20
import Derived.Test.YtcbiaeeifclieaaGreatDoorMgM32
import Derived.Test.YtcbiaeeifclieaaGreatDoorMgM34
/- unshape's near, walked: the alef of each lam with alef goes to its space. -/
namespace Go.Proofs.YtcbiaeeifclieaaGreatDoor
open Go.RowKit

/-- Whether a code is passed over. -/
def mkB (c : Int) : Bool := accB c || decide (joinF c = 1)
set_option maxRecDepth 100000 in
set_option maxHeartbeats 1000000 in
theorem unMark_any (x : Int) (sp bp : Nat) (W : World) (hbx : W.heap[sp]? = some (.cells #[.pointer (some ⟨bp, 0, none⟩)] 26 (0, 0))) (hP : PropAt W bp) :
    Calls Tryz.prog 66 #[.int .i64 x, .pointer (some ⟨sp, 0, none⟩)] W fun e w' => e = .returned (.bool (mkB x)) ∧ Below W.heap.size W w' := by
  have c0 := hp_cell (j := 0) hbx rfl
  obtain ⟨a, ha⟩ : ∃ a, accB x = a := ⟨_, rfl⟩
  obtain ⟨v, hv⟩ : ∃ v, joinF x = v := ⟨_, rfl⟩
  obtain ⟨q, hq⟩ : ∃ q, decide (v = 1) = q := ⟨_, rfl⟩
  have gq : (v == 1) = q := by rw [← hq]; by_cases h : v = 1 <;> simp [h]
  have HA := Lib.hid (unAccent_any x a ha W)
  have HJ := Lib.hid (fun W' (h : Below W.heap.size W W') => ppJoin_any bp x v hv W' (hP.below h))
  have HM := Lib.hid (show mkB x = (a || q) by unfold mkB; rw [ha, hv, hq])
  rw [HM.out]
  clear hbx hP ha hv hq
  cases a with
  | true =>
    go_enter Tryz.func66, Tryz.ntmps66
    go_wp2_with (go_at_call 67; refine HA.out.mono ?_; rintro e w1 ⟨rfl, hb1⟩)
    go_ret
    exact ⟨rfl, hb1⟩
  | false =>
    go_enter Tryz.func66, Tryz.ntmps66
    go_wp2_with (first
      | (go_at_call 67; refine HA.out.mono ?_; rintro e w1 ⟨rfl, hb1⟩; have d0 := cell_below hb1 c0)
      | (go_at_call 68; refine (HJ.out _ hb1).mono ?_; rintro e w2 ⟨rfl, hb2⟩)
      | fail)
    go_ret
    exact ⟨rfl, below_self hb1 hb2⟩
theorem nearK_go {mk : Int → Bool} {xs : List Int} {t : Nat} {x : Int} (h : xs[t]? = some x) (hm : mk x = true) : nearK mk xs t = nearK mk xs (t + 1) := by
  unfold nearK; rw [dropCons h, List.takeWhile_cons, if_pos hm, List.length_cons]; omega
theorem nearK_stop {mk : Int → Bool} {xs : List Int} {t : Nat} {x : Int} (h : xs[t]? = some x) (hm : mk x = false) : nearK mk xs t = t := by
  unfold nearK; rw [dropCons h, List.takeWhile_cons, if_neg (by rw [hm]; simp)]; rfl
theorem nearK_end {mk : Int → Bool} {xs : List Int} {t : Nat} (h : xs.length ≤ t) : nearK mk xs t = t := by
  unfold nearK; rw [List.drop_eq_nil_of_le h]; rfl
theorem spNear_no {mk : Int → Bool} {xs : List Int} {a t : Nat} {l : List Nat} {S : St} (h : nearK mk xs (a + 1) = t) (hx : xs[t]? ≠ some 32) : spNear mk xs (a :: l) S = none := by
  rw [spNear, h, if_neg hx]
theorem spNear_yes {mk : Int → Bool} {xs : List Int} {a t : Nat} {l : List Nat} {S : St} {x : Int} (h : nearK mk xs (a + 1) = t) (hx : xs[t]? = some 32) (ha : xs[a]? = some x) : spNear mk xs (a :: l) S = spNear mk xs l (sShare S a t [1604] [(parF x).1]) := by
  have : xs.getD a 0 = x := by rw [List.getD_eq_getElem?_getD, ha]; rfl
  rw [spNear, h, if_pos hx, this]
/-- What near keeps from turn to turn. -/
structure NrAt (w00 w wr : World) (sp bp wk base b gc n c : Nat) (A : Option Addr) (xs : List Int) (S : St) : Prop where
  wk : WkAt wr wk base b gc n c A xs S
  box : wr.heap[sp]? = some (.cells #[.pointer (some ⟨bp, 0, none⟩)] 26 (0, 0))
  low : Below w00.heap.size w00 wr
  kp : Kept w wr [b, gc]
theorem NrAt.below {w00 w wr W : World} {sp bp wk base b gc n c : Nat} {A : Option Addr} {xs : List Int} {S : St} (h : NrAt w00 w wr sp bp wk base b gc n c A xs S) (hb : Below wr.heap.size wr W) : NrAt w00 w W sp bp wk base b gc n c A xs S :=
  ⟨h.wk.low hb, (hb.block _ (hp_lt h.box)).trans h.box, below_self h.low hb, h.kp.trans (Kept.of_below hb _)⟩
theorem NrAt.next {w00 w wr W : World} {sp bp wk base b gc n c : Nat} {A : Option Addr} {xs : List Int} {S S' : St} (h : NrAt w00 w wr sp bp wk base b gc n c A xs S) (hw : WkAt W wk base b gc n c A xs S') (hk : Kept wr W [b, gc]) (hs : sp ∉ [b, gc]) (hl : w00.heap.size ≤ b ∧ w00.heap.size ≤ gc) : NrAt w00 w W sp bp wk base b gc n c A xs S' :=
  ⟨hw, hk.heap h.box hs, hk.lower h.low h.low.size (by simp; omega), h.kp.trans hk⟩
set_option maxRecDepth 100000 in
set_option maxHeartbeats 4000000 in
theorem unNear_any (wk base b gc n c bp q cc : Nat) (A Cd : Option Addr) (xs : List Int) (L : List Nat) (S : St) (w00 w : World) (hW : WkAt w wk base b gc n c A xs S) (hP : PropAt w00 bp) (h00 : Below w00.heap.size w00 w) (hl : w00.heap.size ≤ b ∧ w00.heap.size ≤ gc)
    (hr : Rd w 1 Cd q ((natZ L).map (Value.int .i64))) (hcd : ∀ ad, Cd = some ad → ad.block ∉ [b, gc]) (hL : ∀ a ∈ L, a < n) (hn : n ≤ 100000) (hq : q ≤ 100000) :
    Calls Tryz.prog 39 #[.pointer (some ⟨wk, 0, none⟩), .pointer (some ⟨bp, 0, none⟩), .slice Cd q cc] w fun e w' => SpAns w' wk base b gc n c A xs (spNear mkB xs L S) e ∧ Kept w w' [b, gc] := by
  have hlen : xs.length = n := by simpa using hW.rd.len1
  have hql : L.length = q := by have := hr.1; rw [List.length_map, natZ_len] at this; omega
  have HL := Lib.hid hlen
  have HQL := Lib.hid hql
  have hbx := below_new w (.cells #[.pointer (some ⟨bp, 0, none⟩)] 26)
  have hlt := hW.sat.lt
  have hN : NrAt w00 w (w.alloc (.cells #[.pointer (some ⟨bp, 0, none⟩)] 26)) w.heap.size bp wk base b gc n c A xs S := ⟨hW.low hbx, heap_alloc_new _ _, below_self h00 hbx, Kept.of_below hbx _⟩
  have HSP := Lib.hid (show w.heap.size ∉ [b, gc] by simp; omega)
  have HN := Lib.hid hN
  have HP := Lib.hid hP
  have HLo := Lib.hid hl
  have HR := Lib.hid (hr.below hbx)
  have HCD := Lib.hid hcd
  have HLL := Lib.hid hL
  obtain ⟨w1, hw1⟩ : ∃ w1, w.alloc (.cells #[.pointer (some ⟨bp, 0, none⟩)] 26) = w1 := ⟨_, rfl⟩
  obtain ⟨sp, hsp⟩ : ∃ sp, w.heap.size = sp := ⟨_, rfl⟩
  rw [hw1, hsp] at HN
  rw [hw1] at HR
  rw [hsp] at HSP
  clear hW hP h00 hl hr hcd hL hlen hql hbx hlt hN
  go_enter Tryz.func39, Tryz.ntmps39
  go_wp2_with fail
  try simp only [hw1, hsp]
  clear hw1 hsp
  go_loopw [17] (fun i wr => ∃ (j : Nat) (S' : St), j ≤ q ∧ i = .int .i64 (j : Int) ∧ spNear mkB xs L S = spNear mkB xs (L.drop j) S' ∧ NrAt w00 w wr sp bp wk base b gc n c A xs S' ∧ Rd wr 1 Cd q ((natZ L).map (Value.int .i64))) (fun i _ => q - (intOf i).toNat)
  case atStart => exact ⟨0, S, Nat.zero_le _, rfl, rfl, HN.out, HR.out⟩
  case round =>
    obtain ⟨j, S', hj, rfl, hS, hN, hrd⟩ := hrel
    have HS := Lib.hid hS
    have HNr := Lib.hid hN
    have HRd := Lib.hid hrd
    clear hS
    by_cases hlt : j < q
    · obtain ⟨a, hak⟩ : ∃ a, L[j]? = some a := ⟨_, List.getElem?_eq_getElem (by rw [HQL.out]; exact hlt)⟩
      obtain ⟨ad, rfl, _, hc⟩ := hrd.at_ hlt
      have ca : wr.cell? (ad.add j) = some (.int .i64 (a : Int)) := hc _ (by rw [List.getElem?_map]; simp [natZ, hak])
      have han := HLL.out a (List.mem_of_getElem? hak)
      have HD := Lib.hid (dropCons hak)
      clear hc hak hN hrd
      go_wp2_with fail
      go_loopw [10] (fun i wt => ∃ t : Nat, a + 1 ≤ t ∧ t ≤ n ∧ i = .int .i64 (t : Int) ∧ nearK mkB xs (a + 1) = nearK mkB xs t ∧ Below wr.heap.size wr wt) (fun i _ => n - (intOf i).toNat)
      case atStart => exact ⟨a + 1, Nat.le_refl _, by omega, by go_num, rfl, Below.refl _ _⟩
      case round =>
        obtain ⟨t, hat, htn, rfl, hK, hb⟩ := hrel
        have HK := Lib.hid hK
        have hN1 := HNr.out.below hb
        have HN1 := Lib.hid hN1
        have HRt := Lib.hid (HRd.out.below hb)
        have HB := Lib.hid hb
        have c1 := hN1.wk.c1
        have ht0 : (0 : Int) ≤ (t : Int) := by omega
        clear hK hb
        by_cases htl : t < n
        · obtain ⟨x, hxt⟩ : ∃ x, xs[t]? = some x := ⟨_, List.getElem?_eq_getElem (by rw [HL.out]; exact htl)⟩
          obtain ⟨y, hya⟩ : ∃ y, xs[a]? = some y := ⟨_, List.getElem?_eq_getElem (by rw [HL.out]; exact han)⟩
          obtain ⟨at_, rfl, _, hct⟩ := hN1.wk.rd.at_ htl
          have cx : wr.cell? (at_.add t) = some (.int .i64 x) := hct _ (by rw [List.getElem?_map, hxt]; rfl)
          have cy : wr.cell? (at_.add a) = some (.int .i64 y) := hN1.wk.rd.news a _ (by rw [List.getElem?_map, hya]; rfl)
          have HM := Lib.hid (unMark_any x sp bp wr hN1.box (HP.out.below hN1.low))
          obtain ⟨m, hm⟩ : ∃ m, mkB x = m := ⟨_, rfl⟩
          rw [hm] at HM
          have HX := Lib.hid hxt
          have HY := Lib.hid hya
          have HMK := Lib.hid hm
          have hti : (t : Int) < (n : Int) := by omega
          have hai : (a : Int) < (n : Int) := by omega
          have ha0 : (0 : Int) ≤ (a : Int) := by omega
          clear hct hxt hya hN1 hm
          cases m with
          | true =>
            have HG := Lib.hid (nearK_go HX.out HMK.out)
            go_wp2_with (go_at_call 66; refine HM.out.mono ?_; rintro e w4 ⟨rfl, hb4⟩)
            go_roundw
            case rel => exact ⟨t + 1, by omega, by omega, by go_num, HK.out.trans HG.out, below_self HB.out hb4⟩
            case measure => simp [intOf]; omega
          | false =>
            have HG := Lib.hid (HK.out.trans (nearK_stop HX.out HMK.out))
            by_cases h32 : x = 32
            · subst h32
              have HYE := Lib.hid (spNear_yes (l := L.drop (j + 1)) (S := S') HG.out HX.out HY.out)
              obtain ⟨px, pq, pok, hpar⟩ : ∃ x q ok, parF y = (x, q, ok) := ⟨_, _, _, rfl⟩
              have HPA := Lib.hid (fun W => fmParted_any y px pq pok hpar W)
              rw [hpar] at HYE
              clear hpar
              go_wp2_with (first
                | (go_at_call 66; refine HM.out.mono ?_; rintro e w4 ⟨rfl, hb4⟩; have c14 := cell_below hb4 c1; have cx4 := cell_below hb4 cx; have cy4 := cell_below hb4 cy)
                | fail)
              refine (HPA.out _).mono ?_
              rintro e w5 ⟨rfl, hb5⟩
              have hN5 := HN1.out.below (below_self hb4 hb5)
              have hbn := below_new w5 (.cells #[.int .i64 px] 3)
              have hN6 := hN5.below hbn
              have HSH := Lib.hid (unShare_any wk base b gc n c a t 1 1 (some at_) (some ⟨w5.heap.size, 0, none⟩) xs [px] 1604 S' _ hN6.wk (by omega) htl (rdOne w5 px 3) (by omega) (fun ad' e => by
                have hlt5 := hN5.wk.sat.lt
                cases e
                simp
                omega) hn)
              have HN6 := Lib.hid hN6
              have HR6 := Lib.hid ((HRt.out.below (below_self hb4 hb5)).below hbn)
              clear hb4 hb5 hN5 hbn hN6 c1 cx cy c14 cx4 cy4
              go_wp2_with fail
              refine HSH.out.mono ?_
              rintro e w6 ⟨rfl, hW6, hk6⟩
              have HN7 := Lib.hid (HN6.out.next hW6 hk6 HSP.out HLo.out)
              have HR7 := Lib.hid (rd_kept HR6.out hk6 HCD.out)
              clear hW6 hk6
              go_wp2_with fail
              go_roundw
              case rel => exact ⟨j + 1, _, by omega, by go_num, by rw [HS.out, HD.out]; exact HYE.out, HN7.out, HR7.out⟩
              case measure => simp [intOf]; omega
            · have HNO := Lib.hid (spNear_no (l := L.drop (j + 1)) (S := S') HG.out (by rw [HX.out]; simpa using h32))
              have g1 : (x != 32) = true := by simp [h32]
              clear h32
              go_wp2_with (first
                | (go_at_call 66; refine HM.out.mono ?_; rintro e w4 ⟨rfl, hb4⟩; have c14 := cell_below hb4 c1; have cx4 := cell_below hb4 cx)
                | fail)
              go_ret
              exact ⟨.inl ⟨by rw [HS.out, HD.out, HNO.out], rfl⟩, HNr.out.kp.trans (Kept.of_below (below_self HB.out hb4) _)⟩
        · have htn' : t = n := by omega
          subst htn'
          have HG := Lib.hid (HK.out.trans (nearK_end (by rw [HL.out]; exact Nat.le_refl _)))
          have HNO := Lib.hid (spNear_no (l := L.drop (j + 1)) (S := S') HG.out (by rw [List.getElem?_eq_none (by rw [HL.out]; exact Nat.le_refl _)]; simp))
          clear hN1
          go_wp2_with fail
          go_ret
          exact ⟨.inl ⟨by rw [HS.out, HD.out, HNO.out], rfl⟩, HNr.out.kp.trans (Kept.of_below HB.out _)⟩
    · have hjq : j = q := by omega
      have HE := Lib.hid (show spNear mkB xs L S = some S' by rw [HS.out, List.drop_eq_nil_of_le (by rw [HQL.out]; omega)]; rfl)
      clear hN hrd
      go_wp2_with fail
      go_ret
      exact ⟨.inr ⟨S', HE.out, rfl, HNr.out.wk⟩, HNr.out.kp⟩
end Go.Proofs.YtcbiaeeifclieaaGreatDoor
/- Forms taken back, as mathematics: the cells of a whole text. -/
namespace Go.Proofs.YtcbiaeeifclieaaGreatDoor
open Go.RowKit

theorem small_tl (s y : Bool) : ∀ (xs : List Int) (k n : Nat) (S : St), Small n S → k + xs.length ≤ n → Small n (tlS s y xs k S)
  | [], _, _, _, h, _ => h
  | [_], _, _, _, h, _ => h
  | a :: b :: xs, k, n, S, h, hk => by
    rw [tlS]
    simp only [List.length_cons] at hk
    split
    · exact small_tl s y xs (k + 2) n _ (h.share (by omega) (by omega) (by simp) (by simp)) (by omega)
    · exact small_tl s y (b :: xs) (k + 1) n S h (by simp only [List.length_cons]; omega)
theorem small_near (mk : Int → Bool) (xs : List Int) : ∀ (l : List Nat) (S S' : St), Small xs.length S → (∀ a ∈ l, a < xs.length) → spNear mk xs l S = some S' → Small xs.length S'
  | [], S, S', h, _, e => by
    obtain rfl := Option.some.inj e
    exact h
  | a :: l, S, S', h, ha, e => by
    rw [spNear] at e
    split at e
    · rename_i hx
      have hlt := (List.getElem?_eq_some_iff.1 hx).1
      exact small_near mk xs l _ S' (h.share (ha a (by simp)) hlt (by simp) (by simp)) (fun b hb => ha b (by simp [hb])) e
    · cases e
theorem small_clear (xs : List Int) : ∀ (m f : Nat) (S S' : St), Small xs.length S → spClear xs m f S = some S' → Small xs.length S'
  | 0, _, S, S', h, e => by
    obtain rfl := Option.some.inj e
    exact h
  | m + 1, f, S, S', h, e => by
    rw [spClear] at e
    split at e
    · rename_i hx
      have hlt := (List.getElem?_eq_some_iff.1 hx).1
      exact small_clear xs m (f + 1) _ S' (h.set hlt (by simp)) e
    · cases e
/-- The cells of a text, its forms taken back by options; none: a space is not there. -/
def unS (xs : List Int) (o : Opt) : Option St := spacesS mkB xs o.l (tlS o.b4 o.b5 xs 0 (stOf (becL o.b1 o.l) xs))
theorem unS_small {xs : List Int} {o : Opt} {S : St} (h : unS xs o = some S) : Small xs.length S := by
  have h0 := Small.of (becL o.b1 o.l) xs fun c => (bec_len _ _ c).2
  have h1 := small_tl o.b4 o.b5 xs 0 xs.length _ h0 (by omega)
  unfold unS spacesS at h
  split at h
  · exact small_near mkB xs _ _ S h1 (fun a ha => ligs_lt ha) h
  · split at h
    · exact small_clear xs _ _ _ S h1 h
    · split at h
      · exact small_clear xs _ _ _ S h1 h
      · obtain rfl := Option.some.inj h
        exact h1
theorem told_all {R : List RC} {n : Nat} (h : R.length = n) : toldR R [] 0 n = codesS (R.map Prod.snd) := by
  unfold toldR partR codesR codesS
  rw [if_pos rfl, List.drop_zero, Nat.sub_zero, List.take_of_length_le (by omega), List.flatMap_map]
  rfl
theorem cnt_all {R : List RC} {n : Nat} (h : R.length = n) : cntR R [] 0 n = (codesS (R.map Prod.snd)).length := by rw [← toldR_len, told_all h]
theorem lenR_all (R : List RC) : lenR R = (codesS (R.map Prod.snd)).length := by
  rw [← lenR_codes]
  unfold codesR codesS
  rw [List.flatMap_map]
/-- What becomes of cells: their text and their clusters. -/
def ClAns (w w' : World) (n : Nat) (S : St) (e : Ending) : Prop :=
  (n = 0 ∧ e = .returned (.tuple #[.slice none 0 0, .slice none 0 0, .int .i64 0])) ∨
  (0 < n ∧ codesS S = [] ∧ e = .returned (.tuple #[.slice none 0 0, .slice none 0 0, .int .i64 8])) ∨
  (0 < n ∧ codesS S ≠ [] ∧ ∃ (v u : Value) (l' : List NC) (R : List RC), e = .returned (.tuple #[v, u, .int .i64 0]) ∧ R.map Prod.snd = S ∧ FinIs n (codesS S).length (linksR n R []) l' ∧
    w'.ownsRow w.heap.size 3 1 v (codesS S).length ((codesS S).map (Value.int .i64)) ∧ w'.ownsRow w.heap.size 41 4 u l'.length (cellsC (l'.map NC.cl)))
/-- What Unshape answers. -/
def UnAns (w w' : World) (xs : List Int) (o : Opt) (e : Ending) : Prop :=
  (o.err ≠ 0 ∧ e = .returned (.tuple #[.slice none 0 0, .slice none 0 0, .int .i64 o.err])) ∨
  (o.err = 0 ∧ unS xs o = none ∧ e = .returned (.tuple #[.slice none 0 0, .slice none 0 0, .int .i64 9])) ∨
  (o.err = 0 ∧ ∃ S, unS xs o = some S ∧ ClAns w w' xs.length S e)
end Go.Proofs.YtcbiaeeifclieaaGreatDoor
/- Cells of the reference by what they hold; links depend on that alone; clearing from either end. -/
namespace Go.Proofs.YtcbiaeeifclieaaGreatDoor
open Go.RowKit

def R0 (S : St) : List RC := S.map fun s => (Value.slice none 0 0, s)
theorem R0_snd (S : St) : (R0 S).map Prod.snd = S := by unfold R0; rw [List.map_map]; exact List.map_id _
theorem R0_len (S : St) : (R0 S).length = S.length := List.length_map _
theorem R0_get {S : St} {i : Nat} {s : Int × List Int} (h : S[i]? = some s) : (R0 S)[i]? = some (.slice none 0 0, s) := by unfold R0; rw [List.getElem?_map, h]; rfl
theorem R0_set (S : St) (i : Nat) (s : Int × List Int) : (R0 S).set i (.slice none 0 0, s) = R0 (S.set i s) := by unfold R0; rw [List.map_set]
theorem lenR_snd {R R' : List RC} (h : R.map Prod.snd = R'.map Prod.snd) : lenR R = lenR R' := by
  have e : ∀ R : List RC, lenR R = ((R.map Prod.snd).map fun s => s.2.length).sum := fun R => by unfold lenR; rw [List.map_map]; rfl
  rw [e, e, h]
theorem cntR_snd {R R' : List RC} (ah : List Int) (h : R.map Prod.snd = R'.map Prod.snd) (a b : Nat) : cntR R ah a b = cntR R' ah a b := by
  unfold cntR partR
  rw [lenR_snd (R := (R.drop a).take (b - a)) (R' := (R'.drop a).take (b - a)) (by rw [List.map_take, List.map_drop, h, ← List.map_drop, ← List.map_take])]
theorem joinB_snd {R R' : List RC} (h : R.map Prod.snd = R'.map Prod.snd) (i : Nat) : joinB R i = joinB R' i := by
  have e : ∀ R : List RC, joinB R i = match (R.map Prod.snd)[i]? with
    | some r => if rightB ((i : Int), r.1) = true then some ((i : Int), r.1) else none
    | none => none := fun R => by
    unfold joinB
    rw [List.getElem?_map]
    cases R[i]? <;> rfl
  rw [e, e, h]
/-- What the links of cells are depends on what they hold alone. -/
theorem linksR_snd {n : Nat} {R R' : List RC} (ah : List Int) (h : R.map Prod.snd = R'.map Prod.snd) : linksR n R ah = linksR n R' ah := by
  have h1 : joinedTo R n = joinedTo R' n := by unfold joinedTo; rw [show joinB R = joinB R' from funext fun i => joinB_snd h i]
  have h2 : lkStep R ah = lkStep R' ah := by
    funext acc g
    unfold lkStep
    rw [cntR_snd ah h]
  unfold linksR linksTo
  rw [h1, h2]

/-- Cells of the reference: what each holds, and no more than m spans joined. -/
def TQ (w : World) (base b gl n m : Nat) (S : St) : Prop := ∃ (Q : List Value) (J : Value) (Js : List Sp), RCAt w base b gl n Q (S.map Prod.snd) J ∧ w.ownsRow base 39 2 J Js.length (cellsS Js) ∧ TightJ n (R0 S) Js ∧ Js.length ≤ m
section
variable {w w' : World} {base b gl n m : Nat} {S : St}
theorem TQ.low (h : TQ w base b gl n m S) (hb : Below w.heap.size w w') : TQ w' base b gl n m S := by
  obtain ⟨Q, J, Js, h1, h2, h3, h4⟩ := h
  exact ⟨Q, J, Js, h1.low hb, own_below h2 hb, h3, h4⟩
theorem TQ.more (h : TQ w base b gl n m S) {m' : Nat} (hm : m ≤ m') : TQ w base b gl n m' S := by
  obtain ⟨Q, J, Js, h1, h2, h3, h4⟩ := h
  exact ⟨Q, J, Js, h1, h2, h3, by omega⟩
theorem TQ.len (h : TQ w base b gl n m S) : S.length = n := by
  obtain ⟨Q, J, Js, h1, _⟩ := h
  have := h1.len
  rwa [List.length_map] at this
theorem TQ.of_new {Q : List Value} {xs : List Int} (f : Int → List Int) (h : RCAt w base b gl n Q (xs.map f) (.slice none 0 0)) : TQ w base b gl n 0 (stOf f xs) := by
  refine ⟨Q, .slice none 0 0, [], ?_, World.ownsRow_nil _ _ _ _, TightJ.nil fun i r hr => ?_, Nat.le_refl _⟩
  · have : (stOf f xs).map Prod.snd = xs.map f := by unfold stOf; rw [List.map_map]; rfl
    rw [this]; exact h
  · unfold R0 stOf at hr
    rw [List.map_map, List.getElem?_map] at hr
    cases hx : xs[i]? with
    | none => rw [hx] at hr; cases hr
    | some x =>
      rw [hx] at hr
      obtain rfl := Option.some.inj hr
      show (0 : Int) ≤ i
      omega
end
theorem st_get {S : St} {n i : Nat} (h : S.length = n) (hi : i < n) : S[i]? = some (S.getD i (0, [])) := by
  rw [List.getD_eq_getElem?_getD, List.getElem?_eq_getElem (by omega), Option.getD_some]
theorem tq_set (base b gl n m i : Nat) (S : St) (A : Option Addr) (q c : Nat) (codes : List Int) (w : World) (hC : TQ w base b gl n m S) (hi : i < n) (hr : Rd w 1 A q (codes.map (Value.int .i64))) (hq : q ≤ 100000) (hn : n ≤ 100000) :
    Calls Tryz.prog 50 #[.pointer (some ⟨b, 0, none⟩), .int .i64 (i : Int), .slice A q c] w fun e w' => e = .returned (.int .i64 0) ∧ TQ w' base b gl n m (sSet S i codes) ∧ Kept w w' [b, gl] := by
  have hS := hC.len
  obtain ⟨Q, J, Js, h1, h2, h3, h4⟩ := hC
  refine (rcSet_any base b gl n i Q _ J A q c codes w h1 hi hr hq hn).mono ?_
  rintro e w' ⟨rfl, ⟨v, h5, _⟩, hk⟩
  refine ⟨rfl, ⟨Q.set i v, J, Js, ?_, own_kept h2 hk (by simpa using h1.far.2.1), ?_, h4⟩, hk.moreS (by simp)⟩
  · unfold sSet
    rw [List.map_set]
    exact h5
  · have := h3.set (R0_get (st_get hS hi)) (.slice none 0 0) codes
    rw [R0_set] at this
    exact this
theorem tq_join (base b gl n m lo hi : Nat) (S : St) (w : World) (hC : TQ w base b gl n m S) (h1 : lo < hi) (h2 : hi ≤ n) (hm : m ≤ 100000) :
    Calls Tryz.prog 52 #[.pointer (some ⟨b, 0, none⟩), .agg #[.int .i64 (lo : Int), .int .i64 (hi : Int)]] w fun e w' => e = .returned (.int .i64 0) ∧ TQ w' base b gl n (m + 1) (sJoin S lo (hi : Int)) ∧ Kept w w' [b, gl] := by
  have hS := hC.len
  obtain ⟨Q, J, Js, k1, k2, k3, k4⟩ := hC
  refine (rcJoin_any base b gl n Q _ J Js lo hi w k1 k2 (by omega)).mono ?_
  rintro e w' ⟨hA, hk⟩
  rcases hA with ⟨hno, _⟩ | ⟨_, rfl, J', h5, h6⟩
  · exact absurd ⟨by omega, by omega, by omega⟩ hno
  · refine ⟨rfl, ⟨Q, J', Js ++ [((lo : Int), (hi : Int))], ?_, h6, ?_, by simp; omega⟩, hk.moreS (by simp)⟩
    · unfold sJoin
      have : (S.set lo (max (S.getD lo (0, [])).1 (hi : Int), (S.getD lo (0, [])).2)).map Prod.snd = S.map Prod.snd := by
        rw [List.map_set]
        refine List.ext_getElem? fun j => ?_
        by_cases e : lo = j
        · subst e
          rw [List.getElem?_set_self (by rw [List.length_map]; omega), List.getElem?_map, st_get hS (by omega)]
          rfl
        · rw [List.getElem?_set_ne e]
      rw [this]
      exact h5
    · have := k3.join (R0_get (st_get hS (show lo < n by omega))) (show (lo : Int) < hi by omega) (show (hi : Int) ≤ n by omega)
      rw [R0_set] at this
      exact this

/-- m places from f on are empty. -/
def clrS : Nat → Nat → St → St
  | _, 0, S => S
  | f, m + 1, S => clrS (f + 1) m (sSet S f [])
theorem sSet_swap (S : St) {i j : Nat} (h : i ≠ j) (l k : List Int) : sSet (sSet S i l) j k = sSet (sSet S j k) i l := by
  unfold sSet
  have h1 : (S.set i ((S.getD i (0, [])).1, l)).getD j (0, []) = S.getD j (0, []) := by rw [List.getD_eq_getElem?_getD, List.getElem?_set_ne h, ← List.getD_eq_getElem?_getD]
  have h2 : (S.set j ((S.getD j (0, [])).1, k)).getD i (0, []) = S.getD i (0, []) := by rw [List.getD_eq_getElem?_getD, List.getElem?_set_ne (Ne.symm h), ← List.getD_eq_getElem?_getD]
  rw [h1, h2, List.set_comm _ _ h]
theorem clrS_below : ∀ (m f : Nat) (S : St) {j : Nat}, j < f → sSet (clrS f m S) j [] = clrS f m (sSet S j [])
  | 0, _, _, _, _ => rfl
  | m + 1, f, S, j, h => by
    rw [clrS, clrS, clrS_below m (f + 1) _ (by omega), sSet_swap S (by omega)]
theorem clrS_above : ∀ (m f : Nat) (S : St), clrS f (m + 1) S = sSet (clrS f m S) (f + m) []
  | 0, f, S => rfl
  | m + 1, f, S => by
    rw [clrS, clrS_above m (f + 1), show f + 1 + m = f + (m + 1) by omega]
    rfl
/-- One place more, from behind. -/
theorem clrS_down {m f : Nat} (S : St) : sSet (clrS (f + 1) m S) f [] = clrS f (m + 1) S := clrS_below m (f + 1) S (by omega)
theorem spClear_clr {xs : List Int} : ∀ (m f : Nat) (S : St), (∀ j, j < m → xs[f + j]? = some 32) → spClear xs m f S = some (clrS f m S)
  | 0, _, _, _ => rfl
  | m + 1, f, S, h => by
    have h0 := h 0 (by omega)
    rw [Nat.add_zero] at h0
    rw [spClear, if_pos h0, spClear_clr m (f + 1) _ fun j hj => by have := h (j + 1) (by omega); rwa [show f + (j + 1) = f + 1 + j by omega] at this]
    rfl
theorem spClear_none {xs : List Int} : ∀ (m f : Nat) (S : St) {j : Nat}, j < m → xs[f + j]? ≠ some 32 → spClear xs m f S = none
  | 0, _, _, _, h, _ => by omega
  | m + 1, f, S, j, h, hx => by
    rw [spClear]
    split
    · rename_i h0
      cases j with
      | zero => exact absurd h0 (by rwa [Nat.add_zero] at hx)
      | succ j => exact spClear_none m (f + 1) _ (j := j) (by omega) (by rwa [show f + (j + 1) = f + 1 + j by omega] at hx)
    · rfl
end Go.Proofs.YtcbiaeeifclieaaGreatDoor
/- The reference's ligatures, mark and near, walked. -/
namespace Go.Proofs.YtcbiaeeifclieaaGreatDoor
open Go.RowKit

theorem rfLig_any (x : Int) (w : World) : Calls Tryz.prog 49 #[.int .i64 x] w fun e w' => e = .returned (.tuple #[.int .i64 (parF x).1, .int .i64 (parF x).2.1, .bool (ligB x)]) ∧ Below w.heap.size w w' := refParted_any x _ _ _ rfl w
set_option maxRecDepth 100000 in
set_option maxHeartbeats 2000000 in
theorem rfLigs_any (A : Option Addr) (n c : Nat) (xs : List Int) (w : World) (hr : Rd w 1 A n (xs.map (Value.int .i64))) (hn : n ≤ 100000) :
    Calls Tryz.prog 24 #[.slice A n c] w fun e w' => (∃ v, e = .returned v ∧ w'.ownsRow w.heap.size 3 1 v (ligsL xs).length ((natZ (ligsL xs)).map (Value.int .i64))) ∧ Below w.heap.size w w' := by
  have hlen : xs.length = n := by simpa using hr.len1
  have HL := Lib.hid hlen
  have HR := Lib.hid hr
  clear hlen hr
  go_enter Tryz.func24, Tryz.ntmps24
  go_wp2_with fail
  go_loopw [3, 4] (fun v i ws => ∃ k : Nat, k ≤ n ∧ i = .int .i64 (k : Int) ∧ ws.ownsRow w.heap.size 3 1 v (ligsTo xs k).length ((natZ (ligsTo xs k)).map (Value.int .i64)) ∧ Below w.heap.size w ws) (fun _ i _ => n - (intOf i).toNat)
  case atStart => exact ⟨0, Nat.zero_le _, rfl, World.ownsRow_nil _ _ _ _, Below.refl _ _⟩
  case round =>
    obtain ⟨k, hk, rfl, hown, hb⟩ := hrel
    obtain ⟨V, cv, rfl, hcv⟩ := own_form hown
    have HO := Lib.hid hown
    have HB := Lib.hid hb
    have hle := ligs_le xs k
    by_cases hlt : k < n
    · obtain ⟨x, hxk⟩ : ∃ x, xs[k]? = some x := ⟨_, List.getElem?_eq_getElem (by rw [HL.out]; exact hlt)⟩
      obtain ⟨ad, rfl, _, hc⟩ := (HR.out.below hb).at_ hlt
      have cx := hc _ (by rw [List.getElem?_map, hxk]; rfl)
      obtain ⟨y, z, v, hv⟩ : ∃ y z v, parF x = (y, z, v) := ⟨_, _, _, rfl⟩
      have HG := Lib.hid (fun W => refParted_any x y z v hv W)
      have HS := Lib.hid (ligs_step hxk)
      rw [show ligB x = v from congrArg (fun t => t.2.2) hv] at HS
      clear hxk hc hv hown hb
      cases v with
      | false =>
        go_wp2_with fail
        refine (HG.out _).mono ?_
        rintro e w4 ⟨rfl, hb4⟩
        have HB4 := Lib.hid (below_self HB.out hb4)
        have HO4 := Lib.hid (own_below HO.out hb4)
        clear hb4 cx
        go_wp2_with fail
        go_roundw
        case rel =>
          refine ⟨k + 1, by omega, by go_num, ?_, HB4.out⟩
          rw [HS.out]
          exact HO4.out
        case measure => simp [intOf]; omega
      | true =>
        go_wp2_with fail
        refine (HG.out _).mono ?_
        rintro e w4 ⟨rfl, hb4⟩
        have HB4 := Lib.hid (below_self HB.out hb4)
        have HO4 := Lib.hid (own_below HO.out hb4)
        have HZ4 := Lib.hid (show w.heap.size ≤ w4.heap.size from HB4.out.size)
        clear hb4 cx HO
        go_wp2_with (at_builtin; refine wpList_app rfl _ _ _ rfl cloneInt_slice (by decide) _ (ligsTo xs k).length _ rfl (HO4.out.alloc _) ⟨w4.heap.size, 0, none⟩ 1 1 [.int .i64 (k : Int)] rfl rfl (cells_new w4 [_] _) (oneInt _ _) (by omega) (by unfold maxLen; omega) (Nat.le_trans HZ4.out (by simp)) ?_; intro v1 w5 hown1 hg1 hat1)
        have HB5 := Lib.hid (below_app (HB4.out.alloc HZ4.out _) hg1 (HO4.out.alloc _) (Nat.le_trans HZ4.out (by simp)))
        have HO5 := Lib.hid hown1
        clear hg1 hat1 hown1
        go_roundw
        case rel =>
          refine ⟨k + 1, by omega, by go_num, ?_, HB5.out⟩
          rw [HS.out, if_pos trivial, natZ_app, List.map_append, List.length_append]
          exact HO5.out
        case measure => simp [intOf]; omega
    · have hkn : k = xs.length := by have := HL.out; omega
      subst hkn
      go_wp2_with fail
      go_ret
      exact ⟨⟨_, rfl, HO.out⟩, HB.out⟩
set_option maxRecDepth 100000 in
set_option maxHeartbeats 1000000 in
theorem rfMark_any (x : Int) (w : World) :
    Calls Tryz.prog 110 #[.int .i64 x] w fun e w' => e = .returned (.bool (mkB x)) ∧ Below w.heap.size w w' := by
  obtain ⟨x1, q1, a, ha⟩ : ∃ y z v, marF x = (y, z, v) := ⟨_, _, _, rfl⟩
  obtain ⟨x2, p, hp⟩ : ∃ y v, unpF x = (y, v) := ⟨_, _, rfl⟩
  obtain ⟨v, hv⟩ : ∃ v, joinF x = v := ⟨_, rfl⟩
  obtain ⟨q, hq⟩ : ∃ q, decide (v = 1) = q := ⟨_, rfl⟩
  have gq : (v == 1) = q := by rw [← hq]; by_cases h : v = 1 <;> simp [h]
  have HA := Lib.hid (fun W => refMark_any x x1 q1 a ha W)
  have HU := Lib.hid (fun W => refUnpile_any x x2 p hp W)
  have HJ := Lib.hid (fun W => refJoin_any x v hv W)
  have HM := Lib.hid (show mkB x = (a || p || q) by unfold mkB accB; rw [ha, hp, hv, hq])
  rw [HM.out]
  clear ha hp hv hq HM
  go_enter Tryz.func110, Tryz.ntmps110
  go_wp2_with fail
  refine (HA.out _).mono ?_
  rintro e w1 ⟨rfl, hb1⟩
  have HB1 := Lib.hid hb1
  clear hb1
  go_wp2_with fail
  refine (HU.out _).mono ?_
  rintro e w2 ⟨rfl, hb2⟩
  have HB2 := Lib.hid (below_self HB1.out hb2)
  clear hb2
  cases a with
  | true =>
    go_wp2_with fail
    go_ret
    exact ⟨rfl, HB2.out⟩
  | false =>
    cases p with
    | true =>
      go_wp2_with fail
      go_ret
      exact ⟨rfl, HB2.out⟩
    | false =>
      go_wp2_with (go_at_call 128; refine (HJ.out _).mono ?_; rintro e w3 ⟨rfl, hb3⟩; have HB3 := Lib.hid (below_self HB2.out hb3); clear hb3)
      go_ret
      exact ⟨rfl, HB3.out⟩
/-- The space behind a lam with alef, or -1. -/
def nearF (xs : List Int) (a : Nat) : Int := if xs[nearK mkB xs (a + 1)]? = some 32 then (nearK mkB xs (a + 1) : Int) else -1
set_option maxRecDepth 100000 in
set_option maxHeartbeats 2000000 in
theorem rfNear_any (A : Option Addr) (n c a : Nat) (xs : List Int) (w : World) (hr : Rd w 1 A n (xs.map (Value.int .i64))) (ha : a < n) (hn : n ≤ 100000) :
    Calls Tryz.prog 84 #[.slice A n c, .int .i64 (a : Int)] w fun e w' => e = .returned (.int .i64 (nearF xs a)) ∧ Below w.heap.size w w' := by
  have hlen : xs.length = n := by simpa using hr.len1
  have HL := Lib.hid hlen
  have HR := Lib.hid hr
  clear hlen hr
  go_enter Tryz.func84, Tryz.ntmps84
  go_wp2_with fail
  go_loopw [5] (fun i ws => ∃ t : Nat, t ≤ n ∧ i = .int .i64 (t : Int) ∧ nearK mkB xs (a + 1) = nearK mkB xs t ∧ Below w.heap.size w ws) (fun i _ => n - (intOf i).toNat)
  case atStart => exact ⟨a + 1, by omega, by go_num, rfl, Below.refl _ _⟩
  case round =>
    obtain ⟨t, ht, rfl, hK, hb⟩ := hrel
    have HK := Lib.hid hK
    have HB := Lib.hid hb
    clear hK
    by_cases hlt : t < n
    · obtain ⟨x, hxt⟩ : ∃ x, xs[t]? = some x := ⟨_, List.getElem?_eq_getElem (by rw [HL.out]; exact hlt)⟩
      obtain ⟨ad, rfl, _, hc⟩ := (HR.out.below hb).at_ hlt
      have cx := hc _ (by rw [List.getElem?_map, hxt]; rfl)
      have HM := Lib.hid (rfMark_any x)
      have hge : ¬ ((n : Int) ≤ (t : Int)) := by omega
      have hlt2 : (t : Int) < (n : Int) := by omega
      cases hm : mkB x with
      | true =>
        rw [hm] at HM
        have HK2 := Lib.hid (HK.out.trans (nearK_go hxt hm))
        clear hc hxt hm hb HK
        go_wp2_with (go_at_call 110; refine (HM.out _).mono ?_; rintro e w4 ⟨rfl, hb4⟩; have HB4 := Lib.hid (below_self HB.out hb4); have cx4 := cell_below hb4 cx; clear hb4)
        go_roundw
        case rel => exact ⟨t + 1, by omega, by go_num, HK2.out, HB4.out⟩
        case measure => simp [intOf]; omega
      | false =>
        rw [hm] at HM
        have HK2 := Lib.hid (HK.out.trans (nearK_stop hxt hm))
        have HX := Lib.hid hxt
        clear hc hxt hm hb HK
        by_cases hx : x = 32
        · subst hx
          have HN := Lib.hid (show nearF xs a = (t : Int) by unfold nearF; rw [HK2.out, if_pos HX.out])
          go_wp2_with (go_at_call 110; refine (HM.out _).mono ?_; rintro e w4 ⟨rfl, hb4⟩; have HB4 := Lib.hid (below_self HB.out hb4); have cx4 := cell_below hb4 cx; clear hb4)
          go_ret
          rw [HN.out]
          exact ⟨rfl, HB4.out⟩
        · have HN := Lib.hid (show nearF xs a = -1 by unfold nearF; rw [HK2.out, HX.out, if_neg (by simpa using hx)])
          have hxb : (x != 32) = true := by simpa using hx
          go_wp2_with (go_at_call 110; refine (HM.out _).mono ?_; rintro e w4 ⟨rfl, hb4⟩; have HB4 := Lib.hid (below_self HB.out hb4); have cx4 := cell_below hb4 cx; clear hb4)
          go_ret
          rw [HN.out]
          exact ⟨rfl, HB4.out⟩
    · have hge : (n : Int) ≤ (t : Int) := by omega
      have hlt2 : ¬ ((t : Int) < (n : Int)) := by omega
      have HN := Lib.hid (show nearF xs a = -1 by
        unfold nearF
        rw [HK.out, nearK_end (by rw [HL.out]; omega), List.getElem?_eq_none (by rw [HL.out]; omega), if_neg (by simp)])
      clear hb
      go_wp2_with fail
      go_ret
      rw [HN.out]
      exact ⟨rfl, HB.out⟩
end Go.Proofs.YtcbiaeeifclieaaGreatDoor
/- The reference's spaces, walked: the alef of each lam with alef goes to its space. -/
namespace Go.Proofs.YtcbiaeeifclieaaGreatDoor
open Go.RowKit

theorem own_far {w : World} {base : Nat} {e : TypeId} {size n c : Nat} {V : Option Addr} {xs : List Value} (h : w.ownsRow base e size (.slice V n c) n xs) {S : List Nat} (hs : ∀ x ∈ S, x < base) : ∀ ad, V = some ad → ad.block ∉ S := by
  intro ad ha hm
  subst ha
  rcases h.2 with ⟨h1, _⟩ | ⟨g, cap, cur, e1, hb, _⟩
  · simp at h1
  · simp only [Value.slice.injEq, Option.some.injEq] at e1
    have := hs _ hm
    rw [e1.1] at this
    simp only at this
    omega
theorem rd_kept0 {w w' : World} {size n : Nat} {A : Option Addr} {xs : List Value} {L : List Nat} (h : Rd w size A n xs) (hk : Kept w w' L) (hA : 0 < n → ∀ ad, A = some ad → ad.block ∉ L) : Rd w' size A n xs := by
  rcases Nat.eq_zero_or_pos n with h0 | h0
  · exact ⟨h.1, fun hn => by omega⟩
  · exact rd_kept h hk (hA h0)
/-- What spaces leaves. -/
def SpR (w' : World) (base b gl n m : Nat) (r : Option St) (e : Ending) : Prop := (r = none ∧ e = .returned (.bool false)) ∨ ∃ S', r = some S' ∧ e = .returned (.bool true) ∧ TQ w' base b gl n m S'
/-- What spaces keeps from turn to turn. -/
structure SqAt (w wr : World) (base b gl n m : Nat) (A V : Option Addr) (q : Nat) (xs : List Int) (L : List Nat) (S : St) : Prop where
  tq : TQ wr base b gl n m S
  rx : Rd wr 1 A n (xs.map (Value.int .i64))
  rl : Rd wr 1 V q ((natZ L).map (Value.int .i64))
  kp : Kept w wr [b, gl]
  hA : 0 < n → ∀ ad, A = some ad → ad.block ∉ [b, gl]
  hV : ∀ ad, V = some ad → ad.block ∉ [b, gl]
section
variable {w wr W : World} {base b gl n m m' q : Nat} {A V : Option Addr} {xs : List Int} {L : List Nat} {S S' : St}
theorem SqAt.below (h : SqAt w wr base b gl n m A V q xs L S) (hb : Below wr.heap.size wr W) : SqAt w W base b gl n m A V q xs L S :=
  ⟨h.tq.low hb, h.rx.below hb, h.rl.below hb, h.kp.trans (Kept.of_below hb _), h.hA, h.hV⟩
theorem SqAt.next (h : SqAt w wr base b gl n m A V q xs L S) (hq : TQ W base b gl n m' S') (hk : Kept wr W [b, gl]) : SqAt w W base b gl n m' A V q xs L S' :=
  ⟨hq, rd_kept0 h.rx hk h.hA, rd_kept h.rl hk h.hV, h.kp.trans hk, h.hA, h.hV⟩
theorem TQ.lt (h : TQ w base b gl n m S) : b < base ∧ gl < base ∧ base ≤ w.heap.size := by
  obtain ⟨Q, J, Js, h1, _⟩ := h
  exact ⟨h1.far.1, h1.far.2.1, h1.far.2.2.2⟩
end
set_option maxRecDepth 100000 in
set_option maxHeartbeats 4000000 in
theorem rfSpNear_any (base b gl n m c : Nat) (A : Option Addr) (xs : List Int) (S : St) (w : World) (hC : TQ w base b gl n m S) (hr : Rd w 1 A n (xs.map (Value.int .i64))) (hA : 0 < n → ∀ ad, A = some ad → ad.block ∉ [b, gl]) (hn : n ≤ 1000) (hm : m ≤ 1000) :
    Calls Tryz.prog 53 #[.pointer (some ⟨b, 0, none⟩), .slice A n c, .int .i64 2] w fun e w' => SpR w' base b gl n (m + n) (spNear mkB xs (ligsL xs) S) e ∧ Kept w w' [b, gl] := by
  have hlen : xs.length = n := by simpa using hr.len1
  have HL := Lib.hid hlen
  have HC := Lib.hid hC
  have HR := Lib.hid hr
  have HA := Lib.hid hA
  have HG := Lib.hid (rfLigs_any A n c xs w hr (by omega))
  have HLL := Lib.hid (fun a (h : a ∈ ligsL xs) => (show a < n by have := ligs_lt h; omega))
  have hqn : (ligsL xs).length ≤ n := by have := ligs_le xs xs.length; unfold ligsL; omega
  clear hlen hC hr hA
  go_enter Tryz.func53, Tryz.ntmps53
  go_wp2_with fail
  refine HG.out.mono ?_
  rintro e w1 ⟨⟨v, rfl, hown⟩, hb1⟩
  obtain ⟨V, cv, rfl, _⟩ := own_form hown
  have HS1 := Lib.hid (show SqAt w w1 base b gl n m A V (ligsL xs).length xs (ligsL xs) S from ⟨HC.out.low hb1, HR.out.below hb1, Rd.of_own hown, Kept.of_below hb1 _, HA.out, own_far hown (by have := HC.out.lt; simp; omega)⟩)
  clear hown hb1 HG HA HR HC
  obtain ⟨L, hL⟩ : ∃ L, ligsL xs = L := ⟨_, rfl⟩
  rw [hL] at HS1 HLL hqn
  rw [hL]
  have HLE := Lib.hid hL
  clear hL
  obtain ⟨q, hq⟩ : ∃ q, L.length = q := ⟨_, rfl⟩
  rw [hq] at HS1 hqn
  rw [hq]
  have HQL := Lib.hid hq
  clear hq
  go_wp2_with fail
  go_loopw [8] (fun i wr => ∃ (j : Nat) (S' : St), j ≤ q ∧ i = .int .i64 (j : Int) ∧ spNear mkB xs L S = spNear mkB xs (L.drop j) S' ∧ SqAt w wr base b gl n (m + j) A V q xs L S') (fun i _ => q - (intOf i).toNat)
  case atStart => exact ⟨0, S, Nat.zero_le _, rfl, rfl, HS1.out⟩
  case round =>
    obtain ⟨j, S', hj, rfl, hS, hN⟩ := hrel
    have HS := Lib.hid hS
    have HN := Lib.hid hN
    clear hS
    by_cases hlt : j < q
    · obtain ⟨a, hak⟩ : ∃ a, L[j]? = some a := ⟨_, List.getElem?_eq_getElem (by rw [HQL.out]; exact hlt)⟩
      have HZ := Lib.hid (show ((natZ L).map (Value.int .i64))[j]? = some (.int .i64 (a : Int)) by rw [List.getElem?_map]; simp [natZ, hak])
      obtain ⟨ad, rfl, _, hc⟩ := hN.rl.at_ hlt
      have ca : wr.cell? (ad.add j) = some (.int .i64 (a : Int)) := hc _ HZ.out
      have han := HLL.out a (List.mem_of_getElem? hak)
      obtain ⟨y, hya⟩ : ∃ y, xs[a]? = some y := ⟨_, List.getElem?_eq_getElem (by rw [HL.out]; exact han)⟩
      obtain ⟨at_, rfl, _, hct⟩ := hN.rx.at_ han
      have cy : wr.cell? (at_.add a) = some (.int .i64 y) := hct _ (by rw [List.getElem?_map, hya]; rfl)
      obtain ⟨px, pq, pok, hpar⟩ : ∃ x q ok, parF y = (x, q, ok) := ⟨_, _, _, rfl⟩
      have HPA := Lib.hid (fun W => refParted_any y px pq pok hpar W)
      have HD := Lib.hid (dropCons hak)
      have HY := Lib.hid hya
      have HNE := Lib.hid (fun W (h : Below wr.heap.size wr W) => rfNear_any (some at_) n c a xs W (hN.rx.below h) han (by omega))
      have HPR := Lib.hid hpar
      have hji : (j : Int) < (q : Int) := by omega
      have hj0 : (0 : Int) ≤ (j : Int) := by omega
      have hai : (a : Int) < (n : Int) := by omega
      have ha0 : (0 : Int) ≤ (a : Int) := by omega
      clear hc hct hak hya hpar hN
      go_wp2_with fail
      refine (HPA.out _).mono ?_
      rintro e w2 ⟨rfl, hb2⟩
      have ca2 := cell_below hb2 ca
      have HB2 := Lib.hid hb2
      clear hb2 ca cy
      go_wp2_with fail
      refine (HNE.out _ HB2.out).mono ?_
      rintro e w3 ⟨rfl, hb3⟩
      have ca3 := cell_below hb3 ca2
      have HN3 := Lib.hid (HN.out.below (below_self HB2.out hb3))
      clear hb3 ca2 HB2 HN HNE HPA
      by_cases h32 : xs[nearK mkB xs (a + 1)]? = some 32
      · obtain ⟨t, ht⟩ : ∃ t, nearK mkB xs (a + 1) = t := ⟨_, rfl⟩
        have hF : nearF xs a = (t : Int) := by unfold nearF; rw [if_pos h32, ht]
        rw [hF]
        rw [ht] at h32
        have htn : t < n := by have := (List.getElem?_eq_some_iff.1 h32).1; have := HL.out; omega
        have HX := Lib.hid h32
        have HT := Lib.hid ht
        have ht0 : (0 : Int) ≤ (t : Int) := by omega
        clear hF h32 ht
        have hbn := below_new w3 (.cells #[.int .i64 1604] 3)
        have hN4 := HN3.out.below hbn
        have HSE := Lib.hid (tq_set base b gl n (m + j) a S' (some ⟨w3.heap.size, 0, none⟩) 1 1 [1604] _ hN4.tq han (rdOne w3 1604 3) (by omega) (by omega))
        have HN4 := Lib.hid hN4
        clear hbn hN4 HN3
        go_wp2_with fail
        refine HSE.out.mono ?_
        rintro e w4 ⟨rfl, hT4, hk4⟩
        have hN5 := HN4.out.next hT4 hk4
        have hbn := below_new w4 (.cells #[.int .i64 px] 3)
        have hN6 := hN5.below hbn
        have HSE2 := Lib.hid (tq_set base b gl n (m + j) t _ (some ⟨w4.heap.size, 0, none⟩) 1 1 [px] _ hN6.tq htn (rdOne w4 px 3) (by omega) (by omega))
        have HN6 := Lib.hid hN6
        clear hbn hN5 hN6 HN4 hT4 hk4 ca3 HSE
        go_wp2_with fail
        refine HSE2.out.mono ?_
        rintro e w5 ⟨rfl, hT5, hk5⟩
        have hN7 := HN6.out.next hT5 hk5
        have ca5 : w5.cell? (ad.add j) = some (.int .i64 (a : Int)) := by
          obtain ⟨ad', he, _, hc⟩ := hN7.rl.at_ hlt
          cases he
          exact hc _ HZ.out
        have HAT := HX
        have HJ := Lib.hid (tq_join base b gl n (m + j) a (t + 1) _ w5 hN7.tq (by have : a + 1 ≤ t := (by have := HT.out; unfold nearK at this; omega); omega) (by omega) (by omega))
        rw [show ((t + 1 : Nat) : Int) = (t : Int) + 1 from rfl] at HJ
        have HN7 := Lib.hid hN7
        clear hN7 hT5 hk5 HN6 HSE2
        go_wp2_with fail
        refine HJ.out.mono ?_
        rintro e w6 ⟨rfl, hT6, hk6⟩
        have HN8 := Lib.hid (HN7.out.next hT6 hk6)
        clear hT6 hk6 HJ HN7 ca5
        go_wp2_with fail
        go_roundw
        case rel =>
          refine ⟨j + 1, _, by omega, by go_num, ?_, HN8.out⟩
          rw [HS.out, HD.out, spNear_yes HT.out HX.out HY.out, HPR.out]
          rfl
        case measure => simp [intOf]; omega
      · have hF : nearF xs a = -1 := by unfold nearF; rw [if_neg h32]
        have HE := Lib.hid (show spNear mkB xs L S = none by rw [HS.out, HD.out]; exact spNear_no rfl h32)
        rw [hF]
        clear hF h32
        go_wp2_with fail
        go_ret
        exact ⟨.inl ⟨by rw [HLE.out]; exact HE.out, rfl⟩, HN3.out.kp⟩
    · have hjq : j = q := by omega
      subst hjq
      have HE := Lib.hid (show spNear mkB xs L S = some S' by rw [HS.out, List.drop_eq_nil_of_le (by rw [HQL.out]; exact Nat.le_refl _)]; rfl)
      clear hN
      go_wp2_with fail
      go_ret
      exact ⟨.inr ⟨S', by rw [HLE.out]; exact HE.out, rfl, HN.out.tq.more (by omega)⟩, HN.out.kp⟩
end Go.Proofs.YtcbiaeeifclieaaGreatDoor
/- unshape's spaces, walked. -/
namespace Go.Proofs.YtcbiaeeifclieaaGreatDoor
open Go.RowKit

theorem sp_near (mk : Int → Bool) (xs : List Int) (S : St) : spacesS mk xs 2 S = spNear mk xs (ligsL xs) S := if_pos rfl
theorem sp_end (mk : Int → Bool) (xs : List Int) (S : St) : spacesS mk xs 4 S = spClear xs (ligsL xs).length (xs.length - (ligsL xs).length) S := (if_neg (by decide)).trans (if_pos rfl)
theorem sp_begin (mk : Int → Bool) (xs : List Int) (S : St) : spacesS mk xs 3 S = spClear xs (ligsL xs).length 0 S := (if_neg (by decide)).trans ((if_neg (by decide)).trans (if_pos rfl))
theorem sp_else {mk : Int → Bool} {xs : List Int} {la : Int} {S : St} (h2 : la ≠ 2) (h3 : la ≠ 3) (h4 : la ≠ 4) : spacesS mk xs la S = some S := (if_neg h2).trans ((if_neg h4).trans (if_neg h3))
set_option maxRecDepth 100000 in
set_option maxHeartbeats 4000000 in
theorem unSpaces_any (wk base b gc n c bp : Nat) (A : Option Addr) (xs : List Int) (la : Int) (S : St) (w00 w : World) (hW : WkAt w wk base b gc n c A xs S) (hP : PropAt w00 bp) (h00 : Below w00.heap.size w00 w) (hl : w00.heap.size ≤ b ∧ w00.heap.size ≤ gc) (hn : n ≤ 100000) :
    Calls Tryz.prog 17 #[.pointer (some ⟨wk, 0, none⟩), .pointer (some ⟨bp, 0, none⟩), .int .i64 la] w fun e w' => SpAns w' wk base b gc n c A xs (spacesS mkB xs la S) e ∧ Kept w w' [b, gc] := by
  have hlen : xs.length = n := by simpa using hW.rd.len1
  have HL := Lib.hid hlen
  have HW := Lib.hid hW
  have HG := Lib.hid (unLigs_any A n c xs w hW.rd hn)
  have c1 := hW.c1
  have H00 := Lib.hid h00
  have HP := Lib.hid hP
  have HLo := Lib.hid hl
  have hq := ligs_le xs xs.length
  rw [hlen] at hq
  have HLL := Lib.hid (fun a (h : a ∈ ligsL xs) => ligs_lt h)
  rw [hlen] at HLL
  have hE4 := sp_end mkB xs S
  have hE3 := sp_begin mkB xs S
  rw [hlen] at hE4
  obtain ⟨L, hL⟩ : ∃ L, ligsL xs = L := ⟨_, rfl⟩
  have hq' : (ligsL xs).length ≤ n := by have : ligsL xs = ligsTo xs xs.length := rfl; rw [this, hlen]; exact hq
  have hE2 := sp_near mkB xs S
  rw [hL] at HG HLL hq' hE4 hE3 hE2
  have HE4 := Lib.hid hE4
  have HE3 := Lib.hid hE3
  have HE2 := Lib.hid hE2
  obtain ⟨q, hqq⟩ : ∃ q, L.length = q := ⟨_, rfl⟩
  rw [hqq] at HG hq'
  have HQ := Lib.hid hqq
  clear hW hP h00 hl hq hlen hE4 hE3 hE2 hL hqq
  go_enter Tryz.func17, Tryz.ntmps17
  go_wp2_with fail
  refine HG.out.mono ?_
  rintro e w1 ⟨⟨v, rfl, hown⟩, hb1⟩
  obtain ⟨V, cv, rfl, hcv⟩ := own_form hown
  have hW1 := HW.out.low hb1
  have d1 := hW1.c1
  have HW1 := Lib.hid hW1
  have HB1 := Lib.hid hb1
  have HR1 := Lib.hid (Rd.of_own hown)
  have HV := Lib.hid (show ∀ ad, V = some ad → ad.block ∉ [b, gc] from fun ad e => by
    subst e
    have h1 : w.heap.size ≤ ad.block := (hown.lt ad.block rfl).1
    have h2 := HW.out.sat.lt
    simp
    omega)
  clear hown hb1 hW1 c1
  by_cases h2 : la = 2
  · subst h2
    have HN := Lib.hid (unNear_any wk base b gc n c bp q cv A V xs L S w00 w1 HW1.out HP.out (below_self H00.out HB1.out) HLo.out HR1.out HV.out HLL.out hn (by omega))
    go_wp2_with fail
    refine HN.out.mono ?_
    rintro e w2 ⟨hA, hk2⟩
    have HA := Lib.hid hA
    have HK := Lib.hid ((Kept.of_below HB1.out _).trans hk2)
    obtain ⟨er, rfl⟩ : ∃ er, e = .returned (.int .i64 er) := by
      rcases hA with ⟨_, h⟩ | ⟨_, _, h, _⟩
      · exact ⟨_, h⟩
      · exact ⟨_, h⟩
    clear hA hk2
    go_wp2_with fail
    go_ret
    rw [HE2.out]
    exact ⟨HA.out, HK.out⟩
  · have g2 : (la == 2) = false := by simp [h2]
    by_cases h4 : la = 4
    · subst h4
      have HN := Lib.hid (unClear_any wk base b gc n c (n - q) q A xs S w1 HW1.out (by omega) hn)
      have hnq : ((n - q : Nat) : Int) = (n : Int) - (q : Int) := by omega
      rw [hnq] at HN
      clear hnq
      go_wp2_with fail
      refine HN.out.mono ?_
      rintro e w2 ⟨hA, hk2⟩
      have HA := Lib.hid hA
      have HK := Lib.hid ((Kept.of_below HB1.out _).trans hk2)
      obtain ⟨er, rfl⟩ : ∃ er, e = .returned (.int .i64 er) := by
        rcases hA with ⟨_, h⟩ | ⟨_, _, h, _⟩
        · exact ⟨_, h⟩
        · exact ⟨_, h⟩
      clear hA hk2
      go_wp2_with fail
      go_ret
      rw [HE4.out, HQ.out]
      exact ⟨HA.out, HK.out⟩
    · have g4 : (la == 4) = false := by simp [h4]
      by_cases h3 : la = 3
      · subst h3
        have HN := Lib.hid (unClear_any wk base b gc n c 0 q A xs S w1 HW1.out (by omega) hn)
        go_wp2_with fail
        refine HN.out.mono ?_
        rintro e w2 ⟨hA, hk2⟩
        have HA := Lib.hid hA
        have HK := Lib.hid ((Kept.of_below HB1.out _).trans hk2)
        obtain ⟨er, rfl⟩ : ∃ er, e = .returned (.int .i64 er) := by
          rcases hA with ⟨_, h⟩ | ⟨_, _, h, _⟩
          · exact ⟨_, h⟩
          · exact ⟨_, h⟩
        clear hA hk2
        go_wp2_with fail
        go_ret
        rw [HE3.out, HQ.out]
        exact ⟨HA.out, HK.out⟩
      · have g3 : (la == 3) = false := by simp [h3]
        have HE := Lib.hid (sp_else (mk := mkB) (xs := xs) (S := S) h2 h3 h4)
        clear h2 h3 h4
        go_wp2_with fail
        go_ret
        exact ⟨.inr ⟨S, HE.out, rfl, HW1.out⟩, Kept.of_below HB1.out _⟩
end Go.Proofs.YtcbiaeeifclieaaGreatDoor
/- The reference's spaces, walked: those ahead or behind are taken away, or none. -/
namespace Go.Proofs.YtcbiaeeifclieaaGreatDoor
open Go.RowKit

set_option maxRecDepth 100000 in
set_option maxHeartbeats 4000000 in
theorem rfSpBegin_any (base b gl n m c : Nat) (A : Option Addr) (xs : List Int) (S : St) (w : World) (hC : TQ w base b gl n m S) (hr : Rd w 1 A n (xs.map (Value.int .i64))) (hA : 0 < n → ∀ ad, A = some ad → ad.block ∉ [b, gl]) (hn : n ≤ 1000) (_hm : m ≤ 1000) :
    Calls Tryz.prog 53 #[.pointer (some ⟨b, 0, none⟩), .slice A n c, .int .i64 3] w fun e w' => SpR w' base b gl n (m + n) (spClear xs (ligsL xs).length 0 S) e ∧ Kept w w' [b, gl] := by
  have hlen : xs.length = n := by simpa using hr.len1
  have HL := Lib.hid hlen
  have HC := Lib.hid hC
  have HR := Lib.hid hr
  have HA := Lib.hid hA
  have HG := Lib.hid (rfLigs_any A n c xs w hr (by omega))
  have HLL := Lib.hid (fun a (h : a ∈ ligsL xs) => (show a < n by have := ligs_lt h; omega))
  have hqn : (ligsL xs).length ≤ n := by have := ligs_le xs xs.length; unfold ligsL; omega
  clear hlen hC hr hA
  go_enter Tryz.func53, Tryz.ntmps53
  go_wp2_with fail
  refine HG.out.mono ?_
  rintro e w1 ⟨⟨v, rfl, hown⟩, hb1⟩
  obtain ⟨V, cv, rfl, _⟩ := own_form hown
  have HS1 := Lib.hid (show SqAt w w1 base b gl n m A V (ligsL xs).length xs (ligsL xs) S from ⟨HC.out.low hb1, HR.out.below hb1, Rd.of_own hown, Kept.of_below hb1 _, HA.out, own_far hown (by have := HC.out.lt; simp; omega)⟩)
  clear hown hb1 HG HA HR HC
  obtain ⟨L, hL⟩ : ∃ L, ligsL xs = L := ⟨_, rfl⟩
  rw [hL] at HS1 HLL hqn
  rw [hL]
  have HLE := Lib.hid hL
  clear hL
  obtain ⟨q, hq⟩ : ∃ q, L.length = q := ⟨_, rfl⟩
  rw [hq] at HS1 hqn
  rw [hq]
  have HQL := Lib.hid hq
  clear hq
  go_wp2_with fail
  go_loopw [8] (fun i wr => ∃ (j : Nat) (S' : St), j ≤ q ∧ i = .int .i64 (j : Int) ∧ (S' = clrS 0 j S ∧ ∀ i, i < j → xs[0 + i]? = some 32) ∧ SqAt w wr base b gl n m A V q xs L S') (fun i _ => q - (intOf i).toNat)
  case atStart => exact ⟨0, S, Nat.zero_le _, rfl, ⟨rfl, fun i h => absurd h (Nat.not_lt_zero i)⟩, HS1.out⟩
  case round =>
    obtain ⟨j, S', hj, rfl, hS, hN⟩ := hrel
    have HS := Lib.hid hS
    have HN := Lib.hid hN
    clear hS
    by_cases hlt : j < q
    · obtain ⟨a, hak⟩ : ∃ a, L[j]? = some a := ⟨_, List.getElem?_eq_getElem (by rw [HQL.out]; exact hlt)⟩
      have HZ := Lib.hid (show ((natZ L).map (Value.int .i64))[j]? = some (.int .i64 (a : Int)) by rw [List.getElem?_map]; simp [natZ, hak])
      obtain ⟨ad, rfl, _, hc⟩ := hN.rl.at_ hlt
      have ca : wr.cell? (ad.add j) = some (.int .i64 (a : Int)) := hc _ HZ.out
      have han := HLL.out a (List.mem_of_getElem? hak)
      obtain ⟨y, hya⟩ : ∃ y, xs[a]? = some y := ⟨_, List.getElem?_eq_getElem (by rw [HL.out]; exact han)⟩
      obtain ⟨at_, rfl, _, hct⟩ := hN.rx.at_ han
      have cy : wr.cell? (at_.add a) = some (.int .i64 y) := hct _ (by rw [List.getElem?_map, hya]; rfl)
      obtain ⟨px, pq, pok, hpar⟩ : ∃ x q ok, parF y = (x, q, ok) := ⟨_, _, _, rfl⟩
      have HPA := Lib.hid (fun W => refParted_any y px pq pok hpar W)
      have hji : (j : Int) < (q : Int) := by omega
      have hj0 : (0 : Int) ≤ (j : Int) := by omega
      have hai : (a : Int) < (n : Int) := by omega
      have ha0 : (0 : Int) ≤ (a : Int) := by omega
      have hkn : j < n := by omega
      obtain ⟨x, hxk⟩ : ∃ x, xs[j]? = some x := ⟨_, List.getElem?_eq_getElem (by rw [HL.out]; exact hkn)⟩
      have cx : wr.cell? (at_.add j) = some (.int .i64 x) := hN.rx.news j _ (by rw [List.getElem?_map, hxk]; rfl)
      have HX := Lib.hid hxk
      have HKE := Lib.hid (show j = j from rfl)
      have hki : (j : Int) < (n : Int) := by omega
      clear hc hct hak hya hpar hN hxk
      by_cases h32 : x = 32
      · subst h32
        go_wp2_with fail
        refine (HPA.out _).mono ?_
        rintro e w2 ⟨rfl, hb2⟩
        have cx2 := cell_below hb2 cx
        have HN2 := Lib.hid (HN.out.below hb2)
        have HSE := Lib.hid (tq_set base b gl n m j S' none 0 0 [] w2 HN2.out.tq hkn Rd.nil_ (by omega) (by omega))
        clear hb2 ca cy cx HPA
        go_wp2_with fail
        refine HSE.out.mono ?_
        rintro e w5 ⟨rfl, hT5, hk5⟩
        have HN5 := Lib.hid (HN2.out.next hT5 hk5)
        clear hT5 hk5 HSE cx2
        go_wp2_with fail
        go_roundw
        case rel => exact ⟨j + 1, _, by omega, by go_num, ⟨by rw [clrS_above, ← HS.out.1, Nat.zero_add], fun i h => by
          by_cases e : i = j
          · rw [e, Nat.zero_add]; exact HX.out
          · exact HS.out.2 i (by omega)⟩, HN5.out⟩
        case measure => simp [intOf]; omega
      · have g1 : (x != 32) = true := by simp [h32]
        have HNO := Lib.hid (show spClear xs q 0 S = none from spClear_none q 0 S hlt (by rw [Nat.zero_add, HX.out]; simpa using h32))
        clear h32
        go_wp2_with fail
        refine (HPA.out _).mono ?_
        rintro e w2 ⟨rfl, hb2⟩
        have cx2 := cell_below hb2 cx
        have HN2 := Lib.hid (HN.out.below hb2)
        clear hb2 ca cy cx HPA
        go_wp2_with fail
        go_ret
        exact ⟨.inl ⟨by rw [HLE.out, HQL.out]; exact HNO.out, rfl⟩, HN2.out.kp⟩
    · have hjq : j = q := by omega
      subst hjq
      have HE := Lib.hid (show spClear xs j 0 S = some S' by rw [HS.out.1]; exact spClear_clr j 0 S HS.out.2)
      clear hN
      go_wp2_with fail
      go_ret
      exact ⟨.inr ⟨S', by rw [HLE.out, HQL.out]; exact HE.out, rfl, HN.out.tq.more (by omega)⟩, HN.out.kp⟩
set_option maxRecDepth 100000 in
set_option maxHeartbeats 4000000 in
theorem rfSpEnd_any (base b gl n m c : Nat) (A : Option Addr) (xs : List Int) (S : St) (w : World) (hC : TQ w base b gl n m S) (hr : Rd w 1 A n (xs.map (Value.int .i64))) (hA : 0 < n → ∀ ad, A = some ad → ad.block ∉ [b, gl]) (hn : n ≤ 1000) (_hm : m ≤ 1000) :
    Calls Tryz.prog 53 #[.pointer (some ⟨b, 0, none⟩), .slice A n c, .int .i64 4] w fun e w' => SpR w' base b gl n (m + n) (spClear xs (ligsL xs).length (n - (ligsL xs).length) S) e ∧ Kept w w' [b, gl] := by
  have hlen : xs.length = n := by simpa using hr.len1
  have HL := Lib.hid hlen
  have HC := Lib.hid hC
  have HR := Lib.hid hr
  have HA := Lib.hid hA
  have HG := Lib.hid (rfLigs_any A n c xs w hr (by omega))
  have HLL := Lib.hid (fun a (h : a ∈ ligsL xs) => (show a < n by have := ligs_lt h; omega))
  have hqn : (ligsL xs).length ≤ n := by have := ligs_le xs xs.length; unfold ligsL; omega
  clear hlen hC hr hA
  go_enter Tryz.func53, Tryz.ntmps53
  go_wp2_with fail
  refine HG.out.mono ?_
  rintro e w1 ⟨⟨v, rfl, hown⟩, hb1⟩
  obtain ⟨V, cv, rfl, _⟩ := own_form hown
  have HS1 := Lib.hid (show SqAt w w1 base b gl n m A V (ligsL xs).length xs (ligsL xs) S from ⟨HC.out.low hb1, HR.out.below hb1, Rd.of_own hown, Kept.of_below hb1 _, HA.out, own_far hown (by have := HC.out.lt; simp; omega)⟩)
  clear hown hb1 HG HA HR HC
  obtain ⟨L, hL⟩ : ∃ L, ligsL xs = L := ⟨_, rfl⟩
  rw [hL] at HS1 HLL hqn
  rw [hL]
  have HLE := Lib.hid hL
  clear hL
  obtain ⟨q, hq⟩ : ∃ q, L.length = q := ⟨_, rfl⟩
  rw [hq] at HS1 hqn
  rw [hq]
  have HQL := Lib.hid hq
  clear hq
  go_wp2_with fail
  go_loopw [8] (fun i wr => ∃ (j : Nat) (S' : St), j ≤ q ∧ i = .int .i64 (j : Int) ∧ (S' = clrS (n - j) j S ∧ ∀ i, i < j → xs[n - j + i]? = some 32) ∧ SqAt w wr base b gl n m A V q xs L S') (fun i _ => q - (intOf i).toNat)
  case atStart => exact ⟨0, S, Nat.zero_le _, rfl, ⟨rfl, fun i h => absurd h (Nat.not_lt_zero i)⟩, HS1.out⟩
  case round =>
    obtain ⟨j, S', hj, rfl, hS, hN⟩ := hrel
    have HS := Lib.hid hS
    have HN := Lib.hid hN
    clear hS
    by_cases hlt : j < q
    · obtain ⟨a, hak⟩ : ∃ a, L[j]? = some a := ⟨_, List.getElem?_eq_getElem (by rw [HQL.out]; exact hlt)⟩
      have HZ := Lib.hid (show ((natZ L).map (Value.int .i64))[j]? = some (.int .i64 (a : Int)) by rw [List.getElem?_map]; simp [natZ, hak])
      obtain ⟨ad, rfl, _, hc⟩ := hN.rl.at_ hlt
      have ca : wr.cell? (ad.add j) = some (.int .i64 (a : Int)) := hc _ HZ.out
      have han := HLL.out a (List.mem_of_getElem? hak)
      obtain ⟨y, hya⟩ : ∃ y, xs[a]? = some y := ⟨_, List.getElem?_eq_getElem (by rw [HL.out]; exact han)⟩
      obtain ⟨at_, rfl, _, hct⟩ := hN.rx.at_ han
      have cy : wr.cell? (at_.add a) = some (.int .i64 y) := hct _ (by rw [List.getElem?_map, hya]; rfl)
      obtain ⟨px, pq, pok, hpar⟩ : ∃ x q ok, parF y = (x, q, ok) := ⟨_, _, _, rfl⟩
      have HPA := Lib.hid (fun W => refParted_any y px pq pok hpar W)
      have hji : (j : Int) < (q : Int) := by omega
      have hj0 : (0 : Int) ≤ (j : Int) := by omega
      have hai : (a : Int) < (n : Int) := by omega
      have ha0 : (0 : Int) ≤ (a : Int) := by omega
      obtain ⟨k, hk⟩ : ∃ k, n - 1 - j = k := ⟨_, rfl⟩
      have hkn : k < n := by omega
      obtain ⟨x, hxk⟩ : ∃ x, xs[k]? = some x := ⟨_, List.getElem?_eq_getElem (by rw [HL.out]; exact hkn)⟩
      have cx : wr.cell? (at_.add k) = some (.int .i64 x) := hN.rx.news k _ (by rw [List.getElem?_map, hxk]; rfl)
      have HX := Lib.hid hxk
      have HKE := Lib.hid hk
      have hki : (k : Int) < (n : Int) := by omega
      have hk0 : (0 : Int) ≤ (k : Int) := by omega
      have hw1 : IntKind.i64.wrap ((n : Int) - 1) = (n : Int) - 1 := by rw [IntKind.wrap_i64]; omega
      have hw2 : IntKind.i64.wrap ((n : Int) - 1 - (j : Int)) = (k : Int) := by rw [IntKind.wrap_i64]; omega
      have HKN := Lib.hid (And.intro (show n - j = k + 1 by omega) (show n - (j + 1) = k by omega))
      clear hk
      clear hc hct hak hya hpar hN hxk
      by_cases h32 : x = 32
      · subst h32
        go_wp2_with fail
        refine (HPA.out _).mono ?_
        rintro e w2 ⟨rfl, hb2⟩
        have cx2 := cell_below hb2 cx
        have HN2 := Lib.hid (HN.out.below hb2)
        have HSE := Lib.hid (tq_set base b gl n m k S' none 0 0 [] w2 HN2.out.tq hkn Rd.nil_ (by omega) (by omega))
        clear hb2 ca cy cx HPA
        go_wp2_with fail
        refine HSE.out.mono ?_
        rintro e w5 ⟨rfl, hT5, hk5⟩
        have HN5 := Lib.hid (HN2.out.next hT5 hk5)
        clear hT5 hk5 HSE cx2
        go_wp2_with fail
        go_roundw
        case rel => exact ⟨j + 1, _, by omega, by go_num, ⟨by rw [HKN.out.2, ← clrS_down, ← HKN.out.1, ← HS.out.1], fun i h => by
          rw [HKN.out.2]
          by_cases e : i = 0
          · rw [e, Nat.add_zero]; exact HX.out
          · have := HS.out.2 (i - 1) (by omega)
            rwa [HKN.out.1, show k + 1 + (i - 1) = k + i by omega] at this⟩, HN5.out⟩
        case measure => simp [intOf]; omega
      · have g1 : (x != 32) = true := by simp [h32]
        have HNO := Lib.hid (show spClear xs q (n - q) S = none from spClear_none q (n - q) S (j := q - 1 - j) (by omega) (by rw [show n - q + (q - 1 - j) = k by have := HKN.out.2; omega, HX.out]; simpa using h32))
        clear h32
        go_wp2_with fail
        refine (HPA.out _).mono ?_
        rintro e w2 ⟨rfl, hb2⟩
        have cx2 := cell_below hb2 cx
        have HN2 := Lib.hid (HN.out.below hb2)
        clear hb2 ca cy cx HPA
        go_wp2_with fail
        go_ret
        exact ⟨.inl ⟨by rw [HLE.out, HQL.out]; exact HNO.out, rfl⟩, HN2.out.kp⟩
    · have hjq : j = q := by omega
      subst hjq
      have HE := Lib.hid (show spClear xs j (n - j) S = some S' by rw [HS.out.1]; exact spClear_clr j (n - j) S HS.out.2)
      clear hN
      go_wp2_with fail
      go_ret
      exact ⟨.inr ⟨S', by rw [HLE.out, HQL.out]; exact HE.out, rfl, HN.out.tq.more (by omega)⟩, HN.out.kp⟩
set_option maxRecDepth 100000 in
set_option maxHeartbeats 4000000 in
theorem rfSpElse_any (base b gl n m c : Nat) (A : Option Addr) (xs : List Int) (S : St) (la : Int) (w : World) (hC : TQ w base b gl n m S) (hr : Rd w 1 A n (xs.map (Value.int .i64))) (hA : 0 < n → ∀ ad, A = some ad → ad.block ∉ [b, gl]) (hn : n ≤ 1000) (_hm : m ≤ 1000) (h2 : la ≠ 2) (h3 : la ≠ 3) (h4 : la ≠ 4) :
    Calls Tryz.prog 53 #[.pointer (some ⟨b, 0, none⟩), .slice A n c, .int .i64 la] w fun e w' => SpR w' base b gl n (m + n) (some S) e ∧ Kept w w' [b, gl] := by
  have hlen : xs.length = n := by simpa using hr.len1
  have HL := Lib.hid hlen
  have HC := Lib.hid hC
  have HR := Lib.hid hr
  have HA := Lib.hid hA
  have HG := Lib.hid (rfLigs_any A n c xs w hr (by omega))
  have HLL := Lib.hid (fun a (h : a ∈ ligsL xs) => (show a < n by have := ligs_lt h; omega))
  have hqn : (ligsL xs).length ≤ n := by have := ligs_le xs xs.length; unfold ligsL; omega
  clear hlen hC hr hA
  go_enter Tryz.func53, Tryz.ntmps53
  go_wp2_with fail
  refine HG.out.mono ?_
  rintro e w1 ⟨⟨v, rfl, hown⟩, hb1⟩
  obtain ⟨V, cv, rfl, _⟩ := own_form hown
  have HS1 := Lib.hid (show SqAt w w1 base b gl n m A V (ligsL xs).length xs (ligsL xs) S from ⟨HC.out.low hb1, HR.out.below hb1, Rd.of_own hown, Kept.of_below hb1 _, HA.out, own_far hown (by have := HC.out.lt; simp; omega)⟩)
  clear hown hb1 HG HA HR HC
  obtain ⟨L, hL⟩ : ∃ L, ligsL xs = L := ⟨_, rfl⟩
  rw [hL] at HS1 HLL hqn
  rw [hL]
  have HLE := Lib.hid hL
  clear hL
  obtain ⟨q, hq⟩ : ∃ q, L.length = q := ⟨_, rfl⟩
  rw [hq] at HS1 hqn
  rw [hq]
  have HQL := Lib.hid hq
  clear hq
  go_wp2_with fail
  go_loopw [8] (fun i wr => ∃ (j : Nat) (S' : St), j ≤ q ∧ i = .int .i64 (j : Int) ∧ (S' = S) ∧ SqAt w wr base b gl n m A V q xs L S') (fun i _ => q - (intOf i).toNat)
  case atStart => exact ⟨0, S, Nat.zero_le _, rfl, rfl, HS1.out⟩
  case round =>
    obtain ⟨j, S', hj, rfl, hS, hN⟩ := hrel
    have HS := Lib.hid hS
    have HN := Lib.hid hN
    clear hS
    by_cases hlt : j < q
    · obtain ⟨a, hak⟩ : ∃ a, L[j]? = some a := ⟨_, List.getElem?_eq_getElem (by rw [HQL.out]; exact hlt)⟩
      have HZ := Lib.hid (show ((natZ L).map (Value.int .i64))[j]? = some (.int .i64 (a : Int)) by rw [List.getElem?_map]; simp [natZ, hak])
      obtain ⟨ad, rfl, _, hc⟩ := hN.rl.at_ hlt
      have ca : wr.cell? (ad.add j) = some (.int .i64 (a : Int)) := hc _ HZ.out
      have han := HLL.out a (List.mem_of_getElem? hak)
      obtain ⟨y, hya⟩ : ∃ y, xs[a]? = some y := ⟨_, List.getElem?_eq_getElem (by rw [HL.out]; exact han)⟩
      obtain ⟨at_, rfl, _, hct⟩ := hN.rx.at_ han
      have cy : wr.cell? (at_.add a) = some (.int .i64 y) := hct _ (by rw [List.getElem?_map, hya]; rfl)
      obtain ⟨px, pq, pok, hpar⟩ : ∃ x q ok, parF y = (x, q, ok) := ⟨_, _, _, rfl⟩
      have HPA := Lib.hid (fun W => refParted_any y px pq pok hpar W)
      have hji : (j : Int) < (q : Int) := by omega
      have hj0 : (0 : Int) ≤ (j : Int) := by omega
      have hai : (a : Int) < (n : Int) := by omega
      have ha0 : (0 : Int) ≤ (a : Int) := by omega
      have g2 : (la == 2) = false := by simpa using h2
      have g3 : (la == 3) = false := by simpa using h3
      have g4 : (la == 4) = false := by simpa using h4
      clear hc hct hak hya hpar hN h2 h3 h4
      go_wp2_with fail
      refine (HPA.out _).mono ?_
      rintro e w2 ⟨rfl, hb2⟩
      have HN2 := Lib.hid (HN.out.below hb2)
      clear hb2 ca cy HPA
      go_wp2_with fail
      go_roundw
      case rel => exact ⟨j + 1, S', by omega, by go_num, HS.out, HN2.out⟩
      case measure => simp [intOf]; omega
    · have hjq : j = q := by omega
      subst hjq
      clear hN
      go_wp2_with fail
      go_ret
      exact ⟨.inr ⟨S', by rw [HS.out], rfl, HN.out.tq.more (by omega)⟩, HN.out.kp⟩
theorem rfSpaces_any (base b gl n m c : Nat) (A : Option Addr) (xs : List Int) (la : Int) (S : St) (w : World) (hC : TQ w base b gl n m S) (hr : Rd w 1 A n (xs.map (Value.int .i64))) (hA : 0 < n → ∀ ad, A = some ad → ad.block ∉ [b, gl]) (hn : n ≤ 1000) (hm : m ≤ 1000) :
    Calls Tryz.prog 53 #[.pointer (some ⟨b, 0, none⟩), .slice A n c, .int .i64 la] w fun e w' => SpR w' base b gl n (m + n) (spacesS mkB xs la S) e ∧ Kept w w' [b, gl] := by
  have hlen : xs.length = n := by simpa using hr.len1
  by_cases h2 : la = 2
  · subst h2
    rw [sp_near]
    exact rfSpNear_any base b gl n m c A xs S w hC hr hA hn hm
  by_cases h3 : la = 3
  · subst h3
    rw [sp_begin]
    exact rfSpBegin_any base b gl n m c A xs S w hC hr hA hn hm
  by_cases h4 : la = 4
  · subst h4
    rw [sp_end, hlen]
    exact rfSpEnd_any base b gl n m c A xs S w hC hr hA hn hm
  rw [sp_else h2 h3 h4]
  exact rfSpElse_any base b gl n m c A xs S la w hC hr hA hn hm h2 h3 h4
end Go.Proofs.YtcbiaeeifclieaaGreatDoor
/- The reference's taken: what is kept, and the first loop as mathematics. -/
namespace Go.Proofs.YtcbiaeeifclieaaGreatDoor
open Go.RowKit

/-- The first k codes by f, the others by g. -/
def mixS (f g : Int → List Int) (xs : List Int) (k : Nat) : St := xs.mapIdx fun i c => ((0 : Int), if i < k then f c else g c)
theorem mix_get (f g : Int → List Int) (xs : List Int) (k j : Nat) : (mixS f g xs k)[j]? = xs[j]?.map fun c => ((0 : Int), if j < k then f c else g c) := by unfold mixS; rw [List.getElem?_mapIdx]
theorem mix_zero (f g : Int → List Int) (xs : List Int) : mixS f g xs 0 = stOf g xs := by
  refine List.ext_getElem? fun j => ?_
  rw [mix_get]
  unfold stOf
  rw [List.getElem?_map]
  simp
theorem mix_end {f g : Int → List Int} {xs : List Int} {n : Nat} (h : xs.length = n) : mixS f g xs n = stOf f xs := by
  refine List.ext_getElem? fun j => ?_
  rw [mix_get]
  unfold stOf
  rw [List.getElem?_map]
  cases hx : xs[j]? with
  | none => rfl
  | some x =>
    have := (List.getElem?_eq_some_iff.1 hx).1
    simp only [Option.map_some]
    rw [if_pos (by omega)]
theorem mix_len (f g : Int → List Int) (xs : List Int) (k : Nat) : (mixS f g xs k).length = xs.length := by simp [mixS]
theorem mix_step {f g : Int → List Int} {xs : List Int} {k : Nat} {x : Int} (h : xs[k]? = some x) : sSet (mixS f g xs k) k (f x) = mixS f g xs (k + 1) := by
  have hk := (List.getElem?_eq_some_iff.1 h).1
  have hg : (mixS f g xs k).getD k (0, []) = (0, g x) := by rw [List.getD_eq_getElem?_getD, mix_get, h]; simp
  unfold sSet
  rw [hg]
  refine List.ext_getElem? fun j => ?_
  by_cases e : k = j
  · subst e
    rw [List.getElem?_set_self (by rw [mix_len]; exact hk), mix_get, h]
    simp
  · rw [List.getElem?_set_ne e, mix_get, mix_get]
    cases xs[j]? with
    | none => rfl
    | some y =>
      simp only [Option.map_some]
      by_cases hj : j < k
      · rw [if_pos hj, if_pos (by omega)]
      · rw [if_neg hj, if_neg (by omega)]
theorem mix_same {f g : Int → List Int} {xs : List Int} {k : Nat} {x : Int} (h : xs[k]? = some x) (e : f x = g x) : mixS f g xs k = mixS f g xs (k + 1) := by
  refine List.ext_getElem? fun j => ?_
  rw [mix_get, mix_get]
  cases hx : xs[j]? with
  | none => rfl
  | some y =>
    simp only [Option.map_some]
    by_cases hj : j < k
    · rw [if_pos hj, if_pos (by omega)]
    · by_cases hj2 : j = k
      · subst hj2
        rw [h] at hx
        obtain rfl := Option.some.inj hx
        rw [if_neg (by omega), if_pos (by omega), e]
      · rw [if_neg hj, if_neg (by omega)]
theorem bec_self {lt : Bool} {la x : Int} (h : lt = false ∨ (ligB x = true ∧ la = 0)) : becL lt la x = [x] := by
  unfold becL
  rcases h with h | ⟨h1, h2⟩
  · rw [if_pos h]
  · split
    · rfl
    · rw [if_pos ⟨h2, h1⟩]
theorem bec_back {la x : Int} (h : ¬ (ligB x = true ∧ la = 0)) : becL true la x = backL x := by
  unfold becL
  rw [if_neg (by simp), if_neg (fun k => h ⟨k.2, k.1⟩)]
theorem tl_off (xs : List Int) : ∀ (k : Nat) (S : St), tlS false false xs k S = S := by
  induction xs with
  | nil => intro k S; rfl
  | cons a xs ih =>
    intro k S
    cases xs with
    | nil => rfl
    | cons b xs =>
      rw [tlS, if_neg (by simp [backF])]
      exact ih (k + 1) S
/-- Options in a box. -/
theorem box14 {W : World} {g : Nat} {x0 x1 x2 x3 x4 x5 x6 x7 x8 x9 x10 x11 x12 x13 : Value} {t : TypeId} (h : W.heap[g]? = some (.cells #[x0, x1, x2, x3, x4, x5, x6, x7, x8, x9, x10, x11, x12, x13] t (0, 0))) : W.cell? ⟨g, 1, none⟩ = some x1 ∧ W.cell? ⟨g, 5, none⟩ = some x5 ∧ W.cell? ⟨g, 8, none⟩ = some x8 ∧ W.cell? ⟨g, 9, none⟩ = some x9 :=
  ⟨hp_cell h rfl, hp_cell h rfl, hp_cell h rfl, hp_cell h rfl⟩
/-- What taken keeps from turn to turn. -/
structure TkAt (w wr : World) (ob : Nat) (vs : Array Value) (T : TypeId) (base b gl n m : Nat) (A : Option Addr) (xs : List Int) (S : St) : Prop where
  tq : TQ wr base b gl n m S
  rx : Rd wr 1 A n (xs.map (Value.int .i64))
  lo : Below w.heap.size w wr
  bx : wr.heap[ob]? = some (.cells vs T (0, 0))
  hA : 0 < n → ∀ ad, A = some ad → ad.block ∉ [b, gl]
  far : w.heap.size ≤ b ∧ w.heap.size ≤ gl ∧ ob ≠ b ∧ ob ≠ gl
section
variable {w wr W : World} {ob base b gl n m m' : Nat} {vs : Array Value} {T : TypeId} {A : Option Addr} {xs : List Int} {S S' : St}
theorem TkAt.below (h : TkAt w wr ob vs T base b gl n m A xs S) (hb : Below wr.heap.size wr W) : TkAt w W ob vs T base b gl n m A xs S :=
  ⟨h.tq.low hb, h.rx.below hb, below_self h.lo hb, (hb.block _ (hp_lt h.bx)).trans h.bx, h.hA, h.far⟩
theorem TkAt.next (h : TkAt w wr ob vs T base b gl n m A xs S) (hq : TQ W base b gl n m' S') (hk : Kept wr W [b, gl]) : TkAt w W ob vs T base b gl n m' A xs S' :=
  ⟨hq, rd_kept0 h.rx hk h.hA, hk.lower h.lo h.lo.size (by have := h.far; simp; omega), hk.heap h.bx (by have := h.far; simp; omega), h.hA, h.far⟩
end
/-- What taken answers. -/
def TkAns (w' : World) (xs : List Int) (o : Opt) (e : Ending) : Prop :=
  (o.err ≠ 0 ∧ e = .returned (.tuple #[.pointer none, .int .i64 o.err])) ∨ (o.err = 0 ∧ unS xs o = none ∧ e = .returned (.tuple #[.pointer none, .int .i64 9])) ∨
  (o.err = 0 ∧ ∃ (S : St) (base b gl : Nat), unS xs o = some S ∧ e = .returned (.tuple #[.pointer (some ⟨b, 0, none⟩), .int .i64 0]) ∧ TQ w' base b gl xs.length (xs.length + xs.length) S)
end Go.Proofs.YtcbiaeeifclieaaGreatDoor
