/- Texts of one claim, one behind the other. -/
import Derived.Test.YtcbiaeeifclieaaGreatDoorMgM6
import Derived.Test.YtcbiaeeifclieaaGreatDoorMgM7
import Derived.Test.YtcbiaeeifclieaaGreatDoorMgM19
/- The reference's parts and Back of unshape, walked. -/
namespace Go.Proofs.YtcbiaeeifclieaaGreatDoor
open Go.RowKit

set_option maxRecDepth 100000 in
set_option maxHeartbeats 1000000 in
theorem rfParts_any (c : Int) (w : World) : Calls Tryz.prog 79 #[.int .i64 c] w fun e w' => ∃ v, e = .returned v ∧ MadeL w w' (backL c) v := by
  obtain ⟨b0, h0⟩ : ∃ b, (baseF c).2.2 = b := ⟨_, rfl⟩
  obtain ⟨b1, h1⟩ : ∃ b, (parF c).2.2 = b := ⟨_, rfl⟩
  obtain ⟨b2, h2⟩ : ∃ b, (marF c).2.2 = b := ⟨_, rfl⟩
  obtain ⟨b3, h3⟩ : ∃ b, (unpF c).2 = b := ⟨_, rfl⟩
  obtain ⟨x0, q0, e0⟩ : ∃ x q, baseF c = (x, q, b0) := ⟨_, _, by rw [← h0]⟩
  obtain ⟨x1, q1, e1⟩ : ∃ x q, parF c = (x, q, b1) := ⟨_, _, by rw [← h1]⟩
  obtain ⟨x2, q2, e2⟩ : ∃ x q, marF c = (x, q, b2) := ⟨_, _, by rw [← h2]⟩
  obtain ⟨x3, e3⟩ : ∃ x, unpF c = (x, b3) := ⟨_, by rw [← h3]⟩
  have H0 := Lib.hid (fun W => refBase_any c x0 q0 b0 e0 W)
  have H1 := Lib.hid (fun W => refParted_any c x1 q1 b1 e1 W)
  have H2 := Lib.hid (fun W => refMark_any c x2 q2 b2 e2 W)
  have H3 := Lib.hid (fun W => refUnpile_any c x3 b3 e3 W)
  have HP := Lib.hid (show backL c = (if b0 = true then some [x0] else if b1 = true then some [1604, x1] else if b2 = true then some [x2] else if b3 = true then some [1617, x3] else none).getD [c] by unfold backL partF; rw [e0, e1, e2, e3])
  clear h0 h1 h2 h3 e0 e1 e2 e3
  go_enter Tryz.func79, Tryz.ntmps79
  go_wp2_with fail
  refine (H0.out _).mono ?_
  rintro e w1 ⟨rfl, hb1⟩
  cases b0 with
  | true =>
    have H := Lib.hid (MadeL.new_ hb1 [x0])
    clear hb1
    go_wp2_with fail
    go_ret
    rw [show backL c = [x0] from HP.out]
    exact ⟨_, rfl, H.out⟩
  | false =>
    go_wp2_with fail
    refine (H1.out _).mono ?_
    rintro e w2 ⟨rfl, hb2⟩
    replace hb2 := below_self hb1 hb2
    clear hb1
    cases b1 with
    | true =>
      have H := Lib.hid (MadeL.new_ hb2 [1604, x1])
      clear hb2
      go_wp2_with fail
      go_ret
      rw [show backL c = [1604, x1] from HP.out]
      exact ⟨_, rfl, H.out⟩
    | false =>
      go_wp2_with fail
      refine (H2.out _).mono ?_
      rintro e w3 ⟨rfl, hb3⟩
      replace hb3 := below_self hb2 hb3
      clear hb2
      cases b2 with
      | true =>
        have H := Lib.hid (MadeL.new_ hb3 [x2])
        clear hb3
        go_wp2_with fail
        go_ret
        rw [show backL c = [x2] from HP.out]
        exact ⟨_, rfl, H.out⟩
      | false =>
        go_wp2_with fail
        refine (H3.out _).mono ?_
        rintro e w4 ⟨rfl, hb4⟩
        replace hb4 := below_self hb3 hb4
        clear hb3
        cases b3 with
        | true =>
          have H := Lib.hid (MadeL.new_ hb4 [1617, x3])
          clear hb4
          go_wp2_with fail
          go_ret
          rw [show backL c = [1617, x3] from HP.out]
          exact ⟨_, rfl, H.out⟩
        | false =>
          have H := Lib.hid (MadeL.new_ hb4 [c])
          clear hb4
          go_wp2_with fail
          go_ret
          rw [show backL c = [c] from HP.out]
          exact ⟨_, rfl, H.out⟩
def lsTo (f : Int → List Int) (xs : List Int) (k n : Nat) : List (List Int) := (xs.take k).map f ++ List.replicate (n - k) []
theorem lsTo_zero (f : Int → List Int) (xs : List Int) (n : Nat) : lsTo f xs 0 n = List.replicate n [] := by simp [lsTo]
theorem lsTo_end {f : Int → List Int} {xs : List Int} {n : Nat} (h : xs.length = n) : lsTo f xs n n = xs.map f := by
  subst h
  simp [lsTo]
theorem lsTo_step {f : Int → List Int} {xs : List Int} {k n : Nat} {x : Int} (h : xs[k]? = some x) (hk : k < n) : (lsTo f xs k n).set k (f x) = lsTo f xs (k + 1) n := by
  have hl : k < xs.length := (List.getElem?_eq_some_iff.1 h).1
  have hlen : ((xs.take k).map f).length = k := by simp; omega
  have hrep : List.replicate (n - k) ([] : List Int) = [] :: List.replicate (n - (k + 1)) [] := by
    rw [show n - k = (n - (k + 1)) + 1 by omega]; rfl
  unfold lsTo
  rw [List.set_append_right _ _ (by omega), hlen, Nat.sub_self, hrep, List.set_cons_zero, List.take_add_one, h]
  simp
set_option maxRecDepth 100000 in
set_option maxHeartbeats 2000000 in
theorem rf18Back_any (A : Option Addr) (n c : Nat) (xs : List Int) (w : World) (hr : Rd w 1 A n (xs.map (Value.int .i64))) (hn : n ≤ 100000) :
    Calls Tryz.prog 48 #[.slice A n c] w fun e w' => (∃ base b gl Q, e = .returned (.tuple #[.pointer (some ⟨b, 0, none⟩), .int .i64 0]) ∧ RCAt w' base b gl n Q (xs.map backL) (.slice none 0 0) ∧ w.heap.size ≤ b ∧ w.heap.size ≤ gl) ∧ Below w.heap.size w w' := by
  have hlen : xs.length = n := by simpa using hr.len1
  have HL := Lib.hid hlen
  have HR := Lib.hid hr
  have HN := Lib.hid (fun W => rcNew_any n hn W)
  clear hlen hr
  go_enter Tryz.func48, Tryz.ntmps48
  go_wp2_with fail
  refine (HN.out _).mono ?_
  rintro e w1 ⟨⟨base, b, gl, rfl, hC, h1, h2⟩, hb1⟩
  have HC := Lib.hid hC
  have HH := Lib.hid (And.intro h1 h2)
  have HB1 := Lib.hid hb1
  clear hC h1 h2 hb1
  go_wp2_with fail
  go_loopw [6] (fun i wr => ∃ (k : Nat) (Q : List Value), k ≤ n ∧ i = .int .i64 (k : Int) ∧ RCAt wr base b gl n Q (lsTo backL xs k n) (.slice none 0 0) ∧ Below w.heap.size w wr) (fun i _ => n - (intOf i).toNat)
  case atStart => exact ⟨0, _, Nat.zero_le _, rfl, by rw [lsTo_zero]; exact HC.out, HB1.out⟩
  case round =>
    obtain ⟨k, Q, hk, rfl, hC, hb⟩ := hrel
    have HCr := Lib.hid hC
    have HBr := Lib.hid hb
    have k0 : (0 : Int) ≤ (k : Int) := by omega
    by_cases hlt : k < n
    · obtain ⟨x, hxk⟩ : ∃ x, xs[k]? = some x := ⟨_, List.getElem?_eq_getElem (by rw [HL.out]; exact hlt)⟩
      obtain ⟨ad, rfl, _, hc⟩ := (HR.out.below hb).at_ hlt
      have cx : wr.cell? (ad.add k) = some (.int .i64 x) := hc _ (by rw [List.getElem?_map, hxk]; rfl)
      have k1 : (k : Int) < (n : Int) := by omega
      have HPA := Lib.hid (rfParts_any x wr)
      have HS := Lib.hid (lsTo_step (f := backL) hxk hlt)
      have HBL := Lib.hid (back_len x).2
      clear hc hxk hC hb
      go_wp2_with fail
      refine HPA.out.mono ?_
      rintro e w4 ⟨v, rfl, hmade⟩
      obtain ⟨g, hg, rfl, hh, hb4⟩ := hmade
      have HB4 := Lib.hid (below_self HBr.out hb4)
      have HSE := Lib.hid (rcSet_any base b gl n k Q _ _ (some ⟨g, 0, none⟩) (backL x).length (backL x).length (backL x) w4 (HCr.out.low hb4) hlt (by
        refine ⟨by simp, fun _ => ⟨_, rfl, hp_lt hh, fun j u hu => ?_⟩⟩
        rw [addNew]
        exact hp_cell hh (by simpa [intsZ] using hu)) (by have := HBL.out; omega) hn)
      clear hb4 hh hg
      go_wp2_with fail
      refine HSE.out.mono ?_
      rintro e w5 ⟨rfl, ⟨v5, hC5, _⟩, hk5⟩
      rw [HS.out] at hC5
      have HC5 := Lib.hid hC5
      have HB5 := Lib.hid (hk5.lower HB4.out HB4.out.size (by have := HH.out.2; simpa using this))
      clear hC5 hk5
      go_wp2_with fail
      go_roundw
      case rel => exact ⟨k + 1, _, by omega, by go_num, HC5.out, HB5.out⟩
      case measure => simp [intOf]; omega
    · have hkn : k = n := by omega
      have HE := Lib.hid (show RCAt wr base b gl n Q (xs.map backL) (.slice none 0 0) by have := HCr.out; rwa [hkn, lsTo_end HL.out] at this)
      clear hC hb
      go_wp2_with fail
      refine bodyPost_ret (v := .tuple #[.pointer (some ⟨b, 0, none⟩), .int .i64 0]) (by simp [results, go_sem]) rfl ?_
      exact ⟨⟨base, b, gl, Q, rfl, HE.out, HH.out.1, HH.out.2⟩, HBr.out⟩
end Go.Proofs.YtcbiaeeifclieaaGreatDoor
