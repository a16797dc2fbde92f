/- The reference's stack: EndEmbed, EndIsolate, walked. -/
import Derived.Test.YtflbiblkphaagaaRsP2
namespace Go.Proofs.Ytflbiblkphaagaa
open Go.RowKit

set_option maxRecDepth 100000 in
set_option maxHeartbeats 2000000 in
theorem rsEndE_any (b : Nat) (s : Stk) (w : World) (h : RsAt w b s) (hb : s.b ≤ 100000000) : Calls Try.prog 41 #[.pointer (some ⟨b, 0, none⟩)] w fun e w' => e = .returned (.tuple #[]) ∧ RsAt w' b (endES s) ∧ Kept w w' [b] := by
  have HT := Lib.hid (rsTop_any b s w h)
  have HP := Lib.hid (fun W (k : Below w.heap.size w W) => rsPop_any b s W (h.low k))
  have ca := h.ca
  have cb := h.cb
  have fb := h.froz 2
  have HS := Lib.hid h
  have hsb : (s.b : Int) ≤ 100000000 := by omega
  have hsa0 : (0 : Int) ≤ (s.a : Int) := by omega
  have hsb0 : (0 : Int) ≤ (s.b : Int) := by omega
  unfold entV at HT
  obtain ⟨T, hT⟩ : ∃ T, endES s = T := ⟨_, rfl⟩
  rw [hT]
  by_cases ha : 0 < s.a
  · have hd : decide ((0 : Int) < (s.a : Int)) = true := by simp; omega
    have hE : endES s = s := by unfold endES; rw [if_pos ha]
    have HE := Lib.hid (hT.symm.trans hE)
    clear hT hE h
    go_enter Try.func41, Try.ntmps41
    go_wp2
    refine bodyPost_end (v := .tuple #[]) (by simp [results, go_sem]) rfl ⟨rfl, ?_⟩
    rw [HE.out]
    exact ⟨HS.out, Kept.refl _ _⟩
  · have hd : decide ((0 : Int) < (s.a : Int)) = false := by simp; omega
    by_cases hb2 : 0 < s.b
    · have hd2 : decide ((0 : Int) < (s.b : Int)) = true := by simp; omega
      have hE : endES s = { s with b := s.b - 1 } := by unfold endES; rw [if_neg ha, if_pos hb2]
      have HE := Lib.hid (hT.symm.trans hE)
      have HB := h.setB (s.b - 1)
      rw [show ((s.b - 1 : Nat) : Int) = (s.b : Int) - 1 by omega] at HB
      have HB := Lib.hid HB
      have HKB := Lib.hid ((Kept.refl w [b]).set (.inl (List.mem_singleton.2 rfl)) 2 (.int .i64 ((s.b : Int) - 1)))
      clear hT hE h
      go_enter Try.func41, Try.ntmps41
      go_wp2
      refine bodyPost_end (v := .tuple #[]) (by simp [results, go_sem]) rfl ⟨rfl, ?_⟩
      rw [HE.out]
      exact ⟨HB.out, HKB.out⟩
    · have hd2 : decide ((0 : Int) < (s.b : Int)) = false := by simp; omega
      have fd := entR_is s.top.lv s.top.ov s.top.is
      have hE : endES s = if s.top.is = true then s else (popS s).2 := by unfold endES; rw [if_neg ha, if_neg hb2]
      cases hi : s.top.is with
      | true =>
        rw [hi] at HT fd
        rw [hi, if_pos rfl] at hE
        have HE := Lib.hid (hT.symm.trans hE)
        clear hT hE h
        go_enter Try.func41, Try.ntmps41
        go_wp2_with fail
        refine HT.out.mono ?_
        rintro e w2 ⟨rfl, hb3⟩
        have HS2 := Lib.hid (HS.out.low hb3)
        have HK2 := Lib.hid (Kept.of_below hb3 [b])
        clear hb3
        go_wp2
        refine bodyPost_end (v := .tuple #[]) (by simp [results, go_sem]) rfl ⟨rfl, ?_⟩
        rw [HE.out]
        exact ⟨HS2.out, HK2.out⟩
      | false =>
        rw [hi] at HT fd
        rw [hi, if_neg (by decide)] at hE
        have HE := Lib.hid (hT.symm.trans hE)
        clear hT hE h
        go_enter Try.func41, Try.ntmps41
        go_wp2_with fail
        refine HT.out.mono ?_
        rintro e w2 ⟨rfl, hb3⟩
        have HP2 := Lib.hid (HP.out _ hb3)
        have HK2 := Lib.hid (Kept.of_below hb3 [b])
        clear hb3
        go_wp2_with fail
        refine HP2.out.mono ?_
        rintro e w3 ⟨rfl, hA, hK⟩
        have HA := Lib.hid hA
        have HK := Lib.hid (HK2.out.trans hK)
        clear hA hK
        go_wp2
        refine bodyPost_end (v := .tuple #[]) (by simp [results, go_sem]) rfl ⟨rfl, ?_⟩
        rw [HE.out]
        exact ⟨HA.out, HK.out⟩
theorem popR_tail (s : Stk) : (popS s).2 = { s with R := s.R.tail } := by
  unfold popS
  cases h : s.R with
  | nil => cases s; simp_all
  | cons x R => simp
/-- The number of entries, as memory has it. -/
def szRAt (w : World) (b : Nat) : Nat := match w.cell? ⟨b, 0, none⟩ with
  | some (.slice _ n _) => n
  | _ => 0
theorem RsAt.szR {w : World} {b : Nat} {s : Stk} (h : RsAt w b s) : szRAt w b = s.R.length + 1 := by
  obtain ⟨ad, c, c0, _⟩ := h.sl
  unfold szRAt
  rw [c0]
set_option maxRecDepth 100000 in
set_option maxHeartbeats 4000000 in
theorem rsEndI_any (b : Nat) (s : Stk) (w : World) (h : RsAt w b s) (ha8 : s.a ≤ 100000000) (hc8 : s.c ≤ 100000000) : Calls Try.prog 42 #[.pointer (some ⟨b, 0, none⟩)] w fun e w' => e = .returned (.tuple #[]) ∧ RsAt w' b (endIS s) ∧ Kept w w' [b] := by
  have ca := h.ca
  have cc := h.cc
  have fa := h.froz 1
  have HS := Lib.hid h
  have hsa : (s.a : Int) ≤ 100000000 := by omega
  have hsc : (s.c : Int) ≤ 100000000 := by omega
  have hsa0 : (0 : Int) ≤ (s.a : Int) := by omega
  have hsc0 : (0 : Int) ≤ (s.c : Int) := by omega
  obtain ⟨T, hT⟩ : ∃ T, endIS s = T := ⟨_, rfl⟩
  rw [hT]
  by_cases ha : 0 < s.a
  · have hd : decide ((0 : Int) < (s.a : Int)) = true := by simp; omega
    have hE : endIS s = { s with a := s.a - 1 } := by unfold endIS; rw [if_pos ha]
    have HE := Lib.hid (hT.symm.trans hE)
    have HB := h.setA (s.a - 1)
    rw [show ((s.a - 1 : Nat) : Int) = (s.a : Int) - 1 by omega] at HB
    have HB := Lib.hid HB
    have HKB := Lib.hid ((Kept.refl w [b]).set (.inl (List.mem_singleton.2 rfl)) 1 (.int .i64 ((s.a : Int) - 1)))
    clear hT hE h
    go_enter Try.func42, Try.ntmps42
    go_wp2
    refine bodyPost_end (v := .tuple #[]) (by simp [results, go_sem]) rfl ⟨rfl, ?_⟩
    rw [HE.out]
    exact ⟨HB.out, HKB.out⟩
  · have hd : decide ((0 : Int) < (s.a : Int)) = false := by simp; omega
    by_cases hc : 0 < s.c
    · have hd2 : decide ((0 : Int) < (s.c : Int)) = true := by simp; omega
      have hE : endIS s = { s with b := 0, R := (s.R.dropWhile fun e => !e.is).tail, c := s.c - 1 } := by unfold endIS; rw [if_neg ha, if_pos hc]
      have HE := Lib.hid (hT.symm.trans hE)
      have cb := h.cb
      have fb := h.froz 2
      have HB := Lib.hid (h.setB 0)
      have HKB := Lib.hid ((Kept.refl w [b]).set (.inl (List.mem_singleton.2 rfl)) 2 (.int .i64 0))
      clear hT hE h
      go_enter Try.func42, Try.ntmps42
      go_wp2_with fail
      go_loopw [] (fun wr => ∃ R', RsAt wr b { s with b := 0, R := R' } ∧ R'.dropWhile (fun e => !e.is) = s.R.dropWhile (fun e => !e.is) ∧ Kept w wr [b]) (fun wr => szRAt wr b)
      case atStart => exact ⟨s.R, HB.out, rfl, HKB.out⟩
      case round =>
        obtain ⟨R', hA, hD, hK⟩ := hrel
        have hsz := hA.szR
        simp only at hsz
        have hlen := hA.ris.len
        simp only [Stk.len] at hlen
        obtain ⟨ad, cd, c0, _, _, _, _, _, _, _⟩ := hA.sl
        simp only at c0
        have HA := Lib.hid hA
        have HDR := Lib.hid hD
        have HK := Lib.hid hK
        have HSZ := Lib.hid hsz
        cases R' with
        | nil =>
          have HTL : Hid ((([] : List Ent).dropWhile (fun e => !e.is)).tail = ([] : List Ent).tail) := Lib.hid rfl
          have HPQ := Lib.hid (rsPop_any b _ wr hA)
          have HKQ := HK
          clear hA hD hK hsz cb fb ca cc fa
          simp only [List.length_nil] at c0
          go_wp2_with fail
          refine HPQ.out.mono ?_
          rintro e w4 ⟨rfl, hA4, hK4⟩
          rw [popR_tail] at hA4
          have cc4 := hA4.cc
          have fc4 := hA4.froz 3
          simp only at cc4
          have HB4 := hA4.setC (s.c - 1)
          rw [show ((s.c - 1 : Nat) : Int) = (s.c : Int) - 1 by omega] at HB4
          have HB4 := Lib.hid HB4
          have HK4 := Lib.hid ((HKQ.out.trans hK4).set (.inl (List.mem_singleton.2 rfl)) 3 (.int .i64 ((s.c : Int) - 1)))
          clear hA4 hK4
          go_wp2
          refine bodyPost_end (v := .tuple #[]) (by simp [results, go_sem]) rfl ⟨rfl, ?_⟩
          rw [HE.out, ← HDR.out, HTL.out]
          exact ⟨HB4.out, HK4.out⟩
        | cons x R' =>
          have HT := Lib.hid (rsTop_any b _ wr hA)
          have htp : (Stk.top { s with b := 0, R := x :: R' }) = x := rfl
          rw [htp] at HT
          obtain ⟨lv, ov, is⟩ := x
          unfold entV at HT
          simp only at HT
          have fd := entR_is lv ov is
          obtain ⟨n, hn⟩ : ∃ n, (⟨lv, ov, is⟩ :: R' : List Ent).length + 1 = n := ⟨_, rfl⟩
          rw [hn] at c0 hlen
          have hn2 : 2 ≤ n := by rw [← hn, List.length_cons]; omega
          have hn2' : (2 : Int) ≤ (n : Int) := by omega
          have hd1 : decide ((1 : Int) < (n : Int)) = true := by simp; omega
          clear hA hD hK hsz htp cb fb ca cc fa hn
          cases is with
          | true =>
            go_wp2_with fail
            refine HT.out.mono ?_
            rintro e w2 ⟨rfl, hb2⟩
            have HPQ := Lib.hid (rsPop_any b _ w2 (HA.out.low hb2))
            have HKQ := Lib.hid (HK.out.trans (Kept.of_below hb2 [b]))
            have HTL : Hid (((⟨lv, ov, true⟩ :: R' : List Ent).dropWhile (fun e => !e.is)).tail = (⟨lv, ov, true⟩ :: R' : List Ent).tail) := Lib.hid (by
              rw [List.dropWhile_cons, if_neg (by simp)])
            clear hb2
            go_wp2_with fail
            refine HPQ.out.mono ?_
            rintro e w4 ⟨rfl, hA4, hK4⟩
            rw [popR_tail] at hA4
            have cc4 := hA4.cc
            have fc4 := hA4.froz 3
            simp only at cc4
            have HB4 := hA4.setC (s.c - 1)
            rw [show ((s.c - 1 : Nat) : Int) = (s.c : Int) - 1 by omega] at HB4
            have HB4 := Lib.hid HB4
            have HK4 := Lib.hid ((HKQ.out.trans hK4).set (.inl (List.mem_singleton.2 rfl)) 3 (.int .i64 ((s.c : Int) - 1)))
            clear hA4 hK4
            go_wp2
            refine bodyPost_end (v := .tuple #[]) (by simp [results, go_sem]) rfl ⟨rfl, ?_⟩
            rw [HE.out, ← HDR.out, HTL.out]
            exact ⟨HB4.out, HK4.out⟩
          | false =>
            go_wp2_with fail
            refine HT.out.mono ?_
            rintro e w2 ⟨rfl, hb2⟩
            have HP := Lib.hid (rsPop_any b _ w2 (HA.out.low hb2))
            have HK2 := Lib.hid (HK.out.trans (Kept.of_below hb2 [b]))
            have hp0 : (popS { s with b := 0, R := ⟨lv, ov, false⟩ :: R' }) = (true, { s with b := 0, R := R' }) := rfl
            rw [hp0] at HP
            have HD2 : Hid (R'.dropWhile (fun e => !e.is) = s.R.dropWhile (fun e => !e.is)) := Lib.hid (by
              rw [← HDR.out, List.dropWhile_cons, if_pos (by rfl)])
            clear hb2 hp0
            go_wp2_with fail
            refine HP.out.mono ?_
            rintro e w3 ⟨rfl, hA3, hK3⟩
            have HS3 := Lib.hid hA3.szR
            have HA3 := Lib.hid hA3
            have HK3 := Lib.hid (HK2.out.trans hK3)
            clear hA3 hK3
            go_wp2_with fail
            go_roundw
            case rel => exact ⟨R', HA3.out, HD2.out, HK3.out⟩
            case measure => rw [HS3.out, HSZ.out]; simp
    · have hd2 : decide ((0 : Int) < (s.c : Int)) = false := by simp; omega
      have hE : endIS s = s := by unfold endIS; rw [if_neg ha, if_neg hc]
      have HE := Lib.hid (hT.symm.trans hE)
      clear hT hE h
      go_enter Try.func42, Try.ntmps42
      go_wp2
      refine bodyPost_end (v := .tuple #[]) (by simp [results, go_sem]) rfl ⟨rfl, ?_⟩
      rw [HE.out]
      exact ⟨HS.out, Kept.refl _ _⟩
end Go.Proofs.Ytflbiblkphaagaa
