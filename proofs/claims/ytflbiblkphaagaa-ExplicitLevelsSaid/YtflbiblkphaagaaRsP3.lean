/- The reference's stack: Embed, Isolate, EndEmbed, EndIsolate, walked. -/
import Derived.Test.YtflbiblkphaagaaRsP2
namespace Go.Proofs.Ytflbiblkphaagaa
open Go.RowKit

set_option maxRecDepth 100000 in
set_option maxHeartbeats 4000000 in
theorem rsEmbed_any (b : Nat) (s : Stk) (r : Bool) (o : Int) (w : World) (h : RsAt w b s) (hb : s.b ≤ 100000000) : Calls Try.prog 39 #[.pointer (some ⟨b, 0, none⟩), .bool r, .int .i64 o] w fun e w' => e = .returned (.bool (embS s r o).1) ∧ RsAt w' b (embS s r o).2 ∧ Kept w w' [b] := by
  have HM := Lib.hid (rsRoom_any b s r w h)
  have HS := Lib.hid h
  have hn := nextN_gt s.top.lv r
  cases hr : roomS s r with
  | true =>
    have hp : pushS s ⟨nextS s r, o, false⟩ = (true, { s with R := ⟨nextS s r, o, false⟩ :: s.R }) := push_ok (by show s.top.lv < nextS s r; unfold nextS; omega) (room_iff.1 hr).1
    have HP := Lib.hid hp
    rw [hr] at HM
    rw [emb_room hr]
    clear h hr hn hp
    go_enter Try.func39, Try.ntmps39
    go_wp2_with fail
    refine HM.out.mono ?_
    rintro e w1 ⟨rfl, hb1⟩
    have HS1 := Lib.hid (HS.out.low hb1)
    have HK1 := Lib.hid (Kept.of_below hb1 [b])
    clear hb1
    go_wp2_with fail
    refine (rsNext_any b s r w1 HS1.out).mono ?_
    rintro e w2 ⟨rfl, hb2⟩
    have HS2 := Lib.hid (HS1.out.low hb2)
    have HK2 := Lib.hid (HK1.out.trans (Kept.of_below hb2 [b]))
    have HG := Lib.hid (rsPush_any b s ⟨nextS s r, o, false⟩ w2 HS2.out)
    rw [HP.out] at HG
    unfold entV at HG
    clear hb2
    go_wp2_with fail
    refine HG.out.mono ?_
    rintro e w3 ⟨rfl, hA, hK⟩
    have HA := Lib.hid hA
    have HK := Lib.hid (HK2.out.trans hK)
    clear hA hK
    go_wp2
    go_ret
    exact ⟨rfl, HA.out, HK.out⟩
  | false =>
    rw [hr] at HM
    rw [emb_no hr]
    obtain ⟨T, hT⟩ : ∃ T, (if s.a = 0 then { s with b := s.b + 1 } else s) = T := ⟨_, rfl⟩
    rw [hT]
    have HTT := Lib.hid hT
    clear h hr hn hT
    go_enter Try.func39, Try.ntmps39
    go_wp2_with fail
    refine HM.out.mono ?_
    rintro e w1 ⟨rfl, hb1⟩
    have hA := HS.out.low hb1
    have ca := hA.ca
    have cb := hA.cb
    have fb := hA.froz 2
    have HA := Lib.hid hA
    have HK := Lib.hid (Kept.of_below hb1 [b])
    have HB := hA.setB (s.b + 1)
    rw [show ((s.b + 1 : Nat) : Int) = (s.b : Int) + 1 by omega] at HB
    have HB := Lib.hid HB
    have HKB := Lib.hid (HK.out.set (.inl (List.mem_singleton.2 rfl)) 2 (.int .i64 ((s.b : Int) + 1)))
    clear hA hb1
    have hb' : (s.b : Int) ≤ 100000000 := by omega
    have hb0 : (0 : Int) ≤ (s.b : Int) := by omega
    by_cases ha : s.a = 0
    · have ha' : (s.a : Int) = 0 := by omega
      rw [ha'] at ca
      go_wp2
      go_ret
      rw [← HTT.out, if_pos ha]
      exact ⟨rfl, HB.out, HKB.out⟩
    · have ha' : ((s.a : Int) == 0) = false := by simp; omega
      go_wp2
      go_ret
      rw [← HTT.out, if_neg ha]
      exact ⟨rfl, HA.out, HK.out⟩
set_option maxRecDepth 100000 in
set_option maxHeartbeats 4000000 in
theorem rsIsolate_any (b : Nat) (s : Stk) (r : Bool) (w : World) (h : RsAt w b s) (hb : s.a ≤ 100000000) (hc : s.c ≤ 100000000) : Calls Try.prog 40 #[.pointer (some ⟨b, 0, none⟩), .bool r] w fun e w' => e = .returned (.bool (isoS s r).1) ∧ RsAt w' b (isoS s r).2 ∧ Kept w w' [b] := by
  have HM := Lib.hid (rsRoom_any b s r w h)
  have HS := Lib.hid h
  have hn := nextN_gt s.top.lv r
  cases hr : roomS s r with
  | true =>
    have hp : pushS { s with c := s.c + 1 } ⟨nextS s r, 13, true⟩ = (true, { s with R := ⟨nextS s r, 13, true⟩ :: s.R, c := s.c + 1 }) := push_ok (by show s.top.lv < nextS s r; unfold nextS; omega) (room_iff.1 hr).1
    have HP := Lib.hid hp
    have HNX : Hid (nextS { s with c := s.c + 1 } r = nextS s r) := Lib.hid rfl
    rw [hr] at HM
    rw [iso_room hr]
    clear h hr hn hp
    go_enter Try.func40, Try.ntmps40
    go_wp2_with fail
    refine HM.out.mono ?_
    rintro e w1 ⟨rfl, hb1⟩
    have hA := HS.out.low hb1
    have cc := hA.cc
    have fc := hA.froz 3
    have hC := hA.setC (s.c + 1)
    rw [show ((s.c + 1 : Nat) : Int) = (s.c : Int) + 1 by omega] at hC
    have HC := Lib.hid hC
    have HKC := Lib.hid ((Kept.of_below hb1 [b]).set (.inl (List.mem_singleton.2 rfl)) 3 (.int .i64 ((s.c : Int) + 1)))
    have hb' : (s.c : Int) ≤ 100000000 := by omega
    have hb0 : (0 : Int) ≤ (s.c : Int) := by omega
    have HN1 := Lib.hid (rsNext_any b _ r _ HC.out)
    rw [HNX.out] at HN1
    clear hA hC hb1
    go_wp2_with fail
    refine HN1.out.mono ?_
    rintro e w2 ⟨rfl, hb2⟩
    have HS2 := Lib.hid (HC.out.low hb2)
    have HK2 := Lib.hid (HKC.out.trans (Kept.of_below hb2 [b]))
    have HG := Lib.hid (rsPush_any b _ ⟨nextS s r, 13, true⟩ w2 HS2.out)
    rw [HP.out] at HG
    unfold entV at HG
    clear hb2
    go_wp2_with fail
    refine HG.out.mono ?_
    rintro e w3 ⟨rfl, hA, hK⟩
    have HA := Lib.hid hA
    have HK := Lib.hid (HK2.out.trans hK)
    clear hA hK
    go_wp2
    go_ret
    exact ⟨rfl, HA.out, HK.out⟩
  | false =>
    rw [hr] at HM
    rw [iso_no hr]
    clear h hr hn
    go_enter Try.func40, Try.ntmps40
    go_wp2_with fail
    refine HM.out.mono ?_
    rintro e w1 ⟨rfl, hb1⟩
    have hA := HS.out.low hb1
    have ca := hA.ca
    have fa := hA.froz 1
    have HB := hA.setA (s.a + 1)
    rw [show ((s.a + 1 : Nat) : Int) = (s.a : Int) + 1 by omega] at HB
    have HB := Lib.hid HB
    have HKB := Lib.hid ((Kept.of_below hb1 [b]).set (.inl (List.mem_singleton.2 rfl)) 1 (.int .i64 ((s.a : Int) + 1)))
    clear hA hb1
    have hb' : (s.a : Int) ≤ 100000000 := by omega
    have hb0 : (0 : Int) ≤ (s.a : Int) := by omega
    go_wp2
    go_ret
    exact ⟨rfl, HB.out, HKB.out⟩
end Go.Proofs.Ytflbiblkphaagaa
