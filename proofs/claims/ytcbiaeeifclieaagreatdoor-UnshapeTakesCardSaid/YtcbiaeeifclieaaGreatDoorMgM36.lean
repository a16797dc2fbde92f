/- Texts of one claim, one behind the other. -/
import Derived.Deep.CutBlock
import Derived.Deep.DeepCutAuto
import Derived.Deep.RegionHeld3
import Derived.Test.YtcbiaeeifclieaaGreatDoorMgM7
import Derived.Test.YtcbiaeeifclieaaGreatDoorMgM19
import Derived.Test.YtcbiaeeifclieaaGreatDoorMgM21
import Derived.Test.YtcbiaeeifclieaaGreatDoorMgM22
import Derived.Test.YtcbiaeeifclieaaGreatDoorMgM33
import Derived.Test.YtcbiaeeifclieaaGreatDoorMgM35
/- The reference's taken, walked. -/
namespace Go.Proofs.YtcbiaeeifclieaaGreatDoor
open Go.RowKit

set_option maxRecDepth 100000 in
set_option maxHeartbeats 8000000 in
theorem rfTaken_any (A : Option Addr) (n c : Nat) (xs : List Int) (d l t g : Int) (b0 b1 b2 b3 b4 b5 b6 b7 b8 b9 : Bool) (w : World) (hr : Rd w 1 A n (xs.map (Value.int .i64))) (hn : n ≤ 1000) :
    Calls Tryz.prog 20 #[.slice A n c, .agg #[.int .i64 d, .int .i64 l, .int .i64 t, .int .i64 g, .bool b0, .bool b1, .bool b2, .bool b3, .bool b4, .bool b5, .bool b6, .bool b7, .bool b8, .bool b9]] w fun e w' => TkAns w' xs ⟨d, l, t, g, b0, b1, b2, b3, b4, b5, b6, b7, b8, b9⟩ e ∧ Below w.heap.size w w' := by
  have hlen : xs.length = n := by simpa using hr.len1
  obtain ⟨o, ho⟩ : ∃ o : Opt, (⟨d, l, t, g, b0, b1, b2, b3, b4, b5, b6, b7, b8, b9⟩ : Opt) = o := ⟨_, rfl⟩
  obtain ⟨E, hE⟩ : ∃ E, o.err = E := ⟨_, rfl⟩
  have hb0 := below_new w (.cells #[.int .i64 d, .int .i64 l, .int .i64 t, .int .i64 g, .bool b0, .bool b1, .bool b2, .bool b3, .bool b4, .bool b5, .bool b6, .bool b7, .bool b8, .bool b9] 24)
  have HCH := Lib.hid (fun W => refCheckO_any d l t g b0 b1 b2 b3 b4 b5 b6 b7 b8 b9 E (by rw [ho]; exact hE) W)
  have HO1 := Lib.hid (heap_alloc_new w (.cells #[.int .i64 d, .int .i64 l, .int .i64 t, .int .i64 g, .bool b0, .bool b1, .bool b2, .bool b3, .bool b4, .bool b5, .bool b6, .bool b7, .bool b8, .bool b9] 24))
  have hcel := cells_new w [.int .i64 d, .int .i64 l, .int .i64 t, .int .i64 g, .bool b0, .bool b1, .bool b2, .bool b3, .bool b4, .bool b5, .bool b6, .bool b7, .bool b8, .bool b9] 24
  have HB0 := Lib.hid hb0
  have HL := Lib.hid hlen
  have HE := Lib.hid hE
  have HR := Lib.hid hr
  have HUN := Lib.hid (show unS xs o = spacesS mkB xs l (tlS b4 b5 xs 0 (stOf (becL b1 l) xs)) by rw [← ho]; rfl)
  have HOF := Lib.hid (show E = 0 → b1 = false → b4 = false ∧ b5 = false by
    intro h0 h1
    rw [← hE, ← ho] at h0
    subst h1
    unfold Opt.err at h0
    split at h0
    · split at h0
      · cases h0
      · rename_i hod
        simp [Opt.odd] at hod
        exact ⟨hod.1.1.1.1.2, hod.1.1.1.2⟩
    · cases h0)
  rw [ho]
  clear hr hlen hE hb0 ho
  go_enter Tryz.func20, Tryz.ntmps20
  go_wp2_with fail
  refine (HCH.out _).mono ?_
  rintro e w2 ⟨rfl, hb2⟩
  have HZ2 := Lib.hid (below_self HB0.out hb2)
  have HO2 := Lib.hid ((hb2.block _ (hp_lt HO1.out)).trans HO1.out)
  clear hb2 hcel HCH
  by_cases hE0 : E = 0
  · subst hE0
    have HR2 := Lib.hid (HR.out.below HZ2.out)
    have HBK := Lib.hid (rf18Back_any A n c xs w2 HR2.out (by omega))
    go_wp2_with fail
    refine HBK.out.mono ?_
    rintro e w3 ⟨⟨base, b, gl, Q, rfl, hC, h1, h2⟩, hb3⟩
    have HT3 := Lib.hid (show TkAt w w3 w.heap.size #[.int .i64 d, .int .i64 l, .int .i64 t, .int .i64 g, .bool b0, .bool b1, .bool b2, .bool b3, .bool b4, .bool b5, .bool b6, .bool b7, .bool b8, .bool b9] 24 base b gl n 0 A xs (stOf backL xs) from
      ⟨TQ.of_new backL hC, HR2.out.below hb3, below_self HZ2.out hb3, (hb3.block _ (hp_lt HO2.out)).trans HO2.out, fun h0 ad e => by
        subst e
        obtain ⟨ad', e', hlt, _⟩ := HR.out.2 h0
        cases e'
        have := HZ2.out.size
        simp
        omega, by
        have := HZ2.out.size
        have := hp_lt HO2.out
        omega⟩)
    clear hC h1 h2 hb3 HBK HR2 HO2 HZ2 HO1 HB0
    obtain ⟨ob, hob⟩ : ∃ ob, w.heap.size = ob := ⟨_, rfl⟩
    rw [hob] at HT3
    rw [hob]
    have HOB := Lib.hid hob
    clear hob
    go_wp2_with fail
    go_loopw [9] (fun i wr => ∃ k : Nat, k ≤ n ∧ i = .int .i64 (k : Int) ∧ TkAt w wr ob #[.int .i64 d, .int .i64 l, .int .i64 t, .int .i64 g, .bool b0, .bool b1, .bool b2, .bool b3, .bool b4, .bool b5, .bool b6, .bool b7, .bool b8, .bool b9] 24 base b gl n 0 A xs (mixS (becL b1 l) backL xs k)) (fun i _ => n - (intOf i).toNat)
    case atStart => exact ⟨0, Nat.zero_le _, rfl, by rw [mix_zero]; exact HT3.out⟩
    case round =>
      obtain ⟨k, hk, rfl, hT⟩ := hrel
      have HT := Lib.hid hT
      obtain ⟨k1, k5, k8, k9⟩ := box14 hT.bx
      clear k8 k9
      by_cases hlt : k < n
      · obtain ⟨x, hxk⟩ : ∃ x, xs[k]? = some x := ⟨_, List.getElem?_eq_getElem (by rw [HL.out]; exact hlt)⟩
        obtain ⟨ad, rfl, _, hc⟩ := hT.rx.at_ hlt
        have cx : wr.cell? (ad.add k) = some (.int .i64 x) := hc _ (by rw [List.getElem?_map, hxk]; rfl)
        obtain ⟨px, pq, pok, hpar⟩ : ∃ y q ok, parF x = (y, q, ok) := ⟨_, _, _, rfl⟩
        have HPA := Lib.hid (fun W => refParted_any x px pq pok hpar W)
        have HLI := Lib.hid (show ligB x = pok from congrArg (fun t => t.2.2) hpar)
        have HX := Lib.hid hxk
        have hki : (k : Int) < (n : Int) := by omega
        have hk0 : (0 : Int) ≤ (k : Int) := by omega
        clear hc hxk hpar hT
        by_cases hcase : b1 = false ∨ (pok = true ∧ l = 0)
        · have HMX := Lib.hid (show sSet (mixS (becL b1 l) backL xs k) k [x] = mixS (becL b1 l) backL xs (k + 1) by
            rw [← mix_step HX.out, bec_self (hcase.imp id fun h => ⟨HLI.out.trans h.1, h.2⟩)])
          have hg : (b1 = false) ∨ (b1 = true ∧ pok = true ∧ l = 0) := by
            cases b1
            · exact .inl rfl
            · exact .inr ⟨rfl, by simpa using hcase⟩
          clear hcase
          go_wp2_with fail
          refine (HPA.out _).mono ?_
          rintro e w4 ⟨rfl, hb4⟩
          have q1 := cell_below hb4 k1
          have q5 := cell_below hb4 k5
          have qx := cell_below hb4 cx
          have HT4 := Lib.hid (HT.out.below hb4)
          have hbn := below_new w4 (.cells #[.int .i64 x] 3)
          have HSE := Lib.hid (tq_set base b gl n 0 k _ (some ⟨w4.heap.size, 0, none⟩) 1 1 [x] _ (HT4.out.below hbn).tq hlt (rdOne w4 x 3) (by omega) (by omega))
          have HT5 := Lib.hid (HT4.out.below hbn)
          clear hb4 hbn k1 k5 cx HPA HT
          rcases hg with rfl | ⟨rfl, rfl, rfl⟩
          · go_wp2_with fail
            refine HSE.out.mono ?_
            rintro e w5 ⟨rfl, hq5, hk5⟩
            rw [HMX.out] at hq5
            have HT6 := Lib.hid (HT5.out.next hq5 hk5)
            clear hq5 hk5 HSE q1 q5 qx
            go_wp2_with fail
            go_roundw
            case rel => exact ⟨k + 1, by omega, by go_num, HT6.out⟩
            case measure => simp [intOf]; omega
          · go_wp2_with fail
            refine HSE.out.mono ?_
            rintro e w5 ⟨rfl, hq5, hk5⟩
            rw [HMX.out] at hq5
            have HT6 := Lib.hid (HT5.out.next hq5 hk5)
            clear hq5 hk5 HSE q1 q5 qx
            go_wp2_with fail
            go_roundw
            case rel => exact ⟨k + 1, by omega, by go_num, HT6.out⟩
            case measure => simp [intOf]; omega
        · have hb1 : b1 = true := by cases b1; exact absurd (.inl rfl) hcase; rfl
          subst hb1
          have HMX := Lib.hid (mix_same (f := becL true l) (g := backL) HX.out (bec_back fun h => hcase (.inr ⟨HLI.out ▸ h.1, h.2⟩)))
          have hg : pok = false ∨ (pok = true ∧ (l == 0) = false) := by
            cases pok
            · exact .inl rfl
            · exact .inr ⟨rfl, by simpa using hcase⟩
          clear hcase
          go_wp2_with fail
          refine (HPA.out _).mono ?_
          rintro e w4 ⟨rfl, hb4⟩
          have q1 := cell_below hb4 k1
          have q5 := cell_below hb4 k5
          have HT4 := Lib.hid (HT.out.below hb4)
          rw [HMX.out] at HT4
          clear hb4 k1 k5 cx HPA HT
          rcases hg with rfl | ⟨rfl, hl0⟩
          · go_wp2_with fail
            go_roundw
            case rel => exact ⟨k + 1, by omega, by go_num, HT4.out⟩
            case measure => simp [intOf]; omega
          · go_wp2_with fail
            go_roundw
            case rel => exact ⟨k + 1, by omega, by go_num, HT4.out⟩
            case measure => simp [intOf]; omega
      · have hkn : k = n := by omega
        have HT2 := Lib.hid (show TkAt w wr ob #[.int .i64 d, .int .i64 l, .int .i64 t, .int .i64 g, .bool b0, .bool b1, .bool b2, .bool b3, .bool b4, .bool b5, .bool b6, .bool b7, .bool b8, .bool b9] 24 base b gl n 0 A xs (stOf (becL b1 l) xs) by have := HT.out; rwa [hkn, mix_end HL.out] at this)
        subst hkn
        clear hT k1 k5 HT
        go_wp2_with fail
        go_loopw [13] (fun i wt => ∃ (j : Nat) (S' : St), j ≤ k ∧ i = .int .i64 (j : Int) ∧ tlS b4 b5 xs 0 (stOf (becL b1 l) xs) = tlS b4 b5 (xs.drop j) j S' ∧ TkAt w wt ob #[.int .i64 d, .int .i64 l, .int .i64 t, .int .i64 g, .bool b0, .bool b1, .bool b2, .bool b3, .bool b4, .bool b5, .bool b6, .bool b7, .bool b8, .bool b9] 24 base b gl k j A xs S') (fun i _ => k - (intOf i).toNat)
        case atStart => exact ⟨0, _, Nat.zero_le _, rfl, rfl, HT2.out⟩
        case round =>
          obtain ⟨j, S', hj, rfl, hS, hT⟩ := hrel
          have HS := Lib.hid hS
          have HT := Lib.hid hT
          obtain ⟨k1, k5, k8, k9⟩ := box14 hT.bx
          have hwr : IntKind.i64.wrap ((j : Int) + 1) = (j : Int) + 1 := by rw [IntKind.wrap_i64]; omega
          have hj0 : (0 : Int) ≤ (j : Int) := by omega
          clear hS
          by_cases hgo : b1 = true ∧ j + 1 < k
          · obtain ⟨rfl, hlt⟩ := hgo
            obtain ⟨a, ha⟩ : ∃ a, xs[j]? = some a := ⟨_, List.getElem?_eq_getElem (by rw [HL.out]; omega)⟩
            obtain ⟨z, hz⟩ : ∃ a, xs[j + 1]? = some a := ⟨_, List.getElem?_eq_getElem (by rw [HL.out]; omega)⟩
            obtain ⟨ad, rfl, _, hc⟩ := hT.rx.at_ (show j < k by omega)
            have ca : wr.cell? (ad.add j) = some (.int .i64 a) := hc _ (by rw [List.getElem?_map, ha]; rfl)
            have cd : wr.cell? ⟨ad.block, ad.off + (j + 1), none⟩ = some (.int .i64 z) := hT.rx.news (j + 1) _ (by rw [List.getElem?_map, hz]; rfl)
            have hi2 : (j : Int) < (k : Int) := by omega
            have hi3 : (0 : Int) ≤ (j : Int) + 1 := by omega
            have hi1 : (j : Int) + 1 < (k : Int) := by omega
            have HA := Lib.hid ha
            have HD := Lib.hid hz
            obtain ⟨lb, ok, hbk⟩ : ∃ l ok, backF a z b4 b5 = (l, ok) := ⟨_, _, rfl⟩
            have HB := Lib.hid (fun W => rfBack_any a z b4 b5 W)
            rw [hbk] at HB
            have HBK := Lib.hid hbk
            clear ha hz hc hT hbk k1
            go_wp2_with fail
            go_region_held3 (fun w' => w'.cell? ⟨ob, 8, none⟩ = some (.bool b4) ∧ w'.cell? ⟨ob, 9, none⟩ = some (.bool b5) ∧ w'.cell? (ad.add j) = some (.int .i64 a) ∧ w'.cell? ⟨ad.block, ad.off + (j + 1), none⟩ = some (.int .i64 z))
              (first
                | exact ⟨k8, k9, ca, cd⟩
                | exact ⟨cell_below hz4 k8, cell_below hz4 k9, cell_below hz4 ca, cell_below hz4 cd⟩
                | fail)
              (first
                | (go_at_call 51; refine (HB.out _).mono ?_; rintro e w4 ⟨rfl, hb4⟩; have hz4 : Below wr.heap.size wr w4 := (by first | exact hb4 | exact below_self (Below.refl _ _).drew hb4))
                | fail)
            have HT4 := Lib.hid (HT.out.below hz4)
            clear hz4 hb4 ca cd k5 k8 k9
            cases ok with
            | true =>
              have HN := Lib.hid (tlS_hit (s := b4) (y := b5) (S := S') HA.out HD.out (by rw [HBK.out]))
              rw [HBK.out] at HN
              have hbn := below_new w4 (.cells #[.int .i64 lb] 3)
              have HT5 := Lib.hid (HT4.out.below hbn)
              have HSE := Lib.hid (tq_set base b gl k j j _ (some ⟨w4.heap.size, 0, none⟩) 1 1 [lb] _ HT5.out.tq (by omega) (rdOne w4 lb 3) (by omega) (by omega))
              clear hbn
              go_wp2_with fail
              refine HSE.out.mono ?_
              rintro e w5 ⟨rfl, hq5, hk5⟩
              have HT6 := Lib.hid (HT5.out.next hq5 hk5)
              have HSE2 := Lib.hid (tq_set base b gl k j (j + 1) _ none 0 0 [] w5 HT6.out.tq (by omega) Rd.nil_ (by omega) (by omega))
              rw [show ((j + 1 : Nat) : Int) = (j : Int) + 1 from rfl] at HSE2
              clear hq5 hk5 HSE HT5
              go_wp2_with fail
              refine HSE2.out.mono ?_
              rintro e w6 ⟨rfl, hq6, hk6⟩
              have HT7 := Lib.hid (HT6.out.next hq6 hk6)
              have HJ := Lib.hid (tq_join base b gl k j j (j + 2) _ w6 HT7.out.tq (by omega) (by omega) (by omega))
              rw [show ((j + 2 : Nat) : Int) = (j : Int) + 2 from rfl] at HJ
              clear hq6 hk6 HSE2 HT6
              go_wp2_with fail
              refine HJ.out.mono ?_
              rintro e w7 ⟨rfl, hq7, hk7⟩
              have HT8 := Lib.hid (HT7.out.next (m' := j + 2) (hq7.more (by omega)) hk7)
              clear hq7 hk7 HJ HT7
              go_wp2_with fail
              go_roundw
              case rel =>
                refine ⟨j + 2, _, by omega, by go_num, HS.out.trans HN.out, ?_⟩
                unfold sShare
                have := HT8.out
                exact this
              case measure => simp [intOf]; omega
            | false =>
              have HN := Lib.hid (tlS_miss (s := b4) (y := b5) (S := S') HA.out HD.out (by rw [HBK.out]))
              have HT5 := Lib.hid (show TkAt w w4 ob #[.int .i64 d, .int .i64 l, .int .i64 t, .int .i64 g, .bool b0, .bool true, .bool b2, .bool b3, .bool b4, .bool b5, .bool b6, .bool b7, .bool b8, .bool b9] 24 base b gl k (j + 1) (some ad) xs S' from ⟨HT4.out.tq.more (by omega), HT4.out.rx, HT4.out.lo, HT4.out.bx, HT4.out.hA, HT4.out.far⟩)
              go_wp2_with fail
              go_roundw
              case rel => exact ⟨j + 1, S', by omega, by go_num, HS.out.trans HN.out, HT5.out⟩
              case measure => simp [intOf]; omega
          · have HEQ := Lib.hid (show tlS b4 b5 xs 0 (stOf (becL b1 l) xs) = S' by
              rw [HS.out]
              cases hb1 : b1 with
              | true => exact tlS_end (by rw [HL.out]; have : ¬ (j + 1 < k) := fun h => hgo ⟨hb1, h⟩; omega)
              | false =>
                obtain ⟨rfl, rfl⟩ := HOF.out (by simp) hb1
                exact tl_off _ _ _)
            have hg : b1 = false ∨ (b1 = true ∧ (k : Int) ≤ (j : Int) + 1) := by
              cases b1
              · exact .inl rfl
              · exact .inr ⟨rfl, by have : ¬ (j + 1 < k) := fun h => hgo ⟨rfl, h⟩; omega⟩
            have HSP := Lib.hid (rfSpaces_any base b gl k j c A xs l S' wr HT.out.tq HT.out.rx HT.out.hA hn (by omega))
            rw [HEQ.out] at HUN
            rw [← HUN.out] at HSP
            clear hgo hT k8 k9
            rcases hg with rfl | ⟨rfl, hge⟩
            · go_wp2_with fail
              refine HSP.out.mono ?_
              rintro e w5 ⟨hA, hk5⟩
              have HB5 := Lib.hid (hk5.lower HT.out.lo HT.out.lo.size (by have := HT.out.far; simp; omega))
              clear hk5 k1 k5
              rcases hA with ⟨hno, rfl⟩ | ⟨S2, hso, rfl, hq5⟩
              · have HNO := Lib.hid hno
                clear hno
                go_wp2_with fail
                refine bodyPost_ret (v := .tuple #[.pointer none, .int .i64 9]) (by simp [results, go_sem]) rfl ?_
                exact ⟨.inr (.inl ⟨HE.out, HNO.out, rfl⟩), HB5.out⟩
              · have HSO := Lib.hid hso
                have HQ5 := Lib.hid hq5
                clear hso hq5
                go_wp2_with fail
                refine bodyPost_ret (v := .tuple #[.pointer (some ⟨b, 0, none⟩), .int .i64 0]) (by simp [results, go_sem]) rfl ?_
                exact ⟨.inr (.inr ⟨HE.out, S2, base, b, gl, HSO.out, rfl, by rw [HL.out]; exact HQ5.out.more (by omega)⟩), HB5.out⟩
            · go_wp2_with fail
              refine HSP.out.mono ?_
              rintro e w5 ⟨hA, hk5⟩
              have HB5 := Lib.hid (hk5.lower HT.out.lo HT.out.lo.size (by have := HT.out.far; simp; omega))
              clear hk5 k1 k5
              rcases hA with ⟨hno, rfl⟩ | ⟨S2, hso, rfl, hq5⟩
              · have HNO := Lib.hid hno
                clear hno
                go_wp2_with fail
                refine bodyPost_ret (v := .tuple #[.pointer none, .int .i64 9]) (by simp [results, go_sem]) rfl ?_
                exact ⟨.inr (.inl ⟨HE.out, HNO.out, rfl⟩), HB5.out⟩
              · have HSO := Lib.hid hso
                have HQ5 := Lib.hid hq5
                clear hso hq5
                go_wp2_with fail
                refine bodyPost_ret (v := .tuple #[.pointer (some ⟨b, 0, none⟩), .int .i64 0]) (by simp [results, go_sem]) rfl ?_
                exact ⟨.inr (.inr ⟨HE.out, S2, base, b, gl, HSO.out, rfl, by rw [HL.out]; exact HQ5.out.more (by omega)⟩), HB5.out⟩
  · have g1 : (E != 0) = true := by simp [hE0]
    have HE0 := Lib.hid hE0
    clear hE0
    go_wp2_with fail
    refine bodyPost_ret (v := .tuple #[.pointer none, .int .i64 E]) (by simp [results, go_sem]) rfl ?_
    exact ⟨.inl ⟨by rw [HE.out]; exact HE0.out, by rw [HE.out]⟩, HZ2.out⟩
end Go.Proofs.YtcbiaeeifclieaaGreatDoor
/- What both answer, as data; Clusters and Text of the reference's cells. -/
namespace Go.Proofs.YtcbiaeeifclieaaGreatDoor
open Go.RowKit

/-- What is wrong; the codes; the clusters. -/
def errU (xs : List Int) (o : Opt) : Int := if o.err ≠ 0 then o.err else match unS xs o with
  | none => 9
  | some S => if xs.length = 0 then 0 else if codesS S = [] then 8 else 0
def codU (xs : List Int) (o : Opt) : List Int := if errU xs o = 0 ∧ xs.length ≠ 0 then (match unS xs o with
  | none => []
  | some S => codesS S) else []
def clU (xs : List Int) (o : Opt) (l' : List NC) : List NC := if errU xs o = 0 ∧ xs.length ≠ 0 then l' else []
def HokU (xs : List Int) (o : Opt) (l' : List NC) : Prop := o.err = 0 → ∀ S, unS xs o = some S → 0 < xs.length → codesS S ≠ [] → FinIs xs.length (codesS S).length (linksR xs.length (R0 S) []) l'
def AnsU (W' : World) (xs : List Int) (o : Opt) (l' : List NC) (e : Ending) : Prop :=
  ∃ (V : Option Addr) (cv : Nat) (U : Option Addr) (cu : Nat), e = .returned (.tuple #[.slice V (codU xs o).length cv, .slice U (clU xs o l').length cu, .int .i64 (errU xs o)]) ∧ Rd W' 1 V (codU xs o).length ((codU xs o).map (Value.int .i64)) ∧ Rd W' 4 U (clU xs o l').length (cellsC ((clU xs o l').map NC.cl))
section
variable {W W' : World} {xs : List Int} {o : Opt} {l' : List NC} {e : Ending} {S : St} {E : Int}
theorem errU_err (h : o.err ≠ 0) : errU xs o = o.err := if_pos h
theorem errU_none (h0 : o.err = 0) (h : unS xs o = none) : errU xs o = 9 := by unfold errU; rw [if_neg (by simp [h0]), h]
theorem errU_nil (h0 : o.err = 0) (h : unS xs o = some S) (hn : xs.length = 0) : errU xs o = 0 := by unfold errU; rw [if_neg (by simp [h0]), h]; exact if_pos hn
theorem errU_gone (h0 : o.err = 0) (h : unS xs o = some S) (hn : 0 < xs.length) (hc : codesS S = []) : errU xs o = 8 := by unfold errU; rw [if_neg (by simp [h0]), h]; exact (if_neg (by omega)).trans (if_pos hc)
theorem errU_ok (h0 : o.err = 0) (h : unS xs o = some S) (hn : 0 < xs.length) (hc : codesS S ≠ []) : errU xs o = 0 := by unfold errU; rw [if_neg (by simp [h0]), h]; exact (if_neg (by omega)).trans (if_neg hc)
theorem rd_zero {w : World} {size : Nat} {A : Option Addr} : Rd w size A 0 [] := ⟨by simp, fun h => by omega⟩
theorem AnsU.no (h : errU xs o = E) (hE : E ≠ 0 ∨ xs.length = 0) (V U : Option Addr) (cv cu : Nat) : AnsU W' xs o l' (.returned (.tuple #[.slice V 0 cv, .slice U 0 cu, .int .i64 E])) := by
  have hf : ¬ (errU xs o = 0 ∧ xs.length ≠ 0) := by rw [h]; omega
  refine ⟨V, cv, U, cu, ?_, ?_, ?_⟩
  · unfold codU clU; rw [if_neg hf, if_neg hf, h]; rfl
  · unfold codU; rw [if_neg hf]; exact rd_zero
  · unfold clU; rw [if_neg hf]; exact rd_zero
theorem AnsU.yes (h0 : o.err = 0) (h : unS xs o = some S) (hn : 0 < xs.length) (hc : codesS S ≠ []) {V U : Option Addr} {cv cu : Nat} (hV : Rd W' 1 V (codesS S).length ((codesS S).map (Value.int .i64))) (hU : Rd W' 4 U l'.length (cellsC (l'.map NC.cl))) : AnsU W' xs o l' (.returned (.tuple #[.slice V (codesS S).length cv, .slice U l'.length cu, .int .i64 0])) := by
  have hE := errU_ok h0 h hn hc
  have hf : errU xs o = 0 ∧ xs.length ≠ 0 := ⟨hE, by omega⟩
  have h1 : codU xs o = codesS S := by unfold codU; rw [if_pos hf, h]
  have h2 : clU xs o l' = l' := by unfold clU; rw [if_pos hf]
  unfold AnsU
  rw [h1, h2, hE]
  exact ⟨V, cv, U, cu, rfl, hV, hU⟩
/-- What the program answers, as data. -/
theorem un_data (h : UnAns W W' xs o e) : ∃ l', HokU xs o l' ∧ AnsU W' xs o l' e := by
  rcases h with ⟨h, rfl⟩ | ⟨h0, h, rfl⟩ | ⟨h0, S, hS, h⟩
  · exact ⟨[], fun h' => absurd h' h, AnsU.no (errU_err h) (.inl h) _ _ _ _⟩
  · exact ⟨[], (fun _ S hS => by rw [h] at hS; cases hS), AnsU.no (errU_none h0 h) (.inl (by decide)) _ _ _ _⟩
  · rcases h with ⟨hn, rfl⟩ | ⟨hn, hc, rfl⟩ | ⟨hn, hc, v, u, l', R, rfl, hR, hF, ho1, ho2⟩
    · exact ⟨[], (fun _ S' _ h => by omega), AnsU.no (errU_nil h0 hS hn) (.inr hn) _ _ _ _⟩
    · refine ⟨[], fun _ S' hS' _ h => ?_, AnsU.no (errU_gone h0 hS hn hc) (.inl (by decide)) _ _ _ _⟩
      rw [hS] at hS'
      obtain rfl := Option.some.inj hS'
      exact absurd hc h
    · obtain ⟨V, cv, rfl, _⟩ := own_form ho1
      obtain ⟨U, cu, rfl, _⟩ := own_form ho2
      refine ⟨l', fun _ S' hS' _ _ => ?_, AnsU.yes h0 hS hn hc (Rd.of_own ho1) (Rd.of_own ho2)⟩
      rw [hS] at hS'
      obtain rfl := Option.some.inj hS'
      rw [linksR_snd [] (show (R0 S).map Prod.snd = R.map Prod.snd by rw [R0_snd, hR])]
      exact hF
end
section
variable {w : World} {base b gl n m : Nat} {S : St}
theorem relL_snd (S : St) : RelL (R0 S) [] (S.map Prod.snd) := by
  refine ⟨by rw [List.length_map, R0_len], fun i r hr => ?_⟩
  unfold R0 at hr
  rw [List.getElem?_map] at hr
  rw [List.getElem?_map]
  cases hs : S[i]? with
  | none => rw [hs] at hr; cases hr
  | some s =>
    rw [hs] at hr
    obtain rfl := Option.some.inj hr
    simp
theorem text_tq (hC : TQ w base b gl n m S) (hs : Small n S) (hn : n ≤ 1000) :
    Calls Tryz.prog 22 #[.pointer (some ⟨b, 0, none⟩)] w fun e w' => (∃ v, e = .returned v ∧ w'.ownsRow w.heap.size 3 1 v (codesS S).length ((codesS S).map (Value.int .i64))) ∧ Below w.heap.size w w' := by
  obtain ⟨Q, J, Js, h1, _⟩ := hC
  have hfl : (S.map Prod.snd).flatten = codesS S := by unfold codesS; rw [List.flatMap_def]
  have hcl := codes_le hs
  have h := rcText_any base b gl n Q _ J w h1 (by omega) (by rw [hfl]; omega)
  rw [hfl] at h
  exact h
theorem clus_tq (hC : TQ w base b gl n m S) (hs : Small n S) (hn : n ≤ 1000) (hm : m ≤ 100000) (l' : List NC) (hok : 0 < n → codesS S ≠ [] → FinIs n (codesS S).length (linksR n (R0 S) []) l') :
    Calls Tryz.prog 21 #[.pointer (some ⟨b, 0, none⟩)] w fun e w' => ((n = 0 ∧ e = .returned (.tuple #[.slice none 0 0, .int .i64 0])) ∨ (0 < n ∧ codesS S = [] ∧ ∃ A k, e = .returned (.tuple #[.slice A 0 k, .int .i64 8])) ∨
      (0 < n ∧ codesS S ≠ [] ∧ ∃ A k, e = .returned (.tuple #[.slice A l'.length k, .int .i64 0]) ∧ Rd w' 4 A l'.length (cellsC (l'.map NC.cl)))) ∧ Below w.heap.size w w' := by
  have hS := hC.len
  obtain ⟨Q, J, Js, h1, h2, h3, h4⟩ := hC
  have hcl := codes_le hs
  have hRn : (R0 S).length = n := by rw [R0_len, hS]
  have hcn : cntR (R0 S) [] 0 n = (codesS S).length := by rw [cnt_all hRn, R0_snd]
  have hln : lenR (R0 S) = (codesS S).length := by rw [lenR_all, R0_snd]
  by_cases h0 : n = 0
  · subst h0
    refine (cl_r0 h1 h2 (relL_snd S) (by omega) (by rw [hln]; simp only [List.length_nil]; omega)).mono ?_
    rintro e w' ⟨rfl, hb⟩
    exact ⟨.inl ⟨rfl, rfl⟩, hb⟩
  · have hn0 : 0 < n := by omega
    have hE := linksR_err (R0 S) [] hn0 (by omega) (by rw [hcn]; omega)
    by_cases hz : codesS S = []
    · rw [if_pos (by rw [hcn, hz]; rfl)] at hE
      refine (cl_r h1 h2 (relL_snd S) h3 hRn hn0 hn (by omega) (by rw [hln]; simp only [List.length_nil]; omega) l' (fun h => by rw [hE] at h; cases h)).mono ?_
      rw [hE, if_neg (by decide)]
      rintro e w' ⟨⟨A, k, rfl, hr⟩, hb⟩
      exact ⟨.inr (.inl ⟨hn0, hz, A, k, rfl⟩), hb⟩
    · have hl0 : (codesS S).length ≠ 0 := fun h => hz (List.length_eq_zero_iff.1 h)
      rw [if_neg (by rw [hcn]; exact hl0)] at hE
      refine (cl_r h1 h2 (relL_snd S) h3 hRn hn0 hn (by omega) (by rw [hln]; simp only [List.length_nil]; omega) l' (fun _ => by rw [hcn]; exact hok hn0 hz)).mono ?_
      rw [hE, if_pos rfl]
      rintro e w' ⟨⟨A, k, rfl, hr⟩, hb⟩
      exact ⟨.inr (.inr ⟨hn0, hz, A, k, rfl, hr⟩), hb⟩
end
end Go.Proofs.YtcbiaeeifclieaaGreatDoor
