/- Texts of one claim, one behind the other. -/
import Derived.Test.YtcbiaeeifclieaaGreatDoorMgM5
import Derived.Test.YtcbiaeeifclieaaGreatDoorMgM20
import Derived.Test.YtcbiaeeifclieaaGreatDoorMgM23
import Derived.Test.YtcbiaeeifclieaaGreatDoorMgM31
import Derived.Test.YtcbiaeeifclieaaGreatDoorMgM32
import Derived.Test.YtcbiaeeifclieaaGreatDoorMgM35
import Derived.Test.YtcbiaeeifclieaaGreatDoorMgM36
import Derived.Test.YtcbiaeeifclieaaGreatDoorMgM37
/- unshape's Unshape, walked whole. -/
namespace Go.Proofs.YtcbiaeeifclieaaGreatDoor
open Go.RowKit

/-- Clusters and Text of cells, whatever there are. -/
theorem clus_sat (base b gc n : Nat) (S : St) (w : World) (hS : SAt w base b gc n S) (hs : Small n S) (hn : n ≤ 1000) :
    Calls Tryz.prog 18 #[.pointer (some ⟨b, 0, none⟩)] w fun e w' => ((n = 0 ∧ e = .returned (.tuple #[.slice none 0 0, .int .i64 0])) ∨ (0 < n ∧ codesS S = [] ∧ e = .returned (.tuple #[.slice none 0 0, .int .i64 8])) ∨
      (0 < n ∧ codesS S ≠ [] ∧ ∃ (u : Value) (l' : List NC) (R : List RC), e = .returned (.tuple #[u, .int .i64 0]) ∧ R.map Prod.snd = S ∧ FinIs n (codesS S).length (linksR n R []) l' ∧ w'.ownsRow w.heap.size 41 4 u l'.length (cellsC (l'.map NC.cl)))) ∧ Below w.heap.size w w' := by
  obtain ⟨R, hR, hRS⟩ := hS
  have hcl := codes_le hs
  by_cases h0 : n = 0
  · subst h0
    have hc0 := hp_cell (j := 0) hR.hb rfl
    refine (clusters_none _ w (fun W hW => all_any b (some ⟨gc, 0, none⟩) 0 0 W (cell_below hW hc0))).mono ?_
    rintro e w' ⟨rfl, hb⟩
    exact ⟨.inl ⟨rfl, rfl⟩, hb⟩
  · have hn0 : 0 < n := by omega
    have hcn : cntR R [] 0 n = (codesS S).length := by rw [cnt_all hR.len, hRS]
    have hln : lenR R = (codesS S).length := by rw [lenR_all, hRS]
    refine (clusters_cells base b gc n R _ [] w hR hn0 hn (by rw [hln]; simp only [List.length_nil]; omega)).mono ?_
    rintro e w' ⟨hA, hb⟩
    have hE := linksR_err R [] hn0 (by omega) (by rw [hcn]; omega)
    unfold FinAns at hA
    rw [hE, hcn] at hA
    by_cases hz : codesS S = []
    · rw [hz] at hA
      rcases hA with ⟨_, rfl⟩ | ⟨h, _⟩
      · exact ⟨.inr (.inl ⟨hn0, hz, rfl⟩), hb⟩
      · exact absurd h (by decide)
    · have hl0 : (codesS S).length ≠ 0 := fun h => hz (List.length_eq_zero_iff.1 h)
      rw [if_neg hl0] at hA
      rcases hA with ⟨h, _⟩ | ⟨_, _, _, _, _, _, _, v, l', rfl, hF, hown⟩
      · exact absurd rfl h
      · exact ⟨.inr (.inr ⟨hn0, hz, v, l', R, rfl, hRS, by simpa using hF, hown⟩), hb⟩
theorem text_sat (base b gc n : Nat) (S : St) (w : World) (hS : SAt w base b gc n S) (hs : Small n S) (hn0 : 0 < n) (hn : n ≤ 1000) :
    Calls Tryz.prog 19 #[.pointer (some ⟨b, 0, none⟩)] w fun e w' => ∃ v, e = .returned v ∧ w'.ownsRow w.heap.size 3 1 v (codesS S).length ((codesS S).map (Value.int .i64)) ∧ Below w.heap.size w w' := by
  obtain ⟨R, hR, hRS⟩ := hS
  have hcl := codes_le hs
  have hln : lenR R = (codesS S).length := by rw [lenR_all, hRS]
  have h := text_cells base b gc n R _ [] w hR hn0 (by omega) (by rw [hln]; simp only [List.length_nil]; omega)
  rw [told_all hR.len, hRS] at h
  exact h
theorem text_zero (base b gc : Nat) (S : St) (w : World) (hS : SAt w base b gc 0 S) :
    Calls Tryz.prog 19 #[.pointer (some ⟨b, 0, none⟩)] w fun e w' => e = .returned (.slice none 0 0) ∧ Below w.heap.size w w' := by
  obtain ⟨R, hR, hRS⟩ := hS
  have hc0 := hp_cell (j := 0) hR.hb rfl
  exact text_none _ w (fun W hW => all_any b (some ⟨gc, 0, none⟩) 0 0 W (cell_below hW hc0))
set_option maxRecDepth 100000 in
set_option maxHeartbeats 8000000 in
theorem unUnshape_any (A : Option Addr) (n c bp : Nat) (xs : List Int) (d l t g : Int) (b0 b1 b2 b3 b4 b5 b6 b7 b8 b9 : Bool) (w : World) (hK : KindsAt w) (hP : PropAt w bp) (hr : Rd w 1 A n (xs.map (Value.int .i64))) (hx : ∀ x ∈ xs, KeyI x) (hn : n ≤ 1000) :
    Calls Tryz.prog 6 #[.pointer (some ⟨bp, 0, none⟩), .slice A n c, .agg #[.int .i64 d, .int .i64 l, .int .i64 t, .int .i64 g, .bool b0, .bool b1, .bool b2, .bool b3, .bool b4, .bool b5, .bool b6, .bool b7, .bool b8, .bool b9]] w fun e w' => UnAns w w' xs ⟨d, l, t, g, b0, b1, b2, b3, b4, b5, b6, b7, b8, b9⟩ e ∧ Below w.heap.size w w' := by
  have hlen : xs.length = n := by simpa using hr.len1
  obtain ⟨o, ho⟩ : ∃ o : Opt, (⟨d, l, t, g, b0, b1, b2, b3, b4, b5, b6, b7, b8, b9⟩ : Opt) = o := ⟨_, rfl⟩
  obtain ⟨E, hE⟩ : ∃ E, o.err = E := ⟨_, rfl⟩
  have hb0 := below_new w (.cells #[.int .i64 d, .int .i64 l, .int .i64 t, .int .i64 g, .bool b0, .bool b1, .bool b2, .bool b3, .bool b4, .bool b5, .bool b6, .bool b7, .bool b8, .bool b9] 24)
  have HCH := Lib.hid (opCheck_any d l t g b0 b1 b2 b3 b4 b5 b6 b7 b8 b9 E (by rw [ho]; exact hE) _ (hK.below hb0))
  have HBE := Lib.hid (fun W => unBecomes_any d l t g b0 b1 b2 b3 b4 b5 b6 b7 b8 b9 W)
  have hO1 := heap_alloc_new w (.cells #[.int .i64 d, .int .i64 l, .int .i64 t, .int .i64 g, .bool b0, .bool b1, .bool b2, .bool b3, .bool b4, .bool b5, .bool b6, .bool b7, .bool b8, .bool b9] 24)
  have hcel := cells_new w [.int .i64 d, .int .i64 l, .int .i64 t, .int .i64 g, .bool b0, .bool b1, .bool b2, .bool b3, .bool b4, .bool b5, .bool b6, .bool b7, .bool b8, .bool b9] 24
  have HO1 := Lib.hid hO1
  have HB0 := Lib.hid hb0
  have HL := Lib.hid hlen
  have HE := Lib.hid hE
  have HP := Lib.hid hP
  have HR := Lib.hid hr
  have HX := Lib.hid hx
  have HUN := Lib.hid (show unS xs o = spacesS mkB xs l (tlS b4 b5 xs 0 (stOf (becL b1 l) xs)) by rw [← ho]; rfl)
  rw [ho]
  clear hK hP hr hx hlen hE hb0 hO1 ho hcel
  go_enter Tryz.func6, Tryz.ntmps6
  go_wp2_with fail
  refine HCH.out.mono ?_
  rintro e w2 ⟨rfl, hb2⟩
  have hz2 := below_self HB0.out hb2
  have o2 := (hb2.block _ (hp_lt HO1.out)).trans HO1.out
  have hs2 : w.heap.size < w2.heap.size := hp_lt o2
  have HZ2 := Lib.hid hz2
  have HO2 := Lib.hid o2
  clear hb2 hz2
  by_cases hE0 : E = 0
  · subst hE0
    have k0 := hp_cell (j := 0) o2 rfl
    have k1 := hp_cell (j := 1) o2 rfl
    have k2 := hp_cell (j := 2) o2 rfl
    have k3 := hp_cell (j := 3) o2 rfl
    have k4 := hp_cell (j := 4) o2 rfl
    have k5 := hp_cell (j := 5) o2 rfl
    have k6 := hp_cell (j := 6) o2 rfl
    have k7 := hp_cell (j := 7) o2 rfl
    have k8 := hp_cell (j := 8) o2 rfl
    have k9 := hp_cell (j := 9) o2 rfl
    have k10 := hp_cell (j := 10) o2 rfl
    have k11 := hp_cell (j := 11) o2 rfl
    have k12 := hp_cell (j := 12) o2 rfl
    have k13 := hp_cell (j := 13) o2 rfl
    clear o2
    go_wp2_with fail
    refine (HBE.out _).mono ?_
    intro e w3 hBec
    obtain ⟨g', lb, L, rfl, hBc, hLL, hb3⟩ := hBec
    obtain ⟨I, hI⟩ := hBc xs HX.out (by have := HL.out; omega)
    have HI := Lib.hid hI
    have HLL := Lib.hid hLL
    have HZ3 := Lib.hid (below_self HZ2.out hb3)
    have HO3 := Lib.hid ((hb3.block _ (hp_lt HO2.out)).trans HO2.out)
    have HS3 := Lib.hid hb3.size
    clear hBc hI hLL hb3 k0 k1 k2 k3 k4 k5 k6 k7 k8 k9 k10 k11 k12 k13
    go_wp2_with fail
    refine (unBegin_any g' lb _ L I A n c xs w3 HI.out (HR.out.below HZ3.out) (by omega) (fun h0 ad e => ?_) (fun x => (bec_len _ _ x).2)).mono ?_
    · subst e
      obtain ⟨ad', e', hlt, _⟩ := HR.out.2 h0
      cases e'
      have := HZ3.out.size
      exact ⟨by omega, fun hm => by have := HLL.out _ hm; omega⟩
    rintro e w4 ⟨wk, base, b, gc, rfl, hW4, hbb, hgb, hk4⟩
    have HH := Lib.hid (show w.heap.size < b ∧ w.heap.size < gc by have := HS3.out; omega)
    have HZ4 := Lib.hid (hk4.lower HZ3.out HZ3.out.size (fun x hx => by have := HLL.out x hx; omega))
    have o4 := hk4.heap HO3.out (fun hm => by have := HLL.out _ hm; omega)
    have HO4 := Lib.hid o4
    have k8 := hp_cell (j := 8) o4 rfl
    have k9 := hp_cell (j := 9) o4 rfl
    have HW4 := Lib.hid hW4
    clear hW4 hbb hgb hk4 o4 HLL HI HBE HCH
    go_wp2_with fail
    refine (unTails_any wk base b gc n c A xs b4 b5 _ w4 HW4.out (by omega)).mono ?_
    rintro e w5 ⟨rfl, hW5, hk5⟩
    have HZ5 := Lib.hid (hk5.lower HZ4.out HZ4.out.size (by have := HH.out; simp; omega))
    have o5 := hk5.heap HO4.out (by have := HH.out; simp; omega)
    have HO5 := Lib.hid o5
    have j1 := hp_cell (j := 1) o5 rfl
    have HW5 := Lib.hid hW5
    clear hW5 hk5 o5 k8 k9
    go_wp2_with fail
    refine (unSpaces_any wk base b gc n c bp A xs l _ w w5 HW5.out HP.out HZ5.out (by have := HH.out; omega) (by omega)).mono ?_
    rintro e w6 ⟨hA, hk6⟩
    have HZ6 := Lib.hid (hk6.lower HZ5.out HZ5.out.size (by have := HH.out; simp; omega))
    rw [← HUN.out] at hA
    clear hk6 j1
    rcases hA with ⟨hnone, rfl⟩ | ⟨S', hsome, rfl, hW6⟩
    · have HNO := Lib.hid hnone
      clear hnone
      go_wp2_with fail
      refine bodyPost_ret (v := .tuple #[.slice none 0 0, .slice none 0 0, .int .i64 9]) (by simp [results, go_sem]) rfl ?_
      exact ⟨.inr (.inl ⟨HE.out, HNO.out, rfl⟩), HZ6.out⟩
    · have c6 := hW6.c0
      have HSO := Lib.hid hsome
      have HW6 := Lib.hid hW6
      have hsm := unS_small hsome
      rw [HL.out] at hsm
      have HSM := Lib.hid hsm
      clear hsome hW6 hsm
      go_wp2_with fail
      refine (clus_sat base b gc n S' w6 HW6.out.sat HSM.out hn).mono ?_
      rintro e w7 ⟨hC, hb7⟩
      have HZ7 := Lib.hid (below_self HZ6.out hb7)
      have HW7 := Lib.hid (HW6.out.low hb7)
      have c7 := cell_below hb7 c6
      clear hb7 c6
      rcases hC with ⟨h0, rfl⟩ | ⟨h0, hnil, rfl⟩ | ⟨h0, hne, u, l', R, rfl, hRS, hF, hown⟩
      · have hS0 : SAt w7 base b gc 0 S' := by have := HW7.out.sat; rwa [h0] at this
        have HTX := Lib.hid (text_zero base b gc S' w7 hS0)
        have H0 := Lib.hid h0
        clear hS0 h0
        go_wp2_with fail
        refine HTX.out.mono ?_
        rintro e w8 ⟨rfl, hb8⟩
        have HZ8 := Lib.hid (below_self HZ7.out hb8)
        clear hb8
        go_wp2_with fail
        refine bodyPost_ret (v := .tuple #[.slice none 0 0, .slice none 0 0, .int .i64 0]) (by simp [results, go_sem]) rfl ?_
        exact ⟨.inr (.inr ⟨HE.out, S', HSO.out, .inl ⟨by rw [HL.out]; exact H0.out, rfl⟩⟩), HZ8.out⟩
      · have H0 := Lib.hid (And.intro h0 hnil)
        clear h0 hnil
        go_wp2_with fail
        refine bodyPost_ret (v := .tuple #[.slice none 0 0, .slice none 0 0, .int .i64 8]) (by simp [results, go_sem]) rfl ?_
        exact ⟨.inr (.inr ⟨HE.out, S', HSO.out, .inr (.inl ⟨by rw [HL.out]; exact H0.out.1, H0.out.2, rfl⟩)⟩), HZ7.out⟩
      · have H0 := Lib.hid (And.intro h0 hne)
        have HF := Lib.hid hF
        have HRS := Lib.hid hRS
        have HOU := Lib.hid (own_base hown HZ6.out.size)
        have HTX := Lib.hid (text_sat base b gc n S' w7 HW7.out.sat HSM.out h0 hn)
        clear h0 hne hF hRS hown
        go_wp2_with fail
        refine HTX.out.mono ?_
        rintro e w8 ⟨v, rfl, hown8, hb8⟩
        have HZ8 := Lib.hid (below_self HZ7.out hb8)
        have HOU8 := Lib.hid (own_below HOU.out hb8)
        have HO8 := Lib.hid (own_base hown8 HZ7.out.size)
        clear hb8 hown8
        go_wp2_with fail
        refine bodyPost_ret (v := .tuple #[v, u, .int .i64 0]) (by simp [results, go_sem]) rfl ?_
        refine ⟨.inr (.inr ⟨HE.out, S', HSO.out, .inr (.inr ⟨by rw [HL.out]; exact H0.out.1, H0.out.2, v, u, l', R, rfl, HRS.out, ?_, HO8.out, HOU8.out⟩)⟩), HZ8.out⟩
        rw [HL.out]
        exact HF.out
  · have gE : (E != 0) = true := by simp [hE0]
    have HNE := Lib.hid hE0
    clear hE0 o2
    go_wp2_with fail
    refine bodyPost_ret (v := .tuple #[.slice none 0 0, .slice none 0 0, .int .i64 E]) (by simp [results, go_sem]) rfl ?_
    exact ⟨.inl ⟨by rw [HE.out]; exact HNE.out, by rw [HE.out]⟩, HZ2.out⟩
end Go.Proofs.YtcbiaeeifclieaaGreatDoor
/- The reference's Unshape and Spaces, walked; the program's Spaces. -/
namespace Go.Proofs.YtcbiaeeifclieaaGreatDoor
open Go.RowKit

set_option maxRecDepth 100000 in
set_option maxHeartbeats 4000000 in
theorem rfUnshape_any (A : Option Addr) (n c : Nat) (xs : List Int) (d l t g : Int) (b0 b1 b2 b3 b4 b5 b6 b7 b8 b9 : Bool) (l' : List NC) (w : World) (hr : Rd w 1 A n (xs.map (Value.int .i64))) (hn : n ≤ 1000) (hok : HokU xs ⟨d, l, t, g, b0, b1, b2, b3, b4, b5, b6, b7, b8, b9⟩ l') :
    Calls Tryz.prog 7 #[.slice A n c, .agg #[.int .i64 d, .int .i64 l, .int .i64 t, .int .i64 g, .bool b0, .bool b1, .bool b2, .bool b3, .bool b4, .bool b5, .bool b6, .bool b7, .bool b8, .bool b9]] w fun e w' => AnsU w' xs ⟨d, l, t, g, b0, b1, b2, b3, b4, b5, b6, b7, b8, b9⟩ l' e ∧ Below w.heap.size w w' := by
  have hlen : xs.length = n := by simpa using hr.len1
  obtain ⟨o, ho⟩ : ∃ o : Opt, (⟨d, l, t, g, b0, b1, b2, b3, b4, b5, b6, b7, b8, b9⟩ : Opt) = o := ⟨_, rfl⟩
  have hb0 := below_new w (.cells #[.int .i64 d, .int .i64 l, .int .i64 t, .int .i64 g, .bool b0, .bool b1, .bool b2, .bool b3, .bool b4, .bool b5, .bool b6, .bool b7, .bool b8, .bool b9] 24)
  have HTK := Lib.hid (rfTaken_any A n c xs d l t g b0 b1 b2 b3 b4 b5 b6 b7 b8 b9 _ (hr.below hb0) hn)
  have hcel := cells_new w [.int .i64 d, .int .i64 l, .int .i64 t, .int .i64 g, .bool b0, .bool b1, .bool b2, .bool b3, .bool b4, .bool b5, .bool b6, .bool b7, .bool b8, .bool b9] 24
  rw [ho] at HTK hok ⊢
  have HB0 := Lib.hid hb0
  have HL := Lib.hid hlen
  have HOK := Lib.hid hok
  clear hr hlen hb0 ho hok
  go_enter Tryz.func7, Tryz.ntmps7
  go_wp2_with fail
  refine HTK.out.mono ?_
  rintro e w2 ⟨hT, hb2⟩
  have HZ2 := Lib.hid (below_self HB0.out hb2)
  clear hb2 hcel HTK
  rcases hT with ⟨hE, rfl⟩ | ⟨h0, hno, rfl⟩ | ⟨h0, S, base, b, gl, hso, rfl, hq⟩
  · have HA := Lib.hid (AnsU.no (W' := w2) (l' := l') (errU_err (xs := xs) hE) (.inl hE) none none 0 0)
    obtain ⟨E, hEE⟩ : ∃ E, o.err = E := ⟨_, rfl⟩
    rw [hEE] at HA hE
    rw [hEE]
    have g1 : (E != 0) = true := by simp [hE]
    clear hE hEE
    go_wp2_with fail
    refine bodyPost_ret (v := .tuple #[.slice none 0 0, .slice none 0 0, .int .i64 E]) (by simp [results, go_sem]) rfl ?_
    exact ⟨HA.out, HZ2.out⟩
  · have HA := Lib.hid (AnsU.no (W' := w2) (l' := l') (errU_none h0 hno) (.inl (by decide)) none none 0 0)
    clear h0 hno
    go_wp2_with fail
    refine bodyPost_ret (v := .tuple #[.slice none 0 0, .slice none 0 0, .int .i64 9]) (by simp [results, go_sem]) rfl ?_
    exact ⟨HA.out, HZ2.out⟩
  · have hsm := unS_small hso
    rw [HL.out] at hsm hq
    have HQ := Lib.hid hq
    have HSM := Lib.hid hsm
    have HSO := Lib.hid hso
    have H0 := Lib.hid h0
    have HCL := Lib.hid (clus_tq hq hsm hn (by omega) l' (fun a b => by have := HOK.out h0 S hso (by rw [HL.out]; exact a) b; rwa [HL.out] at this))
    clear hsm hso hq h0
    go_wp2_with fail
    refine HCL.out.mono ?_
    rintro e w3 ⟨hC, hb3⟩
    have HZ3 := Lib.hid (below_self HZ2.out hb3)
    have HTX := Lib.hid (text_tq (HQ.out.low hb3) HSM.out hn)
    clear hb3 HCL
    rcases hC with ⟨hn0, rfl⟩ | ⟨hn0, hnil, V, cv, rfl⟩ | ⟨hn0, hne, V, cv, rfl, hrd⟩
    · have HE := Lib.hid (errU_nil H0.out HSO.out (by rw [HL.out]; exact hn0))
      have HN := Lib.hid (show xs.length = 0 by rw [HL.out]; exact hn0)
      have HCN := Lib.hid (show codesS S = [] by have := codes_le HSM.out; rw [hn0] at this; exact List.length_eq_zero_iff.1 (by omega))
      clear hn0
      go_wp2_with fail
      refine HTX.out.mono ?_
      rintro e w4 ⟨⟨v, rfl, hown⟩, hb4⟩
      rw [HCN.out] at hown
      obtain ⟨V, cv, rfl, _⟩ := own_form hown
      have HZ4 := Lib.hid (below_self HZ3.out hb4)
      clear hown hb4
      go_wp2_with fail
      refine bodyPost_ret (v := .tuple #[.slice V 0 cv, .slice none 0 0, .int .i64 0]) (by simp [results, go_sem]) rfl ?_
      exact ⟨AnsU.no HE.out (.inr HN.out) _ _ _ _, HZ4.out⟩
    · have HE := Lib.hid (errU_gone H0.out HSO.out (by rw [HL.out]; exact hn0) hnil)
      clear hn0 hnil
      go_wp2_with fail
      refine bodyPost_ret (v := .tuple #[.slice none 0 0, .slice none 0 0, .int .i64 8]) (by simp [results, go_sem]) rfl ?_
      exact ⟨AnsU.no HE.out (.inl (by decide)) _ _ _ _, HZ3.out⟩
    · have HN := Lib.hid (And.intro (show 0 < xs.length by rw [HL.out]; exact hn0) hne)
      have HRD := Lib.hid hrd
      clear hn0 hne hrd
      go_wp2_with fail
      refine HTX.out.mono ?_
      rintro e w4 ⟨⟨v, rfl, hown⟩, hb4⟩
      obtain ⟨T, ct, rfl, _⟩ := own_form hown
      have HZ4 := Lib.hid (below_self HZ3.out hb4)
      have HRT := Lib.hid (Rd.of_own hown)
      have HRD4 := Lib.hid (HRD.out.below hb4)
      clear hown hb4
      go_wp2_with fail
      refine bodyPost_ret (v := .tuple #[.slice T (codesS S).length ct, .slice V l'.length cv, .int .i64 0]) (by simp [results, go_sem]) rfl ?_
      exact ⟨AnsU.yes H0.out HSO.out HN.out.1 HN.out.2 HRT.out HRD4.out, HZ4.out⟩
/-- How many spaces go. -/
def spcU (xs : List Int) (o : Opt) : Int := if errU xs o ≠ 0 then 0 else if o.l = 3 ∨ o.l = 4 then ((ligsL xs).length : Int) else 0
end Go.Proofs.YtcbiaeeifclieaaGreatDoor
/- The reference's Spaces, walked; the program's. -/
namespace Go.Proofs.YtcbiaeeifclieaaGreatDoor
open Go.RowKit

set_option maxRecDepth 100000 in
set_option maxHeartbeats 4000000 in
theorem rfSpacesN_any (A : Option Addr) (n c : Nat) (xs : List Int) (d l t g : Int) (b0 b1 b2 b3 b4 b5 b6 b7 b8 b9 : Bool) (l' : List NC) (w : World) (hr : Rd w 1 A n (xs.map (Value.int .i64))) (hn : n ≤ 1000) (hok : HokU xs ⟨d, l, t, g, b0, b1, b2, b3, b4, b5, b6, b7, b8, b9⟩ l') :
    Calls Tryz.prog 9 #[.slice A n c, .agg #[.int .i64 d, .int .i64 l, .int .i64 t, .int .i64 g, .bool b0, .bool b1, .bool b2, .bool b3, .bool b4, .bool b5, .bool b6, .bool b7, .bool b8, .bool b9]] w fun e w' => e = .returned (.tuple #[.int .i64 (spcU xs ⟨d, l, t, g, b0, b1, b2, b3, b4, b5, b6, b7, b8, b9⟩), .int .i64 (errU xs ⟨d, l, t, g, b0, b1, b2, b3, b4, b5, b6, b7, b8, b9⟩)]) ∧ Below w.heap.size w w' := by
  have hlen : xs.length = n := by simpa using hr.len1
  obtain ⟨o, ho⟩ : ∃ o : Opt, (⟨d, l, t, g, b0, b1, b2, b3, b4, b5, b6, b7, b8, b9⟩ : Opt) = o := ⟨_, rfl⟩
  have hol : o.l = l := by rw [← ho]
  have hb0 := below_new w (.cells #[.int .i64 d, .int .i64 l, .int .i64 t, .int .i64 g, .bool b0, .bool b1, .bool b2, .bool b3, .bool b4, .bool b5, .bool b6, .bool b7, .bool b8, .bool b9] 24)
  have HUN := Lib.hid (rfUnshape_any A n c xs d l t g b0 b1 b2 b3 b4 b5 b6 b7 b8 b9 l' _ (hr.below hb0) hn hok)
  have hcel := cells_new w [.int .i64 d, .int .i64 l, .int .i64 t, .int .i64 g, .bool b0, .bool b1, .bool b2, .bool b3, .bool b4, .bool b5, .bool b6, .bool b7, .bool b8, .bool b9] 24
  have HO1 := Lib.hid (heap_alloc_new w (.cells #[.int .i64 d, .int .i64 l, .int .i64 t, .int .i64 g, .bool b0, .bool b1, .bool b2, .bool b3, .bool b4, .bool b5, .bool b6, .bool b7, .bool b8, .bool b9] 24))
  rw [ho] at HUN ⊢
  have HB0 := Lib.hid hb0
  have HL := Lib.hid hlen
  have HR := Lib.hid hr
  have HLO := Lib.hid hol
  have HLE := Lib.hid (ligs_le xs xs.length)
  clear hr hlen hb0 ho hok hol
  go_enter Tryz.func9, Tryz.ntmps9
  go_wp2_with fail
  refine HUN.out.mono ?_
  rintro e w2 ⟨⟨V, cv, U, cu, rfl, _, _⟩, hb2⟩
  have HZ2 := Lib.hid (below_self HB0.out hb2)
  obtain ⟨k1, _, _, _⟩ := box14 ((hb2.block _ (hp_lt HO1.out)).trans HO1.out)
  have HLG := Lib.hid (rfLigs_any A n c xs w2 (HR.out.below HZ2.out) (by omega))
  clear hb2 hcel HUN
  by_cases hE : errU xs o = 0
  · have HE := Lib.hid hE
    rw [hE]
    clear hE
    by_cases h3 : l = 3
    · have HS := Lib.hid (show spcU xs o = ((ligsL xs).length : Int) by unfold spcU; rw [if_neg (by simp [HE.out]), if_pos (.inl (HLO.out.trans h3))])
      subst h3
      go_wp2_with fail
      refine (HLG.out).mono ?_
      rintro e w3 ⟨⟨v, rfl, hown⟩, hb3⟩
      obtain ⟨V3, cv3, rfl, _⟩ := own_form hown
      have HZ3 := Lib.hid (below_self HZ2.out hb3)
      clear hown hb3 k1
      go_wp2_with fail
      refine bodyPost_ret (v := .tuple #[.int .i64 ((ligsL xs).length : Int), .int .i64 0]) (by simp [results, go_sem]) rfl ?_
      exact ⟨by rw [HE.out, HS.out], HZ3.out⟩
    by_cases h4 : l = 4
    · have HS := Lib.hid (show spcU xs o = ((ligsL xs).length : Int) by unfold spcU; rw [if_neg (by simp [HE.out]), if_pos (.inr (HLO.out.trans h4))])
      subst h4
      go_wp2_with fail
      refine (HLG.out).mono ?_
      rintro e w3 ⟨⟨v, rfl, hown⟩, hb3⟩
      obtain ⟨V3, cv3, rfl, _⟩ := own_form hown
      have HZ3 := Lib.hid (below_self HZ2.out hb3)
      clear hown hb3 k1
      go_wp2_with fail
      refine bodyPost_ret (v := .tuple #[.int .i64 ((ligsL xs).length : Int), .int .i64 0]) (by simp [results, go_sem]) rfl ?_
      exact ⟨by rw [HE.out, HS.out], HZ3.out⟩
    · have HS := Lib.hid (show spcU xs o = 0 by unfold spcU; rw [if_neg (by simp [HE.out]), if_neg (by rw [HLO.out]; simp [h3, h4])])
      have g3 : (l == 3) = false := by simpa using h3
      have g4 : (l == 4) = false := by simpa using h4
      clear h3 h4
      go_wp2_with fail
      refine bodyPost_ret (v := .tuple #[.int .i64 0, .int .i64 0]) (by simp [results, go_sem]) rfl ?_
      exact ⟨by rw [HE.out, HS.out], HZ2.out⟩
  · have HS := Lib.hid (show spcU xs o = 0 by unfold spcU; rw [if_pos hE])
    obtain ⟨E, hEE⟩ : ∃ E, errU xs o = E := ⟨_, rfl⟩
    rw [hEE] at hE
    rw [hEE]
    have HE := Lib.hid hEE
    have g1 : (E != 0) = true := by simp [hE]
    clear hE hEE
    go_wp2_with fail
    refine bodyPost_ret (v := .tuple #[.int .i64 0, .int .i64 E]) (by simp [results, go_sem]) rfl ?_
    exact ⟨by rw [HE.out, HS.out], HZ2.out⟩
set_option maxRecDepth 100000 in
set_option maxHeartbeats 4000000 in
theorem unSpacesN_any (A : Option Addr) (n c bp : Nat) (xs : List Int) (d l t g : Int) (b0 b1 b2 b3 b4 b5 b6 b7 b8 b9 : Bool) (w : World) (hK : KindsAt w) (hP : PropAt w bp) (hr : Rd w 1 A n (xs.map (Value.int .i64))) (hx : ∀ x ∈ xs, KeyI x) (hn : n ≤ 1000) :
    Calls Tryz.prog 8 #[.pointer (some ⟨bp, 0, none⟩), .slice A n c, .agg #[.int .i64 d, .int .i64 l, .int .i64 t, .int .i64 g, .bool b0, .bool b1, .bool b2, .bool b3, .bool b4, .bool b5, .bool b6, .bool b7, .bool b8, .bool b9]] w fun e w' => e = .returned (.tuple #[.int .i64 (spcU xs ⟨d, l, t, g, b0, b1, b2, b3, b4, b5, b6, b7, b8, b9⟩), .int .i64 (errU xs ⟨d, l, t, g, b0, b1, b2, b3, b4, b5, b6, b7, b8, b9⟩)]) ∧ Below w.heap.size w w' := by
  have hlen : xs.length = n := by simpa using hr.len1
  obtain ⟨o, ho⟩ : ∃ o : Opt, (⟨d, l, t, g, b0, b1, b2, b3, b4, b5, b6, b7, b8, b9⟩ : Opt) = o := ⟨_, rfl⟩
  have hol : o.l = l := by rw [← ho]
  have hb0 := below_new w (.cells #[.int .i64 d, .int .i64 l, .int .i64 t, .int .i64 g, .bool b0, .bool b1, .bool b2, .bool b3, .bool b4, .bool b5, .bool b6, .bool b7, .bool b8, .bool b9] 24)
  have HUN := Lib.hid (unUnshape_any A n c bp xs d l t g b0 b1 b2 b3 b4 b5 b6 b7 b8 b9 _ (hK.below hb0) (hP.below hb0) (hr.below hb0) hx hn)
  have hcel := cells_new w [.int .i64 d, .int .i64 l, .int .i64 t, .int .i64 g, .bool b0, .bool b1, .bool b2, .bool b3, .bool b4, .bool b5, .bool b6, .bool b7, .bool b8, .bool b9] 24
  have HO1 := Lib.hid (heap_alloc_new w (.cells #[.int .i64 d, .int .i64 l, .int .i64 t, .int .i64 g, .bool b0, .bool b1, .bool b2, .bool b3, .bool b4, .bool b5, .bool b6, .bool b7, .bool b8, .bool b9] 24))
  rw [ho] at HUN ⊢
  have HB0 := Lib.hid hb0
  have HL := Lib.hid hlen
  have HR := Lib.hid hr
  have HLO := Lib.hid hol
  have HLE := Lib.hid (ligs_le xs xs.length)
  clear hr hlen hb0 ho hK hP hx hol
  go_enter Tryz.func8, Tryz.ntmps8
  go_wp2_with fail
  refine HUN.out.mono ?_
  rintro e w2 ⟨hU, hb2⟩
  obtain ⟨l', _, V, cv, U, cu, rfl, _, _⟩ := un_data hU
  clear hU
  have HZ2 := Lib.hid (below_self HB0.out hb2)
  obtain ⟨k1, _, _, _⟩ := box14 ((hb2.block _ (hp_lt HO1.out)).trans HO1.out)
  have HLG := Lib.hid (unLigs_any A n c xs w2 (HR.out.below HZ2.out) (by omega))
  clear hb2 hcel HUN
  by_cases hE : errU xs o = 0
  · have HE := Lib.hid hE
    rw [hE]
    clear hE
    by_cases h3 : l = 3
    · have HS := Lib.hid (show spcU xs o = ((ligsL xs).length : Int) by unfold spcU; rw [if_neg (by simp [HE.out]), if_pos (.inl (HLO.out.trans h3))])
      subst h3
      go_wp2_with fail
      refine (HLG.out).mono ?_
      rintro e w3 ⟨⟨v, rfl, hown⟩, hb3⟩
      obtain ⟨V3, cv3, rfl, _⟩ := own_form hown
      have HZ3 := Lib.hid (below_self HZ2.out hb3)
      clear hown hb3 k1
      go_wp2_with fail
      refine bodyPost_ret (v := .tuple #[.int .i64 ((ligsL xs).length : Int), .int .i64 0]) (by simp [results, go_sem]) rfl ?_
      exact ⟨by rw [HE.out, HS.out], HZ3.out⟩
    by_cases h4 : l = 4
    · have HS := Lib.hid (show spcU xs o = ((ligsL xs).length : Int) by unfold spcU; rw [if_neg (by simp [HE.out]), if_pos (.inr (HLO.out.trans h4))])
      subst h4
      go_wp2_with fail
      refine (HLG.out).mono ?_
      rintro e w3 ⟨⟨v, rfl, hown⟩, hb3⟩
      obtain ⟨V3, cv3, rfl, _⟩ := own_form hown
      have HZ3 := Lib.hid (below_self HZ2.out hb3)
      clear hown hb3 k1
      go_wp2_with fail
      refine bodyPost_ret (v := .tuple #[.int .i64 ((ligsL xs).length : Int), .int .i64 0]) (by simp [results, go_sem]) rfl ?_
      exact ⟨by rw [HE.out, HS.out], HZ3.out⟩
    · have HS := Lib.hid (show spcU xs o = 0 by unfold spcU; rw [if_neg (by simp [HE.out]), if_neg (by rw [HLO.out]; simp [h3, h4])])
      have g3 : (l == 3) = false := by simpa using h3
      have g4 : (l == 4) = false := by simpa using h4
      clear h3 h4
      go_wp2_with fail
      refine bodyPost_ret (v := .tuple #[.int .i64 0, .int .i64 0]) (by simp [results, go_sem]) rfl ?_
      exact ⟨by rw [HE.out, HS.out], HZ2.out⟩
  · have HS := Lib.hid (show spcU xs o = 0 by unfold spcU; rw [if_pos hE])
    obtain ⟨E, hEE⟩ : ∃ E, errU xs o = E := ⟨_, rfl⟩
    rw [hEE] at hE
    rw [hEE]
    have HE := Lib.hid hEE
    have g1 : (E != 0) = true := by simp [hE]
    clear hE hEE
    go_wp2_with fail
    refine bodyPost_ret (v := .tuple #[.int .i64 0, .int .i64 E]) (by simp [results, go_sem]) rfl ?_
    exact ⟨by rw [HE.out, HS.out], HZ2.out⟩
end Go.Proofs.YtcbiaeeifclieaaGreatDoor
/- naskhlaw18's awake, walked. -/
namespace Go.Proofs.YtcbiaeeifclieaaGreatDoor
open Go.RowKit

def oAw : Opt := ⟨0, 2, 0, 0, false, true, false, false, false, false, false, false, false, false⟩
theorem aw_err : oAw.err = 0 := by decide
theorem aw_two : unS [65275, 32] oAw = some [(2, [1604]), (0, [1575])] := by decide +kernel
theorem aw_one : unS [65275] oAw = none := by decide +kernel
theorem aw_key : ∀ x ∈ ([65275, 32] : List Int), KeyI x := by unfold KeyI; decide
theorem aw_key1 : ∀ x ∈ ([65275] : List Int), KeyI x := by unfold KeyI; decide
theorem aw_len {R : List RC} {l' : List NC} (hR : R.map Prod.snd = [(2, [1604]), (0, [1575])]) (hF : FinIs 2 2 (linksR 2 R []) l') : l'.length = 1 := by
  have hl : R.length = 2 := by have := congrArg List.length hR; simpa using this
  match R, hl with
  | [(v0, e0, c0), (v1, e1, c1)], _ =>
    simp only [List.map_cons, List.map_nil, List.cons.injEq, Prod.mk.injEq, and_true] at hR
    obtain ⟨⟨rfl, rfl⟩, rfl, rfl⟩ := hR
    have hj : joinedTo [(v0, (2 : Int), [1604]), (v1, 0, [1575])] 2 = [(0, 2)] := rfl
    have hk : linksR 2 [(v0, (2 : Int), [1604]), (v1, 0, [1575])] [] = [((0, 2), (0, 2))] := by
      unfold linksR
      rw [hj]
      rfl
    rw [hk] at hF
    have hfit : fitB 2 2 [((0, 2), (0, 2))] = true := rfl
    have hh := finIs_holds hF hfit (x := ((0, 2), (0, 2))) (by simp)
    have ht := (hF.2 (by decide)).tiles
    obtain ⟨c, hc, hin⟩ := List.any_eq_true.1 hh
    obtain ⟨y, hy, rfl⟩ := List.mem_map.1 hc
    unfold insB at hin
    rw [Bool.and_eq_true, Bool.and_eq_true, Bool.and_eq_true] at hin
    obtain ⟨⟨⟨i1, i2⟩, _⟩, _⟩ := hin
    have i1 := of_decide_eq_true i1
    have i2 := of_decide_eq_true i2
    change (y.a : Int) ≤ 0 at i1
    change (2 : Int) ≤ (y.b : Int) at i2
    match l', ht with
    | [], ht => cases hy
    | [x], _ => rfl
    | x :: z :: l, ⟨h1, h2, h3⟩ =>
      obtain ⟨h4, h5, h6⟩ := h3
      rcases List.mem_cons.1 hy with rfl | hy
      · have := Tiles.le h6
        omega
      · have := (Tiles.from_ (show Tiles x.b (z :: l) 2 from ⟨h4, h5, h6⟩) y hy).1
        omega
/-- What Unshape answers of the two codes, and of the one. -/
def Aw2 (W W' : World) (e : Ending) : Prop := Below W.heap.size W W' ∧ ∃ v u l', e = .returned (.tuple #[v, u, .int .i64 0]) ∧ W'.ownsRow W.heap.size 3 1 v 2 (([1604, 1575] : List Int).map (Value.int .i64)) ∧ W'.ownsRow W.heap.size 41 4 u 1 l'
def Aw1 (W W' : World) (e : Ending) : Prop := Below W.heap.size W W' ∧ e = .returned (.tuple #[.slice none 0 0, .slice none 0 0, .int .i64 9])
theorem aw2_any (w W : World) (hK : KindsAt w) (hb : Below w.heap.size w W) (b : Nat) (A : Option Addr) (c : Nat) (hP : PropAt W b) (hr : Rd W 1 A 2 (([65275, 32] : List Int).map (Value.int .i64))) :
    Calls Tryz.prog 6 #[.pointer (some ⟨b, 0, none⟩), .slice A 2 c, .agg #[.int .i64 0, .int .i64 2, .int .i64 0, .int .i64 0, .bool false, .bool true, .bool false, .bool false, .bool false, .bool false, .bool false, .bool false, .bool false, .bool false]] W fun e W' => Aw2 W W' e := by
  refine (unUnshape_any A 2 c b [65275, 32] 0 2 0 0 false true false false false false false false false false W (hK.below hb) hP hr aw_key (by omega)).mono ?_
  rintro e W' ⟨h, hb'⟩
  rcases h with ⟨h, _⟩ | ⟨_, h, _⟩ | ⟨_, S, hS, h⟩
  · exact absurd aw_err h
  · have h' : unS [65275, 32] oAw = none := h
    rw [aw_two] at h'
    cases h'
  · have h' : unS [65275, 32] oAw = some S := hS
    rw [aw_two] at h'
    obtain rfl := Option.some.inj h'
    rcases h with ⟨h, _⟩ | ⟨_, h, _⟩ | ⟨_, _, v, u, l', R, rfl, hR, hF, ho1, ho2⟩
    · cases h
    · cases h
    · refine ⟨hb', v, u, cellsC (l'.map NC.cl), rfl, ho1, ?_⟩
      have := aw_len hR hF
      rw [this] at ho2
      exact ho2
theorem aw1_any (w W : World) (hK : KindsAt w) (hb : Below w.heap.size w W) (b : Nat) (A : Option Addr) (c : Nat) (hP : PropAt W b) (hr : Rd W 1 A 1 (([65275] : List Int).map (Value.int .i64))) :
    Calls Tryz.prog 6 #[.pointer (some ⟨b, 0, none⟩), .slice A 1 c, .agg #[.int .i64 0, .int .i64 2, .int .i64 0, .int .i64 0, .bool false, .bool true, .bool false, .bool false, .bool false, .bool false, .bool false, .bool false, .bool false, .bool false]] W fun e W' => Aw1 W W' e := by
  refine (unUnshape_any A 1 c b [65275] 0 2 0 0 false true false false false false false false false false W (hK.below hb) hP hr aw_key1 (by omega)).mono ?_
  rintro e W' ⟨h, hb'⟩
  rcases h with ⟨h, _⟩ | ⟨_, _, rfl⟩ | ⟨_, S, hS, _⟩
  · exact absurd aw_err h
  · exact ⟨hb', rfl⟩
  · have h' : unS [65275] oAw = some S := hS
    rw [aw_one] at h'
    cases h'
theorem rdOneA (w : World) (a : Int) (t : TypeId) : Rd (w.alloc (.cells #[.int .i64 a] t)) 1 (some ⟨w.heap.size, 0, none⟩) 1 (([a] : List Int).map (Value.int .i64)) := Rd.new_ w [.int .i64 a] t
theorem rdTwoA (w : World) (a b : Int) (t : TypeId) : Rd (w.alloc (.cells #[.int .i64 a, .int .i64 b] t)) 1 (some ⟨w.heap.size, 0, none⟩) 2 (([a, b] : List Int).map (Value.int .i64)) := Rd.new_ w [.int .i64 a, .int .i64 b] t
set_option maxRecDepth 100000 in
set_option maxHeartbeats 8000000 in
theorem awakeUn_any (w : World) (hK : KindsAt w) : Calls Tryz.prog 4 #[] w fun e w' => e = .returned (.bool true) ∧ Below w.heap.size w w' := by
  obtain ⟨W0, hW0⟩ : ∃ W0, w.alloc (.cells #[.int .i64 0, .int .i64 2, .int .i64 0, .int .i64 0, .bool false, .bool true, .bool false, .bool false, .bool false, .bool false, .bool false, .bool false, .bool false, .bool false] 24) = W0 := ⟨_, rfl⟩
  have hcel : ∀ (j : Nat) (u : Value), ([Value.int .i64 0, Value.int .i64 2, Value.int .i64 0, Value.int .i64 0, Value.bool false, Value.bool true, Value.bool false, Value.bool false, Value.bool false, Value.bool false, Value.bool false, Value.bool false, Value.bool false, Value.bool false] : List Value)[j]? = some u → W0.cell? ((⟨w.heap.size, 0, none⟩ : Addr).add j) = some u := by rw [← hW0]; exact cells_new w _ _
  have c0 : W0.cell? ⟨w.heap.size, 0, none⟩ = some (.int .i64 0) := by have := hcel 0 _ rfl; rwa [addNew] at this
  have c1 : W0.cell? ⟨w.heap.size, 1, none⟩ = some (.int .i64 2) := by have := hcel 1 _ rfl; rwa [addNew] at this
  have c2 : W0.cell? ⟨w.heap.size, 2, none⟩ = some (.int .i64 0) := by have := hcel 2 _ rfl; rwa [addNew] at this
  have c3 : W0.cell? ⟨w.heap.size, 3, none⟩ = some (.int .i64 0) := by have := hcel 3 _ rfl; rwa [addNew] at this
  have c4 : W0.cell? ⟨w.heap.size, 4, none⟩ = some (.bool false) := by have := hcel 4 _ rfl; rwa [addNew] at this
  have c5 : W0.cell? ⟨w.heap.size, 5, none⟩ = some (.bool true) := by have := hcel 5 _ rfl; rwa [addNew] at this
  have c6 : W0.cell? ⟨w.heap.size, 6, none⟩ = some (.bool false) := by have := hcel 6 _ rfl; rwa [addNew] at this
  have c7 : W0.cell? ⟨w.heap.size, 7, none⟩ = some (.bool false) := by have := hcel 7 _ rfl; rwa [addNew] at this
  have c8 : W0.cell? ⟨w.heap.size, 8, none⟩ = some (.bool false) := by have := hcel 8 _ rfl; rwa [addNew] at this
  have c9 : W0.cell? ⟨w.heap.size, 9, none⟩ = some (.bool false) := by have := hcel 9 _ rfl; rwa [addNew] at this
  have c10 : W0.cell? ⟨w.heap.size, 10, none⟩ = some (.bool false) := by have := hcel 10 _ rfl; rwa [addNew] at this
  have c11 : W0.cell? ⟨w.heap.size, 11, none⟩ = some (.bool false) := by have := hcel 11 _ rfl; rwa [addNew] at this
  have c12 : W0.cell? ⟨w.heap.size, 12, none⟩ = some (.bool false) := by have := hcel 12 _ rfl; rwa [addNew] at this
  have c13 : W0.cell? ⟨w.heap.size, 13, none⟩ = some (.bool false) := by have := hcel 13 _ rfl; rwa [addNew] at this
  have hb0 : Below w.heap.size w W0 := by rw [← hW0]; exact below_new _ _
  have HB0 := Lib.hid hb0
  have HK := Lib.hid (hK.below hb0)
  have HC := Lib.hid (show W0.cell? ⟨w.heap.size, 0, none⟩ = some (.int .i64 0) ∧ W0.cell? ⟨w.heap.size, 1, none⟩ = some (.int .i64 2) ∧ W0.cell? ⟨w.heap.size, 2, none⟩ = some (.int .i64 0) ∧ W0.cell? ⟨w.heap.size, 3, none⟩ = some (.int .i64 0) ∧ W0.cell? ⟨w.heap.size, 4, none⟩ = some (.bool false) ∧ W0.cell? ⟨w.heap.size, 5, none⟩ = some (.bool true) ∧ W0.cell? ⟨w.heap.size, 6, none⟩ = some (.bool false) ∧ W0.cell? ⟨w.heap.size, 7, none⟩ = some (.bool false) ∧ W0.cell? ⟨w.heap.size, 8, none⟩ = some (.bool false) ∧ W0.cell? ⟨w.heap.size, 9, none⟩ = some (.bool false) ∧ W0.cell? ⟨w.heap.size, 10, none⟩ = some (.bool false) ∧ W0.cell? ⟨w.heap.size, 11, none⟩ = some (.bool false) ∧ W0.cell? ⟨w.heap.size, 12, none⟩ = some (.bool false) ∧ W0.cell? ⟨w.heap.size, 13, none⟩ = some (.bool false) ∧ Below W0.heap.size W0 W0 from ⟨c0, c1, c2, c3, c4, c5, c6, c7, c8, c9, c10, c11, c12, c13, Below.refl _ _⟩)
  have HU2 := Lib.hid (fun W b A hP hr => fun (hb : Below W0.heap.size W0 W) => aw2_any W0 W HK.out hb b A 2 hP hr)
  have HW0 := Lib.hid hW0
  clear hcel hb0 hK hW0
  go_enter Tryz.func4, Tryz.ntmps4
  go_wp2_with fail
  try simp only [HW0.out]
  go_cut [2, 3, 4] (fun t l e wx => ∃ V cv U cu, t = .slice V 2 cv ∧ l = .slice U 1 cu ∧ e = .int .i64 0 ∧ Rd wx 1 V 2 (([1604, 1575] : List Int).map (Value.int .i64)) ∧ Below W0.heap.size W0 wx)
  case first =>
    go_region_held3 (fun w' => w'.cell? ⟨w.heap.size, 0, none⟩ = some (.int .i64 0) ∧ w'.cell? ⟨w.heap.size, 1, none⟩ = some (.int .i64 2) ∧ w'.cell? ⟨w.heap.size, 2, none⟩ = some (.int .i64 0) ∧ w'.cell? ⟨w.heap.size, 3, none⟩ = some (.int .i64 0) ∧ w'.cell? ⟨w.heap.size, 4, none⟩ = some (.bool false) ∧ w'.cell? ⟨w.heap.size, 5, none⟩ = some (.bool true) ∧ w'.cell? ⟨w.heap.size, 6, none⟩ = some (.bool false) ∧ w'.cell? ⟨w.heap.size, 7, none⟩ = some (.bool false) ∧ w'.cell? ⟨w.heap.size, 8, none⟩ = some (.bool false) ∧ w'.cell? ⟨w.heap.size, 9, none⟩ = some (.bool false) ∧ w'.cell? ⟨w.heap.size, 10, none⟩ = some (.bool false) ∧ w'.cell? ⟨w.heap.size, 11, none⟩ = some (.bool false) ∧ w'.cell? ⟨w.heap.size, 12, none⟩ = some (.bool false) ∧ w'.cell? ⟨w.heap.size, 13, none⟩ = some (.bool false) ∧ Below W0.heap.size W0 w')
      (first
        | exact HC.out
        | exact s14_on HC.out (Below.refl _ _).drew
        | exact s14_on (by assumption) h1
        | exact s14_on HC.out h1
        | exact s14_on (s14_on HC.out (Below.refl _ _).drew) h1
        | exact s14_on (by assumption) (below_new _ _)
        | exact s14_on HC.out (below_new _ _)
        | exact s14_on (s14_on HC.out (Below.refl _ _).drew) (below_new _ _)
        | exact s14_on (by assumption) h2
        | exact s14_on (s14_on (by assumption) (below_new _ _)) h2
        | fail)
      (first
        | (go_at_call 5; with_reducible refine (prNew_any _).mono ?_; rintro e w7 ⟨⟨b1, rfl, hP1⟩, h1⟩)
        | (go_at_call 6; refine (HU2.out _ _ _ (by first | exact hP1 | exact hP1.below (below_new _ _)) (by first | exact rdTwoA _ 65275 32 3 | exact Rd.below (w := (W0.alloc (.cells #[.int .i64 65275, .int .i64 32] 3)).drew) (rdTwoA W0 65275 32 3) h1 | exact Rd.below (w := W0.alloc (.cells #[.int .i64 65275, .int .i64 32] 3)) (rdTwoA W0 65275 32 3) h1) (by assumption : _ ∧ _ ∧ _ ∧ _ ∧ _ ∧ _ ∧ _ ∧ _ ∧ _ ∧ _ ∧ _ ∧ _ ∧ _ ∧ _ ∧ Below W0.heap.size W0 _).2.2.2.2.2.2.2.2.2.2.2.2.2.2).mono ?_; rintro e w8 ⟨h2, v8, u8, l8, rfl, hv8, hu8⟩)
        | fail)
    all_goals (
      have HB8 := Lib.hid (by assumption : _ ∧ _ ∧ _ ∧ _ ∧ _ ∧ _ ∧ _ ∧ _ ∧ _ ∧ _ ∧ _ ∧ _ ∧ _ ∧ _ ∧ Below W0.heap.size W0 w8).2.2.2.2.2.2.2.2.2.2.2.2.2.2
      have HV8 := Lib.hid hv8
      have HU8 := Lib.hid hu8
      obtain ⟨V, cv, rfl, _⟩ := own_form hv8
      obtain ⟨U, cu, rfl, _⟩ := own_form hu8
      clear hv8 hu8 h1 h2 hP1)
    · go_wp2_with fail
      go_meet
      case rel => exact ⟨V, cv, U, cu, rfl, rfl, rfl, Rd.of_own HV8.out, HB8.out⟩
    · go_wp2_with fail
      go_meet
      case rel => exact ⟨V, cv, U, cu, rfl, rfl, rfl, Rd.of_own HV8.out, HB8.out⟩
  case rest =>
    obtain ⟨V, cv, U, cu, rfl, rfl, rfl, hrd, hb⟩ := hcut
    have HRD := Lib.hid hrd
    clear c0 c1 c2 c3 c4 c5 c6 c7 c8 c9 c10 c11 c12 c13
    obtain ⟨c0, c1, c2, c3, c4, c5, c6, c7, c8, c9, c10, c11, c12, c13, _⟩ := s14_on HC.out hb
    have HBW := Lib.hid hb
    obtain ⟨W3, hW3⟩ : ∃ W3, wc = W3 := ⟨_, rfl⟩
    subst hW3
    have HC3 := Lib.hid (show wc.cell? ⟨w.heap.size, 0, none⟩ = some (.int .i64 0) ∧ wc.cell? ⟨w.heap.size, 1, none⟩ = some (.int .i64 2) ∧ wc.cell? ⟨w.heap.size, 2, none⟩ = some (.int .i64 0) ∧ wc.cell? ⟨w.heap.size, 3, none⟩ = some (.int .i64 0) ∧ wc.cell? ⟨w.heap.size, 4, none⟩ = some (.bool false) ∧ wc.cell? ⟨w.heap.size, 5, none⟩ = some (.bool true) ∧ wc.cell? ⟨w.heap.size, 6, none⟩ = some (.bool false) ∧ wc.cell? ⟨w.heap.size, 7, none⟩ = some (.bool false) ∧ wc.cell? ⟨w.heap.size, 8, none⟩ = some (.bool false) ∧ wc.cell? ⟨w.heap.size, 9, none⟩ = some (.bool false) ∧ wc.cell? ⟨w.heap.size, 10, none⟩ = some (.bool false) ∧ wc.cell? ⟨w.heap.size, 11, none⟩ = some (.bool false) ∧ wc.cell? ⟨w.heap.size, 12, none⟩ = some (.bool false) ∧ wc.cell? ⟨w.heap.size, 13, none⟩ = some (.bool false) ∧ Below wc.heap.size wc wc from ⟨c0, c1, c2, c3, c4, c5, c6, c7, c8, c9, c10, c11, c12, c13, Below.refl _ _⟩)
    have HU1 := Lib.hid (fun W b A hP hr => fun (hb : Below wc.heap.size wc W) => aw1_any wc W (HK.out.below HBW.out) hb b A 1 hP hr)
    clear hrd hb HC HU2 HW0
    go_upto_region 3 with fail
    go_cut [5, 6, 7] (fun t l e wx => e = .int .i64 9 ∧ Below wc.heap.size wc wx)
    case first =>
      go_region_held3 (fun w' => w'.cell? ⟨w.heap.size, 0, none⟩ = some (.int .i64 0) ∧ w'.cell? ⟨w.heap.size, 1, none⟩ = some (.int .i64 2) ∧ w'.cell? ⟨w.heap.size, 2, none⟩ = some (.int .i64 0) ∧ w'.cell? ⟨w.heap.size, 3, none⟩ = some (.int .i64 0) ∧ w'.cell? ⟨w.heap.size, 4, none⟩ = some (.bool false) ∧ w'.cell? ⟨w.heap.size, 5, none⟩ = some (.bool true) ∧ w'.cell? ⟨w.heap.size, 6, none⟩ = some (.bool false) ∧ w'.cell? ⟨w.heap.size, 7, none⟩ = some (.bool false) ∧ w'.cell? ⟨w.heap.size, 8, none⟩ = some (.bool false) ∧ w'.cell? ⟨w.heap.size, 9, none⟩ = some (.bool false) ∧ w'.cell? ⟨w.heap.size, 10, none⟩ = some (.bool false) ∧ w'.cell? ⟨w.heap.size, 11, none⟩ = some (.bool false) ∧ w'.cell? ⟨w.heap.size, 12, none⟩ = some (.bool false) ∧ w'.cell? ⟨w.heap.size, 13, none⟩ = some (.bool false) ∧ Below wc.heap.size wc w')
        (first
          | exact HC3.out
          | exact s14_on HC3.out (Below.refl _ _).drew
          | exact s14_on (by assumption) h1
          | exact s14_on HC3.out h1
          | exact s14_on (s14_on HC3.out (Below.refl _ _).drew) h1
          | exact s14_on (by assumption) (below_new _ _)
          | exact s14_on HC3.out (below_new _ _)
          | exact s14_on (s14_on HC3.out (Below.refl _ _).drew) (below_new _ _)
          | exact s14_on (by assumption) h2
          | exact s14_on (s14_on (by assumption) (below_new _ _)) h2
          | fail)
        (first
          | (go_at_call 5; with_reducible refine (prNew_any _).mono ?_; rintro e w7 ⟨⟨b1, rfl, hP1⟩, h1⟩)
          | (go_at_call 6; refine (HU1.out _ _ _ (by first | exact hP1 | exact hP1.below (below_new _ _)) (by first | exact rdOneA _ 65275 3 | exact Rd.below (w := (wc.alloc (.cells #[.int .i64 65275] 3)).drew) (rdOneA wc 65275 3) h1 | exact Rd.below (w := wc.alloc (.cells #[.int .i64 65275] 3)) (rdOneA wc 65275 3) h1) (by assumption : _ ∧ _ ∧ _ ∧ _ ∧ _ ∧ _ ∧ _ ∧ _ ∧ _ ∧ _ ∧ _ ∧ _ ∧ _ ∧ _ ∧ Below wc.heap.size wc _).2.2.2.2.2.2.2.2.2.2.2.2.2.2).mono ?_; rintro e w8 ⟨h2, rfl⟩)
          | fail)
      all_goals (
        have HB8 := Lib.hid (by assumption : _ ∧ _ ∧ _ ∧ _ ∧ _ ∧ _ ∧ _ ∧ _ ∧ _ ∧ _ ∧ _ ∧ _ ∧ _ ∧ _ ∧ Below wc.heap.size wc w8).2.2.2.2.2.2.2.2.2.2.2.2.2.2
        clear h1 h2 hP1)
      · go_wp2_with fail
        go_meet
        case rel => exact ⟨rfl, HB8.out⟩
      · go_wp2_with fail
        go_meet
        case rel => exact ⟨rfl, HB8.out⟩
    case rest =>
      obtain ⟨rfl, hb⟩ := hcut
      have HR := Lib.hid (HRD.out.below hb)
      have HZ := Lib.hid (below_self HB0.out (below_self HBW.out (below_self hb (below_new wc (.cells #[.int .i64 1604, .int .i64 1575] 3)))))
      have HEQ := Lib.hid (equalInt_b V (some ⟨wc.heap.size, 0, none⟩) 2 2 cv 2 [1604, 1575] [1604, 1575] (wc.alloc (.cells #[.int .i64 1604, .int .i64 1575] 3)) (HR.out.alloc _) (rdTwoA wc 1604 1575 3) (by unfold maxLen; omega) (by unfold maxLen; omega))
      rw [decide_eq_true rfl] at HEQ
      clear hb HRD HU1 HC3
      go_wp2_with (go_at_call 10; refine HEQ.out.mono ?_; rintro e w9 ⟨rfl, hb9⟩)
      go_ret
      exact ⟨rfl, below_self HZ.out hb9⟩
end Go.Proofs.YtcbiaeeifclieaaGreatDoor
/- naskhlaw18.UnshapeTakes, walked. -/
namespace Go.Proofs.YtcbiaeeifclieaaGreatDoor
open Go.RowKit

theorem box14a {W : World} {gg : Nat} {x0 x1 x2 x3 x4 x5 x6 x7 x8 x9 x10 x11 x12 x13 : Value} {T : TypeId} (h : W.heap[gg]? = some (.cells #[x0, x1, x2, x3, x4, x5, x6, x7, x8, x9, x10, x11, x12, x13] T (0, 0))) : W.cell? ⟨gg, 0, none⟩ = some x0 ∧ W.cell? ⟨gg, 1, none⟩ = some x1 ∧ W.cell? ⟨gg, 2, none⟩ = some x2 ∧ W.cell? ⟨gg, 3, none⟩ = some x3 ∧ W.cell? ⟨gg, 4, none⟩ = some x4 ∧ W.cell? ⟨gg, 5, none⟩ = some x5 ∧ W.cell? ⟨gg, 6, none⟩ = some x6 ∧ W.cell? ⟨gg, 7, none⟩ = some x7 ∧ W.cell? ⟨gg, 8, none⟩ = some x8 ∧ W.cell? ⟨gg, 9, none⟩ = some x9 ∧ W.cell? ⟨gg, 10, none⟩ = some x10 ∧ W.cell? ⟨gg, 11, none⟩ = some x11 ∧ W.cell? ⟨gg, 12, none⟩ = some x12 ∧ W.cell? ⟨gg, 13, none⟩ = some x13 :=
  ⟨hp_cell h rfl, hp_cell h rfl, hp_cell h rfl, hp_cell h rfl, hp_cell h rfl, hp_cell h rfl, hp_cell h rfl, hp_cell h rfl, hp_cell h rfl, hp_cell h rfl, hp_cell h rfl, hp_cell h rfl, hp_cell h rfl, hp_cell h rfl⟩
theorem cod_le (xs : List Int) (o : Opt) : (codU xs o).length ≤ 2 * xs.length := by
  unfold codU
  split
  · cases hS : unS xs o with
    | none => simp
    | some S => exact codes_le (unS_small hS)
  · simp
theorem cl_le {xs : List Int} {o : Opt} {l' : List NC} (hok : HokU xs o l') : (clU xs o l').length ≤ xs.length := by
  unfold clU
  split
  · rename_i h
    by_cases he : o.err = 0
    · cases hS : unS xs o with
      | none => rw [errU_none he hS] at h; exact absurd h.1 (by decide)
      | some S =>
        by_cases hc : codesS S = []
        · rw [errU_gone he hS (by omega) hc] at h; exact absurd h.1 (by decide)
        · have hF := hok he S hS (by omega) hc
          have := tiles_len (hF.2 (by omega)).tiles
          omega
    · rw [errU_err he] at h; exact absurd h.1 he
  · simp
set_option maxRecDepth 100000 in
set_option maxHeartbeats 8000000 in
theorem unshapeTakes_any (A : Option Addr) (n c : Nat) (xs : List Int) (d l t g : Int) (b0 b1 b2 b3 b4 b5 b6 b7 b8 b9 : Bool) (w : World) (hK : KindsAt w) (hr : Rd w 1 A n (xs.map (Value.int .i64))) (hx : ∀ x ∈ xs, KeyI x) (hn : n ≤ maxLen) :
    Calls Tryz.prog 3 #[.slice A n c, .agg #[.int .i64 d, .int .i64 l, .int .i64 t, .int .i64 g, .bool b0, .bool b1, .bool b2, .bool b3, .bool b4, .bool b5, .bool b6, .bool b7, .bool b8, .bool b9]] w fun e w' => e = .returned (.bool true) ∧ Below w.heap.size w w' := by
  have hlen : xs.length = n := by simpa using hr.len1
  unfold maxLen at hn
  obtain ⟨o, ho⟩ : ∃ o : Opt, (⟨d, l, t, g, b0, b1, b2, b3, b4, b5, b6, b7, b8, b9⟩ : Opt) = o := ⟨_, rfl⟩
  have hb0 := below_new w (.cells #[.int .i64 d, .int .i64 l, .int .i64 t, .int .i64 g, .bool b0, .bool b1, .bool b2, .bool b3, .bool b4, .bool b5, .bool b6, .bool b7, .bool b8, .bool b9] 24)
  have hO1 := heap_alloc_new w (.cells #[.int .i64 d, .int .i64 l, .int .i64 t, .int .i64 g, .bool b0, .bool b1, .bool b2, .bool b3, .bool b4, .bool b5, .bool b6, .bool b7, .bool b8, .bool b9] 24)
  obtain ⟨W0, hW0⟩ : ∃ W0, w.alloc (.cells #[.int .i64 d, .int .i64 l, .int .i64 t, .int .i64 g, .bool b0, .bool b1, .bool b2, .bool b3, .bool b4, .bool b5, .bool b6, .bool b7, .bool b8, .bool b9] 24) = W0 := ⟨_, rfl⟩
  obtain ⟨ob, hob⟩ : ∃ ob, w.heap.size = ob := ⟨_, rfl⟩
  rw [hW0] at hb0 hO1
  rw [hob] at hO1
  have HAW := Lib.hid (fun W (h : Below w.heap.size w W) => awakeUn_any W (hK.below h))
  have HW0 := Lib.hid hW0
  have HOB := Lib.hid hob
  have HB0 := Lib.hid hb0
  have HO0 := Lib.hid hO1
  by_cases hs : n ≤ 60
  · have HU := Lib.hid (fun W bp (hP : PropAt W bp) (h : Below w.heap.size w W) => (unUnshape_any A n c bp xs d l t g b0 b1 b2 b3 b4 b5 b6 b7 b8 b9 W (hK.below h) hP (hr.below h) hx (by omega)).mono fun e W' h' => (⟨(by have := un_data h'.1; rwa [ho] at this : ∃ l', HokU xs o l' ∧ AnsU W' xs o l' e), h'.2⟩ : (∃ l', HokU xs o l' ∧ AnsU W' xs o l' e) ∧ Below W.heap.size W W'))
    have HRU := Lib.hid (fun W l' (hk : HokU xs o l') (h : Below w.heap.size w W) => (by have := rfUnshape_any A n c xs d l t g b0 b1 b2 b3 b4 b5 b6 b7 b8 b9 l' W (hr.below h) (by omega) (by rw [ho]; exact hk); rwa [ho] at this : Calls Tryz.prog 7 #[.slice A n c, .agg #[.int .i64 d, .int .i64 l, .int .i64 t, .int .i64 g, .bool b0, .bool b1, .bool b2, .bool b3, .bool b4, .bool b5, .bool b6, .bool b7, .bool b8, .bool b9]] W fun e w' => AnsU w' xs o l' e ∧ Below W.heap.size W w'))
    have HSU := Lib.hid (fun W bp (hP : PropAt W bp) (h : Below w.heap.size w W) => (by have := unSpacesN_any A n c bp xs d l t g b0 b1 b2 b3 b4 b5 b6 b7 b8 b9 W (hK.below h) hP (hr.below h) hx (by omega); rwa [ho] at this : Calls Tryz.prog 8 #[.pointer (some ⟨bp, 0, none⟩), .slice A n c, .agg #[.int .i64 d, .int .i64 l, .int .i64 t, .int .i64 g, .bool b0, .bool b1, .bool b2, .bool b3, .bool b4, .bool b5, .bool b6, .bool b7, .bool b8, .bool b9]] W fun e w' => e = .returned (.tuple #[.int .i64 (spcU xs o), .int .i64 (errU xs o)]) ∧ Below W.heap.size W w'))
    have HRS := Lib.hid (fun W l' (hk : HokU xs o l') (h : Below w.heap.size w W) => (by have := rfSpacesN_any A n c xs d l t g b0 b1 b2 b3 b4 b5 b6 b7 b8 b9 l' W (hr.below h) (by omega) (by rw [ho]; exact hk); rwa [ho] at this : Calls Tryz.prog 9 #[.slice A n c, .agg #[.int .i64 d, .int .i64 l, .int .i64 t, .int .i64 g, .bool b0, .bool b1, .bool b2, .bool b3, .bool b4, .bool b5, .bool b6, .bool b7, .bool b8, .bool b9]] W fun e w' => e = .returned (.tuple #[.int .i64 (spcU xs o), .int .i64 (errU xs o)]) ∧ Below W.heap.size W w'))
    have HCO := Lib.hid (show (codU xs o).length ≤ 120 by have := cod_le xs o; omega)
    have HCX := Lib.hid (fun l' (h : HokU xs o l') => (show (clU xs o l').length ≤ 60 by have := cl_le h; omega))
    obtain ⟨E, hE⟩ : ∃ E, errU xs o = E := ⟨_, rfl⟩
    obtain ⟨K, hKK⟩ : ∃ K, spcU xs o = K := ⟨_, rfl⟩
    rw [hE, hKK] at HSU HRS
    have HE := Lib.hid hE
    clear hK hr hx hlen ho hb0 hW0 hob hO1 hE hKK
    go_enter Tryz.func3, Tryz.ntmps3
    go_wp2_with fail
    try simp only [HW0.out, HOB.out]
    refine (prNew_any _).mono ?_
    rintro e w2 ⟨⟨bp, rfl, hP⟩, hb2⟩
    have HZ2 := Lib.hid (below_self HB0.out hb2)
    have HO2 := Lib.hid ((hb2.block _ (hp_lt HO0.out)).trans HO0.out)
    have HP := Lib.hid hP
    obtain ⟨k0, k1, k2, k3, k4, k5, k6, k7, k8, k9, k10, k11, k12, k13⟩ := box14a HO2.out
    clear hb2 hP
    go_wp2_with fail
    refine (HU.out w2 bp HP.out HZ2.out).mono ?_
    rintro e w3 ⟨⟨l', hok, V, cv, U, cu, rfl, hrv, hru⟩, hb3⟩
    have HOK := Lib.hid hok
    have HCL := Lib.hid (HCX.out l' hok)
    have HZ3 := Lib.hid (below_self HZ2.out hb3)
    have HO3 := Lib.hid ((hb3.block _ (hp_lt HO2.out)).trans HO2.out)
    have HP3 := Lib.hid (HP.out.below hb3)
    have HRV := Lib.hid hrv
    have HRU' := Lib.hid hru
    rw [HE.out]
    clear hok hrv hru hb3 k0 k1 k2 k3 k4 k5 k6 k7 k8 k9 k10 k11 k12 k13
    obtain ⟨k0, k1, k2, k3, k4, k5, k6, k7, k8, k9, k10, k11, k12, k13⟩ := box14a HO3.out
    go_wp2_with fail
    refine (HRU.out w3 l' HOK.out HZ3.out).mono ?_
    rintro e w4 ⟨⟨V2, cv2, U2, cu2, rfl, hrv2, hru2⟩, hb4⟩
    have HZ4 := Lib.hid (below_self HZ3.out hb4)
    have HO4 := Lib.hid ((hb4.block _ (hp_lt HO3.out)).trans HO3.out)
    have HP4 := Lib.hid (HP3.out.below hb4)
    have HEQ := Lib.hid (And.intro (And.intro (HRV.out.below hb4) hrv2) (And.intro (HRU'.out.below hb4) hru2))
    rw [HE.out]
    clear hrv2 hru2 hb4 k0 k1 k2 k3 k4 k5 k6 k7 k8 k9 k10 k11 k12 k13 HRV HRU'
    obtain ⟨k0, k1, k2, k3, k4, k5, k6, k7, k8, k9, k10, k11, k12, k13⟩ := box14a HO4.out
    go_wp2_with fail
    refine (HSU.out w4 bp HP4.out HZ4.out).mono ?_
    rintro e w5 ⟨rfl, hb5⟩
    have HZ5 := Lib.hid (below_self HZ4.out hb5)
    have HO5 := Lib.hid ((hb5.block _ (hp_lt HO4.out)).trans HO4.out)
    have HEQ5 := Lib.hid (And.intro (And.intro (HEQ.out.1.1.below hb5) (HEQ.out.1.2.below hb5)) (And.intro (HEQ.out.2.1.below hb5) (HEQ.out.2.2.below hb5)))
    clear hb5 k0 k1 k2 k3 k4 k5 k6 k7 k8 k9 k10 k11 k12 k13 HEQ
    obtain ⟨k0, k1, k2, k3, k4, k5, k6, k7, k8, k9, k10, k11, k12, k13⟩ := box14a HO5.out
    go_wp2_with fail
    refine (HRS.out w5 l' HOK.out HZ5.out).mono ?_
    rintro e w6 ⟨rfl, hb6⟩
    have HZ6 := Lib.hid (below_self HZ5.out hb6)
    have HEA := Lib.hid (equalInt_b V V2 (codU xs o).length (codU xs o).length cv cv2 (codU xs o) (codU xs o) w6 (HEQ5.out.1.1.below hb6) (HEQ5.out.1.2.below hb6) (by have := HCO.out; unfold maxLen; omega) (by have := HCO.out; unfold maxLen; omega))
    have HEC := Lib.hid (fun W (h : Below w6.heap.size w6 W) => equalC_b U U2 (clU xs o l').length (clU xs o l').length cu cu2 ((clU xs o l').map NC.cl) ((clU xs o l').map NC.cl) W ((HEQ5.out.2.1.below hb6).below h) ((HEQ5.out.2.2.below hb6).below h) (by have := HCL.out; unfold maxLen; omega) (by have := HCL.out; unfold maxLen; omega))
    rw [show decide (codU xs o = codU xs o) = true from decide_eq_true rfl] at HEA
    simp only at HEC
    clear hb6 k0 k1 k2 k3 k4 k5 k6 k7 k8 k9 k10 k11 k12 k13 HEQ5
    go_wp2_with (first
      | (go_at_call 10; refine HEA.out.mono ?_; rintro e w7 ⟨rfl, hb7⟩)
      | (go_at_call 11; refine (HEC.out _ hb7).mono ?_; rintro e w8 ⟨rfl, hb8⟩)
      | (go_at_call 4; refine (HAW.out _ (below_self HZ6.out (below_self hb7 hb8))).mono ?_; rintro e w9 ⟨rfl, hb9⟩)
      | fail)
    go_ret
    exact ⟨rfl, below_self HZ6.out (below_self hb7 (below_self hb8 hb9))⟩
  · have hgt : (60 : Int) < (n : Int) := by omega
    clear hK hr hx hlen ho hb0 hW0 hob hO1
    go_enter Tryz.func3, Tryz.ntmps3
    go_wp2_with fail
    try simp only [HW0.out, HOB.out]
    refine (HAW.out _ HB0.out).mono ?_
    rintro e w9 ⟨rfl, hb9⟩
    have HZ := Lib.hid (below_self HB0.out hb9)
    clear hb9
    go_wp2_with fail
    go_ret
    exact ⟨rfl, HZ.out⟩
end Go.Proofs.YtcbiaeeifclieaaGreatDoor
