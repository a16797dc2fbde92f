/- brack's becomes and N0, walked: what brackets become. -/
import Derived.Test.YtpddjojgcenlkaaBkM
import Derived.Test.YtpddjojgcenlkaaBkJ
import Derived.Test.YtpddjojgcenlkaaBkP
import Derived.Test.YtpddjojgcenlkaaCloneI
namespace Go.Proofs.Ytpddjojgcenlkaa
open Go.RowKit

theorem bec_is {o : List Int} {p1 p2 : Nat} {level sos : Int} {a b : Bool} (h2 : p2 ≤ o.length) (hi : insS ((o.take p2).drop (p1 + 1)) level = (a, b)) : becF o p1 p2 level sos = if a = true then ofL level else if b = false then -1 else ahdV o p1 level sos := by
  have h := ins_sub (l := o) (lo := p1 + 1) (hi := p2) level h2
  rw [show (((p1 + 1 : Nat) : Int) - 1) = (p1 : Int) by omega, hi] at h
  unfold becF ahdV
  rw [h]
set_option maxRecDepth 100000 in
set_option maxHeartbeats 2000000 in
theorem bkBecomes_any (w0 w : World) (sb n c d p1 p2 : Nat) (C D : Option Addr) (level sos v : Int) (o bf : List Int) (h : BqAt w0 w sb C D n c d level sos o bf) (h1 : p1 < p2) (h2 : p2 < n) (hn : n ≤ 1000000) (hv : becF o p1 p2 level sos = v) :
    Calls Try.prog 21 #[.pointer (some ⟨sb, 0, none⟩), .agg #[.int .i64 (p1 : Int), .int .i64 (p2 : Int)]] w fun e w' => e = .returned (.int .i64 v) ∧ Below w.heap.size w w' := by
  obtain ⟨hol, hbl⟩ := h.len
  obtain ⟨a, b, hab⟩ : ∃ a b, insS ((o.take p2).drop (p1 + 1)) level = (a, b) := ⟨_, _, rfl⟩
  rw [bec_is (by omega) hab] at hv
  obtain ⟨_, _, hv', hnc⟩ := own_form h.row
  simp only [Value.slice.injEq] at hv'
  obtain ⟨rfl, -, rfl⟩ := hv'
  have HIN := Lib.hid (fun W (hr : Rd W 1 C n (o.map (Value.int .i64))) => bkInside_any C n c (p1 + 1) p2 o level a b hab h1 (by omega) hnc hn W hr)
  rw [show (((p1 + 1 : Nat) : Int) - 1) = (p1 : Int) by omega] at HIN
  have HSO := Lib.hid (fun W => bkSideOf_any level _ rfl W)
  obtain ⟨g, c', hvg, _, hgl, _, _⟩ := own_at h.row (show 0 < n by omega)
  simp only [Value.slice.injEq] at hvg
  obtain ⟨rfl, -, -⟩ := hvg
  have HRD := Lib.hid (Rd.of_own h.row)
  have HBX := Lib.hid h.box
  have HAH := Lib.hid (fun W (hB : Below w.heap.size w W) => callsIn_wide.1 (bkAhead_in sb ⟨g, 0, none⟩ D n c n d p1 o level sos _ W rfl ((hB.block sb (hp_lt HBX.out)).trans HBX.out) (HRD.out.below hB) (by omega) hnc hn (Nat.lt_of_lt_of_le hgl hB.size)))
  have c0 : w.cell? ⟨sb, 0, none⟩ = some (.slice (some ⟨g, 0, none⟩) n c) := hp_cell (j := 0) h.box rfl
  have c2 : w.cell? ⟨sb, 2, none⟩ = some (.int .i64 level) := hp_cell (j := 2) h.box rfl
  have hb := below_new w (.cells #[.int .i64 (p1 : Int), .int .i64 (p2 : Int)] 27)
  have hbx := heap_alloc_new w (.cells #[.int .i64 (p1 : Int), .int .i64 (p2 : Int)] 27)
  obtain ⟨wb, hwb⟩ : ∃ wb, w.alloc (.cells #[.int .i64 (p1 : Int), .int .i64 (p2 : Int)] 27) = wb := ⟨_, rfl⟩
  rw [hwb] at hb hbx
  have d0 := cell_below hb c0
  have d2 := cell_below hb c2
  have e0 : wb.cell? ⟨w.heap.size, 0, none⟩ = some (.int .i64 (p1 : Int)) := hp_cell (j := 0) hbx rfl
  have e1 : wb.cell? ⟨w.heap.size, 1, none⟩ = some (.int .i64 (p2 : Int)) := hp_cell (j := 1) hbx rfl
  have HB := Lib.hid hb
  obtain ⟨pb, hpb⟩ : ∃ pb, w.heap.size = pb := ⟨_, rfl⟩
  rw [hpb] at e0 e1
  have HPB := Lib.hid hpb
  have HWB := Lib.hid hwb
  clear h hab c0 c2 hb hbx hwb hpb hol hbl hgl
  go_enter Try.func21, Try.ntmps21
  go_wp2
  rw [HPB.out, HWB.out]
  go_region_held3 (fun w' => w'.cell? ⟨sb, 0, none⟩ = some (.slice (some ⟨g, 0, none⟩) n c) ∧ w'.cell? ⟨sb, 2, none⟩ = some (.int .i64 level) ∧ w'.cell? ⟨pb, 0, none⟩ = some (.int .i64 (p1 : Int)) ∧ w'.cell? ⟨pb, 1, none⟩ = some (.int .i64 (p2 : Int)) ∧ Below w.heap.size w w')
    (first
      | exact ⟨d0, d2, e0, e1, ⟨HB.out.os, HB.out.tape, HB.out.output, HB.out.size, HB.out.block⟩⟩
      | exact ⟨cell_below h1 (by assumption : _ ∧ _ ∧ _ ∧ _ ∧ Below w.heap.size w _).1, cell_below h1 (by assumption : _ ∧ _ ∧ _ ∧ _ ∧ Below w.heap.size w _).2.1, cell_below h1 (by assumption : _ ∧ _ ∧ _ ∧ _ ∧ Below w.heap.size w _).2.2.1, cell_below h1 (by assumption : _ ∧ _ ∧ _ ∧ _ ∧ Below w.heap.size w _).2.2.2.1, (by assumption : _ ∧ _ ∧ _ ∧ _ ∧ Below w.heap.size w _).2.2.2.2.trans (h1.mono (by assumption : _ ∧ _ ∧ _ ∧ _ ∧ Below w.heap.size w _).2.2.2.2.size)⟩
      | assumption
      | fail)
    (first
      | (go_at_call 33; refine (HIN.out _ (HRD.out.below (by assumption : _ ∧ _ ∧ _ ∧ _ ∧ Below w.heap.size w _).2.2.2.2)).mono ?_; rintro e w9 ⟨rfl, h1⟩)
      | fail)
  have hh := (by assumption : w9.cell? ⟨sb, 0, none⟩ = some (.slice (some ⟨g, 0, none⟩) n c) ∧ w9.cell? ⟨sb, 2, none⟩ = some (.int .i64 level) ∧ w9.cell? ⟨pb, 0, none⟩ = some (.int .i64 (p1 : Int)) ∧ w9.cell? ⟨pb, 1, none⟩ = some (.int .i64 (p2 : Int)) ∧ Below w.heap.size w w9)
  obtain ⟨f0, f2, f3, f4, hB9⟩ := hh
  have HB9 := Lib.hid hB9
  clear h1 d0 d2 e0 e1 hB9
  cases a with
  | true =>
    rw [if_pos rfl] at hv
    subst hv
    go_wp2_with (first
      | (go_at_call 34; refine (HSO.out _).mono ?_; rintro e w3 ⟨rfl, rfl⟩)
      | fail)
    go_ret
    exact ⟨rfl, HB9.out⟩
  | false =>
    rw [if_neg (by decide)] at hv
    cases b with
    | false =>
      rw [if_pos rfl] at hv
      subst hv
      go_wp2
      go_ret
      exact ⟨rfl, HB9.out⟩
    | true =>
      rw [if_neg (by decide)] at hv
      subst hv
      go_wp2_with (first
        | (go_at_call 35; refine (HAH.out _ HB9.out).mono ?_; rintro e w3 ⟨rfl, hb3⟩)
        | fail)
      go_ret
      exact ⟨rfl, HB9.out.trans (hb3.mono HB9.out.size)⟩
theorem BqAt.nb {w0 w : World} {sb n c d k : Nat} {C D : Option Addr} {level sos : Int} {o bf : List Int} (h : BqAt w0 w sb C D n c d level sos o bf) (hk : w.heap.size ≤ k) : (Value.slice C n c).ownBlock ≠ some k := fun e => by
  have := (h.row.lt k e).2
  omega
theorem BqAt.np {w0 w : World} {sb n c d K base : Nat} {C D : Option Addr} {level sos : Int} {o bf : List Int} {v : Value} {xs : List Value} (h : BqAt w0 w sb C D n c d level sos o bf) (hp : w.ownsRow base 27 2 v K xs) : v.ownBlock = none ∨ v.ownBlock ≠ (Value.slice C n c).ownBlock := by
  rcases ho : v.ownBlock with _ | g
  · exact .inl rfl
  · refine .inr fun e => ?_
    obtain ⟨c1, h1⟩ := own_row hp g ho
    obtain ⟨c2, h2⟩ := own_row h.row g e.symm
    rw [h1] at h2
    simp at h2
theorem n0P_step {bf o : List Int} {level sos : Int} {ps : List (Nat × Nat)} {k : Nat} {p : Nat × Nat} (hp : ps[k]? = some p) : n0P bf level sos o (ps.take (k + 1)) = n0Q bf level sos (n0P bf level sos o (ps.take k)) p := by
  unfold n0P
  rw [List.take_add_one, hp, Option.toList_some, List.foldl_append]
  rfl
set_option maxRecDepth 100000 in
set_option maxHeartbeats 4000000 in
theorem bkN0_any (A B D : Option Addr) (n c m d : Nat) (cs l bf : List Int) (level sos : Int) (w : World) (hr : Rd w 1 A n (cs.map (Value.int .i64))) (hs : Rd w 1 B n (l.map (Value.int .i64))) (hd : Rd w 1 D n (bf.map (Value.int .i64))) (hn : n ≤ 100000) :
    Calls Try.prog 11 #[.slice A n c, .slice B n m, .slice D n d, .int .i64 level, .int .i64 sos] w fun e w' => ∃ v, e = .returned v ∧ w'.ownsRow w.heap.size 3 1 v n ((n0F bf level sos l (bkF cs l)).map (Value.int .i64)) ∧ Below w.heap.size w w' := by
  have hbl : bf.length = n := by simpa using hd.len1
  have hll : l.length = n := by simpa using hs.len1
  have hcl : cs.length = n := by simpa using hr.len1
  have HSM := Lib.hid (bk_same (cs := cs) (l := l) (bf := bf) (level := level) (sos := sos) (by omega))
  have hok := bkF_ok cs l
  have HPR := Lib.hid hok.pair
  have hkl : (bkF cs l).length ≤ n := by
    unfold bkF
    split
    · have := bk_outs (fun i => decide (l.getD i 0 = 13)) (fun i => (braF (cs.getD i 0)).1) (fun o i => bmF (cs.getD o 0) (cs.getD i 0)) cs.length
      omega
    · simp
  have HCL := Lib.hid hcl
  have HBL := Lib.hid hbl
  have HR := Lib.hid hr
  have HS := Lib.hid hs
  have HD := Lib.hid hd
  have HDB := Lib.hid (show 0 < n → ∀ ad, D = some ad → ad.block < w.heap.size from fun h0 ad e => by
    obtain ⟨ad', e', hb, _⟩ := hd.2 h0
    rw [e] at e'
    obtain rfl := Option.some.inj e'
    exact hb)
  obtain ⟨K, hK⟩ : ∃ K, (bkF cs l).length = K := ⟨_, rfl⟩
  have HK := Lib.hid hK
  rw [hK] at hkl
  clear hr hs hd hok hbl hll hcl hK
  go_enter Try.func11, Try.ntmps11
  go_wp2_with (first
    | (go_at_call 20; refine (cloneInt_any B n m _ w HS.out (oneInts _ _) (by omega)).mono ?_; rintro e w1 ⟨v1, rfl, hv1, hb1⟩; obtain ⟨C, cc, he, hncc⟩ := own_form hv1; subst he; have HQ : Hid (BqAt w (w1.alloc (.cells #[.slice C n cc, .slice D n d, .int .i64 level, .int .i64 sos] 46)) w1.heap.size C D n cc d level sos l bf) := Lib.hid ⟨heap_alloc_new w1 _, hv1.alloc _, (HD.out.below hb1).alloc _, HDB.out, hb1.alloc hb1.size _⟩; clear hv1 hb1)
    | (go_at_call 8; refine (bkFind_any A B n c n m cs l _ (HR.out.below HQ.out.low) (HS.out.below HQ.out.low) hn hn).mono ?_; rintro e w2 ⟨v2, rfl, hv2, hb2⟩; rw [HK.out] at hv2; obtain ⟨P, cp, he2, hncp⟩ := own_form hv2; subst he2; have HQ2 := Lib.hid (HQ.out.lowr hb2); have HP2 := Lib.hid (own_base hv2 HQ.out.low.size); clear hv2 hb2 HQ)
    | fail)
  generalize w1.heap.size = sb at HQ2
  go_loopw [42] (fun i wr => ∃ k : Nat, k ≤ K ∧ i = .int .i64 (k : Int) ∧ BqAt w wr sb C D n cc d level sos (n0P bf level sos l ((bkF cs l).take k)) bf ∧ wr.ownsRow w.heap.size 27 2 (.slice P K cp) K (cellsS (prL (bkF cs l)))) (fun i _ => K - (intOf i).toNat)
  case atStart => exact ⟨0, Nat.zero_le _, rfl, HQ2.out, HP2.out⟩
  case round =>
    obtain ⟨k, hk, rfl, hq, hp⟩ := hrel
    have HQ := Lib.hid hq
    have HP := Lib.hid hp
    clear hq hp
    by_cases hlt : k < K
    · obtain ⟨⟨p1, p2⟩, hpk⟩ : ∃ p, (bkF cs l)[k]? = some p := ⟨_, List.getElem?_eq_getElem (by rw [HK.out]; exact hlt)⟩
      obtain ⟨hp12, hp2n⟩ := HPR.out (p1, p2) (List.mem_of_getElem? hpk)
      rw [HCL.out] at hp2n
      have HST := Lib.hid (n0P_step (bf := bf) (o := l) (level := level) (sos := sos) hpk)
      have hsp : (prL (bkF cs l))[k]? = some ((p1 : Int), (p2 : Int)) := by unfold prL; rw [List.getElem?_map, hpk]; rfl
      obtain ⟨ad, rfl, hab, d1, d2⟩ := (Rd.of_own HP.out).span hsp
      obtain ⟨o, ho⟩ : ∃ o, n0P bf level sos l ((bkF cs l).take k) = o := ⟨_, rfl⟩
      rw [ho] at HQ HST
      simp only at hp12 hp2n d1 d2
      obtain ⟨v, hv⟩ : ∃ v, becF o p1 p2 level sos = v := ⟨_, rfl⟩
      have hvc := bec_in o p1 p2 level sos
      unfold n0Q at HST
      simp only at HST
      rw [hv] at hvc HST
      have hki : (k : Int) < (K : Int) := by omega
      clear hpk hsp ho
      have HPB := Lib.hid (heap_alloc_new wr (.cells #[.int .i64 (p1 : Int), .int .i64 (p2 : Int)] 27))
      have HBP := Lib.hid (below_new wr (.cells #[.int .i64 (p1 : Int), .int .i64 (p2 : Int)] 27))
      have e0 : (wr.alloc (.cells #[.int .i64 (p1 : Int), .int .i64 (p2 : Int)] 27)).cell? ⟨wr.heap.size, 0, none⟩ = some (.int .i64 (p1 : Int)) := hp_cell (j := 0) HPB.out rfl
      have e1 : (wr.alloc (.cells #[.int .i64 (p1 : Int), .int .i64 (p2 : Int)] 27)).cell? ⟨wr.heap.size, 1, none⟩ = some (.int .i64 (p2 : Int)) := hp_cell (j := 1) HPB.out rfl
      by_cases hv1 : v = -1
      · subst hv1
        rw [if_pos (by decide)] at HST
        go_wp2_with (first
          | (go_at_call 21; refine (bkBecomes_any w _ sb n cc d p1 p2 C D level sos _ o bf (HQ.out.lowr HBP.out) hp12 hp2n (by omega) hv).mono ?_; rintro e w3 ⟨rfl, hb3⟩)
          | fail)
        have hb4 := HBP.out.trans (hb3.mono HBP.out.size)
        go_roundw
        case rel => exact ⟨k + 1, by omega, by go_num, by rw [HST.out]; exact HQ.out.lowr hb4, own_below HP.out hb4⟩
        case measure => simp [intOf]; omega
      · have g1 : (v != -1) = true := by simp [hv1]
        rw [if_neg (by omega)] at HST
        go_wp2_with (first
          | (go_at_call 21; refine (bkBecomes_any w _ sb n cc d p1 p2 C D level sos _ o bf (HQ.out.lowr HBP.out) hp12 hp2n (by omega) hv).mono ?_; rintro e w3 ⟨rfl, hb3⟩; have f0 := cell_below hb3 e0; have f1 := cell_below hb3 e1; have HQ3 := Lib.hid ((HQ.out.lowr HBP.out).lowr hb3); have hz3 := hb3.size; have HP3 := Lib.hid (own_below (own_below HP.out HBP.out) hb3))
          | fail)
        have HF1 := Lib.hid f1
        have HNB := Lib.hid (HQ.out.nb (Nat.le_refl wr.heap.size))
        have hz4 : wr.heap.size < w3.heap.size := by have := HBP.out.size; simp at hz3; omega
        clear f1
        go_wp2_with (first
          | (go_at_call 22; refine (bkSet_any w _ sb n cc d p2 C D level sos v _ bf HQ5.out hp2n (by omega)).mono ?_; rintro e w6 ⟨rfl, hq6, hg6⟩; have HQ6 := Lib.hid hq6; have HP6 := Lib.hid (HP5.out.kept hg6 (HQ5.out.np HP5.out)); clear hq6 hg6)
          | (go_at_call 22; refine (bkSet_any w _ sb n cc d p1 C D level sos v _ bf HQ3.out (by omega) (by omega)).mono ?_; rintro e w5 ⟨rfl, hq5, hg5⟩; have HQ5 := Lib.hid hq5; have HP5 := Lib.hid (HP3.out.kept hg5 (HQ3.out.np HP3.out)); have f15 := (World.cell?_of_block (a := ⟨wr.heap.size, 1, none⟩) (hg5.block wr.heap.size hz4 (fun e => HNB.out e.symm))).trans HF1.out; clear hq5 hg5)
          | fail)
        go_roundw
        case rel => exact ⟨k + 1, by omega, by go_num, by rw [HST.out]; exact HQ6.out, HP6.out⟩
        case measure => simp [intOf]; omega
    · obtain rfl : k = K := by omega
      have HE := Lib.hid (show n0P bf level sos l ((bkF cs l).take k) = n0F bf level sos l (bkF cs l) by rw [List.take_of_length_le (by rw [HK.out]; exact Nat.le_refl _), HSM.out])
      have c0 : wr.cell? ⟨sb, 0, none⟩ = some (.slice C n cc) := hp_cell (j := 0) HQ.out.box rfl
      go_wp2
      go_ret
      have h := HQ.out
      rw [HE.out] at h
      exact ⟨_, rfl, h.row, h.low⟩
end Go.Proofs.Ytpddjojgcenlkaa
