/- Texts of one claim, one behind the other. -/
import Derived.Deep.LoopGhost
import Derived.Deep.RegionLaw
import Derived.Deep.DeepCutAuto
import Derived.Deep.CutBlock
import Derived.Test.YtnmpoipakmjbpaaMgSq3
import Derived.Test.YtnmpoipakmjbpaaMgSq5
/- The reference's Sequences, walked. -/
namespace Go.Proofs.Ytnmpoipakmjbpaa
open Go.RowKit

set_option maxRecDepth 100000 in
set_option maxHeartbeats 16000000 in
theorem rqSeqs_same (A B C : Option Addr) (n c d q : Nat) (lv cl bf : List Int) (level : Int) (w : World) (hr : Rd w 1 A n (lv.map (Value.int .i64))) (hs : Rd w 1 B n (cl.map (Value.int .i64))) (ht : Rd w 1 C n (bf.map (Value.int .i64))) (hn : n ≤ 100000) :
    Calls Try.prog 16 #[.slice A n c, .slice B n d, .slice C n q, .int .i64 level] w fun e w' => (∃ v O, e = .returned v ∧ OsAt w' w.heap.size v O ∧ O.map (fun o => o.e) = seqsF lv cl bf level (runsG lv cl).length) ∧ Below w.heap.size w w' := by
  have hll : lv.length = n := by simpa using hr.len1
  have hlc : cl.length = n := by simpa using hs.len1
  have hlb : bf.length = n := by simpa using ht.len1
  have HLL := Lib.hid hll
  have HLC := Lib.hid hlc
  have HLB := Lib.hid hlb
  have HR := Lib.hid hr
  have HS := Lib.hid hs
  have HT := Lib.hid ht
  have HRU := Lib.hid (rqRuns_any A B n c n d lv cl w hr hs hn (by unfold maxLen; omega))
  have hls := len_ls
  have hRE : ∀ r ∈ runsG lv cl, r ≠ [] ∧ ∀ x ∈ r, x < n := fun r hr' => by
    unfold runsG at hr'
    rw [if_pos (by omega)] at hr'
    refine ⟨(runs_one hr').1, fun x hx => ?_⟩
    have : x ∈ (runsF lv cl).flatten := List.mem_flatten.2 ⟨r, hr', hx⟩
    rw [runs_flat] at this
    have := List.mem_range.1 (List.mem_filter.1 this).1
    omega
  have hRL : (runsG lv cl).length ≤ n := by
    unfold runsG
    rw [if_pos (by omega)]
    have h1 : ∀ L : List (List Nat), (∀ x ∈ L, x ≠ []) → L.length ≤ L.flatten.length := fun L => by
      induction L with
      | nil => simp
      | cons a L ih =>
        intro h
        have h5 := ih (fun x hx => h x (by simp [hx]))
        have h6 : a.length ≠ 0 := fun e => h a (by simp) (List.eq_nil_of_length_eq_zero e)
        simp only [List.flatten_cons, List.length_append, List.length_cons]
        omega
    have h2 := h1 (runsF lv cl) (fun x hx => (runs_one hx).1)
    rw [runs_flat] at h2
    refine Nat.le_trans h2 (Nat.le_trans (List.length_filter_le _ _) ?_)
    simp; omega
  have hRF : (runsG lv cl).flatten.length ≤ n := by
    unfold runsG
    rw [if_pos (by omega), runs_flat]
    refine Nat.le_trans (List.length_filter_le _ _) ?_
    simp; omega
  obtain ⟨R, hR⟩ : ∃ R, runsG lv cl = R := ⟨_, rfl⟩
  rw [hR] at HRU hRE hRL hRF ⊢
  have HRF := Lib.hid hRF
  clear hRF
  have HRR := Lib.hid hR
  have HRE := Lib.hid hRE
  clear hr hs ht hll hlc hlb hR hRE
  go_enter Try.func16, Try.ntmps16
  go_wp2_with fail
  refine HRU.out.mono ?_
  rintro e w1 ⟨⟨v, Q, rfl, hL⟩, hb1⟩
  obtain ⟨AR, cR, rfl, hcR⟩ := own_form hL.own
  have hQl : Q.length = R.length := by have := hL.len; unfold encR at this; rwa [List.length_map] at this
  rw [hQl] at hcR hL ⊢
  have HQL := Lib.hid hQl
  have HL := Lib.hid hL
  have HB1 := Lib.hid hb1
  clear hL hb1 hQl
  go_wp2_with fail
  refine (rfMatches_any C n q bf w1 (HT.out.below HB1.out) hn).mono ?_
  rintro e w2 ⟨vm, rfl, hown, hb2⟩
  obtain ⟨M, cM, rfl, hcM⟩ := own_form hown
  have HB2 := Lib.hid (below_self HB1.out hb2)
  have HL2 := Lib.hid (HL.out.low hb2)
  have HM2 := Lib.hid (Rd.of_own hown)
  obtain ⟨N, hN⟩ : ∃ N, R.length = N := ⟨_, rfl⟩
  rw [hN] at hcR hRL HL2 ⊢
  have HNN := Lib.hid hN
  have hmk := mk_boolsQ N (by omega)
  obtain ⟨gu, hgu⟩ : ∃ gu, w2.heap.size = gu := ⟨_, rfl⟩
  have hu := heap_alloc_new w2 (.cells (Array.replicate N (Value.bool false)) 4)
  have hb3 := below_new w2 (.cells (Array.replicate N (Value.bool false)) 4)
  obtain ⟨w3, hw3⟩ : ∃ w3, w2.alloc (.cells (Array.replicate N (Value.bool false)) 4) = w3 := ⟨_, rfl⟩
  rw [hw3, hgu] at hu
  rw [hw3] at hb3
  have HU0 : Hid (w3.heap[gu]? = some (.cells ((usedL [] N).map Value.bool).toArray 4 (0, 0))) := Lib.hid (by rw [hu, usedL_nil]; simp)
  have HB3 := Lib.hid hb3
  have HG := Lib.hid hgu
  clear hown hb2 hN hu hb3
  go_upto_region 6 with fail
  clear hmk
  go_wp2_with fail
  go_loopw [13, 12] (fun s13 vo wr => ∃ i O, i ≤ N ∧ s13 = .int .i64 ((i : Nat) : Int) ∧ wr.heap[gu]? = some (.cells ((usedL (sqF R bf (matF bf) i).2 N).map Value.bool).toArray 4 (0, 0)) ∧ OsAt wr gu vo O ∧ O.map (fun o => o.e) = seqsF lv cl bf level i ∧ Below gu w2 wr) (fun s13 _ _ => N - (intOf s13).toNat)
  case atStart => exact ⟨0, [], Nat.zero_le _, rfl, HU0.out, OsAt.nil_ _ _, rfl, by have := HG.out; subst this; exact HB3.out⟩
  case round =>
    obtain ⟨i, O, hi, rfl, hu, hO, hOe, hB⟩ := hrel
    have HO := Lib.hid hO
    have HOE := Lib.hid hOe
    have HB := Lib.hid hB
    have HU := Lib.hid hu
    obtain ⟨VO, cO, rfl, hcO⟩ := own_form hO.own
    have hsq := sq_ok (R := R) (bf := bf) (mt := matF bf) i (by rw [HNN.out]; exact hi)
    have hsqs : sqF R bf (matF bf) (i + 1) = if i ∈ (sqF R bf (matF bf) i).2 then sqF R bf (matF bf) i else ((sqF R bf (matF bf) i).1 ++ [(chF R bf (matF bf) (R.length + 1) (some i) (sqF R bf (matF bf) i).2).drop (sqF R bf (matF bf) i).2.length], chF R bf (matF bf) (R.length + 1) (some i) (sqF R bf (matF bf) i).2) := by rw [sqF]
    obtain ⟨U, hUe⟩ : ∃ U, (sqF R bf (matF bf) i).2 = U := ⟨_, rfl⟩
    rw [hUe] at HU hu hsq hsqs
    have HSQ := Lib.hid hsq
    have HSS := Lib.hid hsqs
    have HUE := Lib.hid hUe
    by_cases hlt : i < N
    · have cU := hp_cell hu (j := i) (v := .bool (decide (i ∈ U))) (by rw [List.getElem?_toArray, List.getElem?_map, usedL_at hlt]; rfl)
      have hiN : (i : Int) < (N : Int) := by omega
      have hi0 : (0 : Int) ≤ (i : Int) := by omega
      have hi5 : (i : Int) ≤ 100000 := by omega
      clear hu hO hOe hB hsq hsqs hUe
      by_cases hm : i ∈ U
      · rw [decide_eq_true hm] at cU
        have HS1 : Hid (sqF R bf (matF bf) (i + 1) = sqF R bf (matF bf) i) := Lib.hid (by rw [HSS.out, if_pos hm])
        have HOE2 : Hid (O.map (fun o => o.e) = seqsF lv cl bf level (i + 1)) := Lib.hid (by rw [HOE.out]; unfold seqsF; rw [HRR.out, HS1.out])
        clear hm
        go_wp2_with fail
        go_roundw
        case rel => exact ⟨i + 1, O, by omega, by go_num, by rw [HS1.out, HUE.out]; exact HU.out, HO.out, HOE2.out, HB.out⟩
        case measure => simp [intOf]; omega
      · rw [decide_eq_false hm] at cU
        have HIM := Lib.hid hm
        clear hm
        have hbx := heap_alloc_new wr (.cells #[.slice none 0 0, .int .i64 0, .int .i64 0, .int .i64 0] 44)
        have hbn := below_new wr (.cells #[.slice none 0 0, .int .i64 0, .int .i64 0, .int .i64 0] 44)
        obtain ⟨W, hW⟩ : ∃ W, wr.alloc (.cells #[.slice none 0 0, .int .i64 0, .int .i64 0, .int .i64 0] 44) = W := ⟨_, rfl⟩
        rw [hW] at hbx hbn
        obtain ⟨bs, hbs⟩ : ∃ bs, wr.heap.size = bs := ⟨_, rfl⟩
        rw [hbs] at hbx
        have hgub : gu < wr.heap.size := hp_lt HU.out
        have HI0 : Hid (InAt wr W gu bs N (U ++ []) (placesF R []) (.slice none 0 0)) := Lib.hid ⟨by rw [List.append_nil]; exact (hbn.block _ hgub).trans HU.out, hbx, ⟨rfl, .inl ⟨rfl, rfl⟩⟩, Kept.of_below hbn _, hgub, by omega⟩
        have HBS := Lib.hid hbs
        have hiR : i < R.length := by rw [HNN.out]; exact hlt
        clear hbx hbn
        obtain ⟨Fn, hFn⟩ : ∃ Fn, chF R bf (matF bf) (R.length + 1) (some i) U = Fn := ⟨_, rfl⟩
        have HFN := Lib.hid hFn
        rw [hFn] at HSS
        clear hFn
        go_upto_block 2 with fail
        obtain ⟨wi, hwi⟩ : ∃ wi, wi = wr := ⟨_, rfl⟩
        subst hwi
        go_cut [15, 16] from 39 to 159 (fun s15 s16 wx => ∃ ks u, ks ≠ [] ∧ Fn = U ++ ks ∧ InAt wi wx gu bs N (U ++ ks) (placesF R ks) u)
        case first =>
          go_wp2_with fail
          go_loopg [15] (R.length + 1) (fun f s15 ws => ∃ ks ko u, s15 = .int .i64 (lastI ko) ∧ chF R bf (matF bf) f ko (U ++ ks) = Fn ∧ R.length < f + (U ++ ks).length ∧ (U ++ ks).Nodup ∧ (∀ x ∈ U ++ ks, x < R.length) ∧ (∀ j, ko = some j → j < R.length) ∧ (ks = [] → ko = some i) ∧ InAt wi ws gu bs N (U ++ ks) (placesF R ks) u)
          case atStart => exact ⟨[], some i, _, rfl, by rw [List.append_nil]; exact HFN.out, by simp; omega, by rw [List.append_nil]; exact HSQ.out.2.1, by rw [List.append_nil]; exact HSQ.out.1, fun j hj => by obtain rfl := Option.some.inj hj; exact hiR, fun _ => rfl, HI0.out⟩
          case round =>
            obtain ⟨ks, ko, u, rfl, hch, hfu, hnd, hbd, hko, hks, hI⟩ := hrel
            have HI := Lib.hid hI
            have HFU := Lib.hid hfu
            have HND := Lib.hid hnd
            have HBD := Lib.hid hbd
            have HKS := Lib.hid hks
            by_cases hgo : ∃ k, ko = some k ∧ k ∉ U ++ ks
            · obtain ⟨k, rfl, hkn⟩ := hgo
              have hkR := hko k rfl
              obtain ⟨f, rfl⟩ : ∃ f, gk = f + 1 := ⟨gk - 1, by have := fuel_pos hnd hbd hkn hkR hfu; omega⟩
              rw [ch_more hkn] at hch
              have HND2 := Lib.hid (nodup_snoc hnd hkn)
              have HCH := Lib.hid hch
              have hkN : k < N := by rw [← HNN.out]; exact hkR
              obtain ⟨cf, ff⟩ := hI.flag hkN
              rw [decide_eq_false hkn] at cf
              obtain ⟨r, hr⟩ : ∃ r, R[k]? = some r := ⟨_, List.getElem?_eq_getElem hkR⟩
              obtain ⟨hrne, hrb⟩ := HRE.out r (List.mem_of_getElem? hr)
              obtain ⟨la, hla⟩ : ∃ la, r.getLast? = some la := by
                cases h : r.getLast? with
                | none => exact absurd (List.getLast?_eq_none_iff.1 h) hrne
                | some la => exact ⟨la, rfl⟩
              have hlan := hrb la (List.mem_of_getLast? hla)
              have HLA := Lib.hid hla
              have HNX := Lib.hid (nx_of (bf := bf) (mt := matF bf) hr hla)
              have HPM := Lib.hid (placesF_more (ks := ks) hr)
              have hre : (encR R)[k]? = some (encN r) := by unfold encR; rw [List.getElem?_map, hr]; rfl
              have HI1 := Lib.hid (hI.mark (k := k))
              have hgs := HG.out
              have hB5 : Below gu w2 (wr.setCell ⟨gu, k, none⟩ (.bool true)) := HI1.out.kept.lower HB.out (Nat.le_of_lt hI.hgu) (by simp)
              obtain ⟨gR, V, kk, eR, hgRb, cR0, fR0, hkk, _, hoR, hgR⟩ := (HL2.out.low (by rw [hgs]; exact hB5)).row (by rw [HQL.out, HNN.out]) hre
              subst eR
              have HB5 := Lib.hid hB5
              have HOR := Lib.hid hoR
              obtain ⟨m, hm⟩ : ∃ m, (encN r).length = m := ⟨_, rfl⟩
              have hmr : r.length = m := by rw [← hm]; simp [encN]
              rw [hm] at cR0 HOR hkk
              obtain ⟨pl, hpl⟩ : ∃ pl, (placesF R ks).length = pl := ⟨_, rfl⟩
              have hm1 : 0 < m := by rw [← hmr]; exact List.length_pos_iff.2 hrne
              obtain ⟨qq, hq⟩ : ∃ qq, pl + m = qq + 1 := ⟨pl + m - 1, by omega⟩
              have HQQ := Lib.hid hq
              have hplm : pl + m ≤ 100000 := by
                have h1 := places_len (R := R) (V := ks ++ [k]) (by
                  have h2 := HND2.out
                  rw [List.append_assoc] at h2
                  exact (List.nodup_append.1 h2).2.1) (fun x hx => by
                  rcases List.mem_append.1 hx with hx | hx
                  · exact HBD.out x (List.mem_append_right _ hx)
                  · rw [List.mem_singleton] at hx; rw [hx]; exact hkR)
                rw [HPM.out, List.length_append, hpl, hmr] at h1
                have := HRF.out
                omega
              have hkNi : (k : Int) < (N : Int) := by omega
              have hk0 : (0 : Int) ≤ (k : Int) := by omega
              have hk5 : (k : Int) ≤ 100000 := by omega
              have hlk : lastI (some k) = (k : Int) := rfl
              rw [hlk]
              have cb0 := hp_cell HI1.out.box (j := 0) rfl
              clear hI hfu hnd hbd hks hkn hrne hrb hla hr hre hch hko hB5 hoR hgs hm hlk
              go_upto_region 15 with fail
              obtain ⟨w5, hw5⟩ : ∃ w5, wr.setCell ⟨gu, k, none⟩ (.bool true) = w5 := ⟨_, rfl⟩
              rw [hw5] at HI1 HB5 HOR cb0 cR0 fR0 ⊢
              have HPL : Hid ((placesF R ks).length = pl) := Lib.hid hpl
              have hbase : wi.heap.size ≤ w5.heap.size := HI1.out.kept.size
              have HBS5 := Lib.hid hbase
              clear hbase hpl hw5 cf ff
              go_cut [] (fun wx => ∃ V6 c6, InAt wi wx gu bs N (U ++ ks ++ [k]) (placesF R (ks ++ [k])) (.slice V6 (qq + 1) c6))
              case first =>
                go_region_law (first
                  | (refine step_appR rfl _ _ _ rfl intSliceM (by decide) u pl _ rfl (by have := HI1.out.at_; rw [HPL.out] at this; exact this.drew) V m kk ((encN r).map (Value.int .i64)) rfl (Rd.of_own HOR.out.drew) (oneEnc r) (by omega) (by unfold maxLen; omega) HBS5.out _ rfl ?_; intro v6 w6 hown6 hg6 hat6; rw [HQQ.out] at hown6; obtain ⟨V6, c6, rfl, hc6⟩ := own_form hown6; have hap := (HI1.out.low (Below.refl _ _).drew).app (Q := r) hg6 (m := qq + 1) (by rw [HPL.out, hmr]; exact HQQ.out.symm) hown6; have cbx := hp_cell hap.2 (j := 0) rfl; have fbx := hp_froz hap.2 0)
                  | fail)
                all_goals (
                  go_wp2
                  go_meet
                  exact ⟨_, _, by rw [HPM.out]; exact hap.1⟩)
              case rest =>
              obtain ⟨V6, c6, hI2⟩ := hcut
              have HI2 := Lib.hid hI2
              have hB7 : Below gu w2 wc := hI2.kept.lower HB.out (Nat.le_of_lt hI2.hgu) (by simp)
              have cb7 := hp_cell hI2.box (j := 0) rfl
              have HB7 := Lib.hid hB7
              clear hI2 hB7 cb0 cR0 fR0 HI1 HOR HBS5 HB5
              have hat7 := HI2.out.at_
              have hq7 : (placesF R (ks ++ [k])).length = qq + 1 := by rw [HPM.out, List.length_append, HPL.out, hmr]; exact HQQ.out
              rw [hq7] at hat7
              obtain ⟨g7, c7, e7, _, hl7, hb7, hc7⟩ := own_at hat7 (by omega)
              injection e7 with e7a _ e7b
              subst e7a e7b
              have cl7 := hc7 qq (.int .i64 (la : Int)) (by rw [HPM.out]; exact enc_last HLA.out (by rw [HPL.out, hmr]; exact HQQ.out))
              have hBw : Below w.heap.size w wc := HB2.out.trans (HB7.out.mono (by have := HB2.out.size; have := HG.out; omega))
              obtain ⟨x, hx⟩ : ∃ x, bf[la]? = some x := ⟨_, List.getElem?_eq_getElem (by rw [HLB.out]; exact hlan)⟩
              obtain ⟨bd, rfl, _, hbcell⟩ := (HT.out.below hBw).at_ hlan
              have cx := hbcell _ (by rw [List.getElem?_map, hx]; rfl)
              have hxd : bf.getD la 0 = x := by rw [List.getD_eq_getElem?_getD, hx]; rfl
              obtain ⟨ob, hob⟩ : ∃ ob, opB x = ob := ⟨_, rfl⟩
              have HOP := Lib.hid (fun W => rfOpens_of x ob hob W)
              have HX := Lib.hid hx
              have HXD := Lib.hid hxd
              have HOB := Lib.hid hob
              have hlni : (la : Int) < (n : Int) := by omega
              have hla0 : (0 : Int) ≤ (la : Int) := by omega
              have hla5 : (la : Int) ≤ 100000 := by omega
              have hqq5 : (qq : Int) ≤ 100000 := by omega
              have hqq0 : (0 : Int) ≤ (qq : Int) := by omega
              clear hat7 hc7 hbcell hx hxd hob hBw
              cases ob with
              | false =>
                have HN1 : Hid (nxF R bf (matF bf) k = none) := Lib.hid (by rw [HNX.out, HXD.out, HOB.out]; simp)
                go_wp2_with fail
                refine (HOP.out _).mono ?_
                rintro e w8 ⟨rfl, rfl⟩
                go_wp2_with fail
                go_roundg f
                case rel => exact ⟨ks ++ [k], none, _, rfl, by rw [← List.append_assoc]; rw [HN1.out] at HCH; exact HCH.out, by have := HFU.out; simp only [List.length_append, List.length_cons, List.length_nil] at this ⊢; omega, by rw [← List.append_assoc]; exact HND2.out, fun x hx => by
                    rw [← List.append_assoc] at hx
                    rcases List.mem_append.1 hx with hx | hx
                    · exact HBD.out x hx
                    · rw [List.mem_singleton] at hx; rw [hx, HNN.out]; exact hkN, by simp, fun h => by simp at h, by rw [← List.append_assoc]; exact HI2.out⟩
                case measure => first | omega | simp
              | true =>
                obtain ⟨p, hp⟩ := mat_open HX.out HOB.out
                obtain ⟨md, rfl, _, hmcell⟩ := (HM2.out.below (by rw [HG.out]; exact HB7.out)).at_ hlan
                have cM2 := hmcell _ (by rw [List.getElem?_map, hp]; rfl)
                have hpd : (matF bf).getD la 0 = (p : Int) := by rw [List.getD_eq_getElem?_getD, hp]; rfl
                have HPD := Lib.hid hpd
                have hp0 : (0 : Int) ≤ (p : Int) := by omega
                clear hmcell hp hpd
                by_cases hpn : (p : Int) < (n : Int)
                · have HN1 : Hid (nxF R bf (matF bf) k = begF R p) := Lib.hid (by rw [HNX.out, HXD.out, HPD.out, HLB.out, if_pos ⟨HOB.out, hpn⟩]; rfl)
                  have HBG := Lib.hid (rqBegins_any w.heap.size cR _ Q R p wc (by have := HL2.out.low (w' := wc) (by rw [HG.out]; exact HB7.out); rw [HNN.out]; exact this) (fun r hr => (HRE.out r hr).1) (by rw [HNN.out]; omega))
                  rw [HNN.out] at HBG
                  go_wp2_with fail
                  refine (HOP.out _).mono ?_
                  rintro e w8 ⟨rfl, rfl⟩
                  go_wp2_with fail
                  refine HBG.out.mono ?_
                  rintro e w9 ⟨rfl, rfl⟩
                  go_wp2_with fail
                  go_roundg f
                  case rel => exact ⟨ks ++ [k], begF R p, _, rfl, by rw [← List.append_assoc]; rw [HN1.out] at HCH; exact HCH.out, by have := HFU.out; simp only [List.length_append, List.length_cons, List.length_nil] at this ⊢; omega, by rw [← List.append_assoc]; exact HND2.out, fun x hx => by
                      rw [← List.append_assoc] at hx
                      rcases List.mem_append.1 hx with hx | hx
                      · exact HBD.out x hx
                      · rw [List.mem_singleton] at hx; rw [hx, HNN.out]; exact hkN, fun j hj => (beg_lt hj).1, fun h => by simp at h, by rw [← List.append_assoc]; exact HI2.out⟩
                  case measure => first | omega | simp
                · have HN1 : Hid (nxF R bf (matF bf) k = none) := Lib.hid (by rw [HNX.out, HXD.out, HPD.out, HLB.out, if_neg (fun h => hpn h.2)])
                  go_wp2_with fail
                  refine (HOP.out _).mono ?_
                  rintro e w8 ⟨rfl, rfl⟩
                  go_wp2_with fail
                  go_roundg f
                  case rel => exact ⟨ks ++ [k], none, _, rfl, by rw [← List.append_assoc]; rw [HN1.out] at HCH; exact HCH.out, by have := HFU.out; simp only [List.length_append, List.length_cons, List.length_nil] at this ⊢; omega, by rw [← List.append_assoc]; exact HND2.out, fun x hx => by
                      rw [← List.append_assoc] at hx
                      rcases List.mem_append.1 hx with hx | hx
                      · exact HBD.out x hx
                      · rw [List.mem_singleton] at hx; rw [hx, HNN.out]; exact hkN, by simp, fun h => by simp at h, by rw [← List.append_assoc]; exact HI2.out⟩
                  case measure => first | omega | simp
            · have HFE := Lib.hid ((ch_stop hgo).symm.trans hch)
              have HGO := Lib.hid hgo
              cases ko with
              | none =>
                have hne : ks ≠ [] := fun e => by have := HKS.out e; cases this
                have HNE := Lib.hid hne
                have hln : lastI none = (-1) := rfl
                rw [hln]
                clear hI hfu hnd hbd hks hch hko hgo hne hln
                go_wp2_with fail
                go_meet
                exact ⟨ks, u, HNE.out, HFE.out.symm, HI.out⟩
              | some k =>
                have hku : k ∈ U ++ ks := Classical.not_not.1 fun hk => hgo ⟨k, rfl, hk⟩
                have hne : ks ≠ [] := fun e => by
                  have h1 := HKS.out e
                  obtain rfl := Option.some.inj h1
                  subst e
                  rw [List.append_nil] at hku
                  exact HIM.out hku
                have HNE := Lib.hid hne
                have hkR := hko k rfl
                have hkN : k < N := by rw [← HNN.out]; exact hkR
                obtain ⟨cf, ff⟩ := hI.flag hkN
                rw [decide_eq_true hku] at cf
                have hkNi : (k : Int) < (N : Int) := by omega
                have hk0 : (0 : Int) ≤ (k : Int) := by omega
                have hk5 : (k : Int) ≤ 100000 := by omega
                have hlk : lastI (some k) = (k : Int) := rfl
                rw [hlk]
                clear hI hfu hnd hbd hks hch hko hgo hne hku hlk
                go_wp2_with fail
                go_meet
                exact ⟨ks, u, HNE.out, HFE.out.symm, HI.out⟩
        case rest =>
        obtain ⟨ks, u, hne, hfn, hI⟩ := hcut
        have hS := HSS.out
        rw [if_neg HIM.out, hfn, List.drop_left] at hS
        have HS1 : Hid ((sqF R bf (matF bf) (i + 1)).1 = (sqF R bf (matF bf) i).1 ++ [ks]) := Lib.hid (by rw [hS])
        have HS2 : Hid ((sqF R bf (matF bf) (i + 1)).2 = U ++ ks) := Lib.hid (by rw [hS])
        have hbd : ∀ k ∈ ks, k < R.length := fun k hk => by
          have h5 := (sq_ok (R := R) (bf := bf) (mt := matF bf) (i + 1) (by omega)).1 k
          rw [hS] at h5
          exact h5 (List.mem_append_right _ hk)
        have hPn := places_ne hne hbd (fun r hr => (HRE.out r hr).1)
        have hPm : ∀ x ∈ placesF R ks, x < n := fun x hx => by
          obtain ⟨r, hr, hxr⟩ := places_mem hx
          exact (HRE.out r hr).2 x hxr
        obtain ⟨pq, hpq⟩ : ∃ pq, (placesF R ks).length = pq + 1 := ⟨(placesF R ks).length - 1, by have := List.length_pos_iff.2 hPn; omega⟩
        have hpl5 : pq + 1 ≤ 100000 := by
          rw [← hpq]
          have hnd : ks.Nodup := by
            have h5 := (sq_ok (R := R) (bf := bf) (mt := matF bf) (i + 1) (by omega)).2.1
            rw [hS] at h5
            exact (List.nodup_append.1 h5).2.1
          have := places_len (R := R) hnd hbd
          have := HRF.out
          omega
        have hat := hI.at_
        rw [hpq] at hat
        obtain ⟨gp, cp, e7, _, hlp, hbp, hcp⟩ := own_at hat (by omega)
        subst e7
        obtain ⟨fi, hfi⟩ : ∃ fi, (placesF R ks).headD 0 = fi := ⟨_, rfl⟩
        obtain ⟨la, hla⟩ : ∃ la, (placesF R ks).getLastD 0 = la := ⟨_, rfl⟩
        have cfi := hcp 0 _ (enc_head hPn)
        have cla := hcp pq _ (enc_tail hpq)
        rw [hfi] at cfi
        rw [hla] at cla
        have hfn' : fi < n := by rw [← hfi]; exact hPm _ (head_mem hPn)
        have hln' : la < n := by rw [← hla]; exact hPm _ (last_mem hPn)
        have HFI := Lib.hid hfi
        have HLA := Lib.hid hla
        have HRD : Hid (∀ W, Kept wi W [gu] → Below gu w2 W ∧ Rd W 1 A n (lv.map (Value.int .i64)) ∧ Rd W 1 B n (cl.map (Value.int .i64)) ∧ Rd W 1 C n (bf.map (Value.int .i64)) ∧ Rd W 1 M n ((matF bf).map (Value.int .i64))) := Lib.hid fun W hk => by
          have hb := hk.lower HB.out (Nat.le_of_lt hgub) (by simp)
          have hw := HB2.out.trans (hb.mono (by have := HB2.out.size; have := HG.out; omega))
          exact ⟨hb, HR.out.below hw, HS.out.below hw, HT.out.below hw, HM2.out.below (by rw [HG.out]; exact hb)⟩
        have HX0 := Lib.hid hI.bx
        have cb0 := hp_cell hI.box (j := 0) rfl
        have hpq0 : (0 : Int) ≤ (pq : Int) := by omega
        have hpq5 : (pq : Int) ≤ 100000 := by omega
        have hfi0 : (0 : Int) ≤ (fi : Int) := by omega
        have hfin : (fi : Int) < (n : Int) := by omega
        have hla0 : (0 : Int) ≤ (la : Int) := by omega
        have hlan : (la : Int) < (n : Int) := by omega
        have hn5 : (n : Int) ≤ 100000 := by omega
        have hadd : (⟨gp, 0, none⟩ : Addr).add 0 = ⟨gp, 0, none⟩ := rfl
        clear hS hbd hPn hPm hpq hat hcp hfi hla hne hfn hI hadd
        go_upto_region 20 with fail
        go_quiet (fail)
        have HX1 := Lib.hid (HX0.out.drewN nq)
        obtain ⟨w8, hw8⟩ : ∃ W, wc.drewN nq = W := ⟨_, rfl⟩
        rw [hw8] at HX1 ⊢
        clear hw8 cb0 cfi cla HX0
        obtain ⟨oz, hoz⟩ : ∃ oz, O.length = oz := ⟨_, rfl⟩
        rw [hoz] at HO ⊢
        have HOZ := Lib.hid hoz
        have hoz5 : oz ≤ 100000 := by
          have h5 := congrArg List.length HOE.out
          unfold seqsF at h5
          rw [List.length_map, List.length_map] at h5
          have := sq_len (R := runsG lv cl) (bf := bf) (mt := matF bf) i
          omega
        obtain ⟨lvf, hlvf⟩ : ∃ x, lv[fi]? = some x := ⟨_, List.getElem?_eq_getElem (by rw [HLL.out]; exact hfn')⟩
        obtain ⟨lvl, hlvl⟩ : ∃ x, lv[la]? = some x := ⟨_, List.getElem?_eq_getElem (by rw [HLL.out]; exact hln')⟩
        obtain ⟨x, hx⟩ : ∃ x, bf[la]? = some x := ⟨_, List.getElem?_eq_getElem (by rw [HLB.out]; exact hln')⟩
        have hAns := sqAns_of (cl := cl) (mt := matF bf) (level := level) HFI.out HLA.out (show lv.getD fi 0 = lvf by rw [List.getD_eq_getElem?_getD, hlvf]; rfl) (show lv.getD la 0 = lvl by rw [List.getD_eq_getElem?_getD, hlvl]; rfl) (show bf.getD la 0 = x by rw [List.getD_eq_getElem?_getD, hx]; rfl)
        obtain ⟨ad, rfl, _, hcell⟩ := (HRD.out _ HX1.out.kept).2.1.at_ hfn'
        have clv := hcell _ (by rw [List.getElem?_map, hlvf]; rfl)
        obtain ⟨AH, hAH⟩ : ∃ y, ahF lv cl level fi = y := ⟨_, rfl⟩
        obtain ⟨BH, hBH⟩ : ∃ y, bhF lv cl level (la + 1) = y := ⟨_, rfl⟩
        obtain ⟨SO, hSO⟩ : ∃ y, dirF lvf AH = y := ⟨_, rfl⟩
        obtain ⟨EO, hEO⟩ : ∃ y, dirF lvl BH = y := ⟨_, rfl⟩
        obtain ⟨EN, hEN⟩ : ∃ y, dirF lvl level = y := ⟨_, rfl⟩
        rw [hAH, hBH, hSO, hEO, hEN] at hAns
        have HANS := Lib.hid hAns
        have HAH := Lib.hid (fun W (hk : Kept wi W [gu]) => rqAhead_any (some ad) B n c d fi lv cl level W (HRD.out W hk).2.1 (HRD.out W hk).2.2.1 (Nat.le_of_lt hfn') hn)
        have HBH := Lib.hid (fun W (hk : Kept wi W [gu]) => rqBehind_any (some ad) B n c d la lv cl level W (HRD.out W hk).2.1 (HRD.out W hk).2.2.1 hln' hn)
        rw [hAH] at HAH
        rw [hBH] at HBH
        have HD1 := Lib.hid (fun W => rqDir_any lvf AH W)
        have HD2 := Lib.hid (fun W => rqDir_any lvl BH W)
        have HD3 := Lib.hid (fun W => rqDir_any lvl level W)
        rw [hSO] at HD1
        rw [hEO] at HD2
        rw [hEN] at HD3
        have HLVL := Lib.hid hlvl
        have HXX := Lib.hid hx
        have cb1 := hp_cell HX1.out.box (j := 1) rfl
        have fb1 := hp_froz HX1.out.box 1
        clear hcell hlvf hlvl hx hAns hAH hBH hSO hEO hEN hoz
        go_upto_region 22 with fail
        have HX2 := Lib.hid (HX1.out.put1 (x := lvf))
        obtain ⟨w9, hw9⟩ : ∃ W, w8.setCell ⟨bs, 1, none⟩ (.int .i64 lvf) = W := ⟨_, rfl⟩
        rw [hw9] at HX2 ⊢
        clear hw9 cb1 fb1 clv HX1
        have cb1 := hp_cell HX2.out.box (j := 1) rfl
        have cb2 := hp_cell HX2.out.box (j := 2) rfl
        have fb2 := hp_froz HX2.out.box 2
        go_cut [] (fun wx => BxAt wi wx gu bs N (U ++ ks) (placesF R ks) (.slice (some ⟨gp, 0, none⟩) (pq + 1) cp) lvf SO 0)
        case first =>
          go_region_law (first
            | (go_simp; go_at_call 31; refine (HAH.out _ (by first | exact HX2.out.kept | exact HX2.out.kept.drew)).mono ?_; rintro e w' ⟨rfl, rfl⟩)
            | (go_simp; go_at_call 30; refine (HD1.out _).mono ?_; rintro e w' ⟨rfl, rfl⟩)
            | fail)
          all_goals (
            go_wp2
            go_meet
            first | exact HX2.out.put2 | exact (HX2.out.low (Below.refl _ _).drew).put2)
        case rest =>
        have HX3 := Lib.hid hcut
        clear hcut cb1 cb2 fb2 HX2
        obtain ⟨wd, hwd⟩ : ∃ W, W = wc := ⟨_, rfl⟩
        subst hwd
        obtain ⟨ad2, e2, _, hcell2⟩ := (HRD.out _ HX3.out.kept).2.1.at_ hln'
        obtain rfl := Option.some.inj e2
        have clv2 := hcell2 _ (by rw [List.getElem?_map, HLVL.out]; rfl)
        have cb3 := hp_cell HX3.out.box (j := 3) rfl
        have fb3 := hp_froz HX3.out.box 3
        clear hcell2
        go_upto_region 23 with fail
        go_cut [] (fun wx => BxAt wi wx gu bs N (U ++ ks) (placesF R ks) (.slice (some ⟨gp, 0, none⟩) (pq + 1) cp) lvf SO EO)
        case first =>
          go_region_law (first
            | (go_simp; go_at_call 32; refine (HBH.out _ (by first | exact HX3.out.kept | exact HX3.out.kept.drew)).mono ?_; rintro e w' ⟨rfl, rfl⟩)
            | (go_simp; go_at_call 30; refine (HD2.out _).mono ?_; rintro e w' ⟨rfl, rfl⟩)
            | fail)
          all_goals (
            go_wp2
            go_meet
            first | exact HX3.out.put3 | exact (HX3.out.low (Below.refl _ _).drew).put3)
        case rest =>
        have HX4 := Lib.hid hcut
        clear hcut cb3 fb3 clv2 HX3 HBH HAH
        obtain ⟨we, hwe⟩ : ∃ W, W = wc := ⟨_, rfl⟩
        subst hwe
        obtain ⟨bd, rfl, _, hbcell⟩ := (HRD.out _ HX4.out.kept).2.2.2.1.at_ hln'
        have cx := hbcell _ (by rw [List.getElem?_map, HXX.out]; rfl)
        obtain ⟨md, rfl, _, hmcell⟩ := (HRD.out _ HX4.out.kept).2.2.2.2.at_ hln'
        obtain ⟨ob, hob⟩ : ∃ ob, opB x = ob := ⟨_, rfl⟩
        have HOB := Lib.hid hob
        have HOP := Lib.hid (fun W => rfOpens_of x ob hob W)
        have hcb0 := hp_cell HX4.out.box (j := 0) rfl
        have hcb1 := hp_cell HX4.out.box (j := 1) rfl
        have hcb2 := hp_cell HX4.out.box (j := 2) rfl
        have hcb3 := hp_cell HX4.out.box (j := 3) rfl
        have hfb3 := hp_froz HX4.out.box 3
        have HK4 := Lib.hid (HRD.out _ HX4.out.kept).1
        have HOW4 : Hid (we.ownsRow gu 44 4 (.slice VO oz cO) oz (O.flatMap cQ)) := Lib.hid (by
          have := (HO.out.kept HX4.out.kept HU.out (by decide) (by decide)).own
          rwa [HOZ.out] at this)
        clear hbcell hob
        have hlb : (bf.length : Int) = (n : Int) := by rw [HLB.out]
        cases ob with
        | false =>
          have HSA : Hid (sqAns lv cl bf (matF bf) level (placesF R ks) = ⟨placesF R ks, lvf, SO, EO⟩) := Lib.hid (by rw [HANS.out, HOB.out]; simp)
          clear hmcell
          go_wp2_with fail
          refine (HOP.out _).mono ?_
          rintro e w9 ⟨rfl, rfl⟩
          go_wp2_with (first
            | (at_builtin; go_loud (refine wpList_app rfl _ _ _ rfl seqSlice (by decide) (.slice VO oz cO) oz _ rfl (HOW4.out.alloc _) ⟨we.heap.size, 0, none⟩ 1 1 [.slice (some ⟨gp, 0, none⟩) (pq + 1) cp, .int .i64 lvf, .int .i64 SO, .int .i64 EO] rfl rfl (cells_new we [_, _, _, _] _) (oneSq _ _ _ _ _ _) (by omega) (by unfold maxLen; omega) (by have := HK4.out.size; have := HG.out; simp; omega) ?_; intro v1 w1x hown1 hg1 hat1))
            | fail)
          rw [← HOZ.out] at hown1
          have hout := OsAt.out (e := ⟨placesF R ks, lvf, SO, EO⟩) HX4.out rfl HO.out ⟨_, HU.out⟩ hg1 hown1
          have hbf : Below gu w2 w1x := below_app (HK4.out.trans ((below_new we _).mono (by have := HK4.out.size; have := HG.out; omega))) hg1 (HOW4.out.alloc _) (by have := HK4.out.size; have := HG.out; simp; omega)
          have HOUT := Lib.hid hout
          have HBF := Lib.hid hbf
          clear hout hbf hown1 hg1 hat1
          go_roundw
          case rel => exact ⟨i + 1, O ++ [⟨_, ⟨placesF R ks, lvf, SO, EO⟩⟩], by omega, by go_num, by rw [HS2.out]; exact HOUT.out.2, HOUT.out.1, by rw [List.map_append, HOE.out]; unfold seqsF; rw [HRR.out, HS1.out, List.map_append]; exact congrArg (fun e => _ ++ [e]) HSA.out.symm, HBF.out⟩
          case measure => simp [intOf]; omega
        | true =>
          obtain ⟨p, hp⟩ := mat_open HXX.out HOB.out
          have cM2 := hmcell _ (by rw [List.getElem?_map, hp]; rfl)
          have hpd : (matF bf).getD la 0 = (p : Int) := by rw [List.getD_eq_getElem?_getD, hp]; rfl
          have HPD := Lib.hid hpd
          clear hmcell hp hpd
          by_cases hpn : p = n
          · subst hpn
            have HSA : Hid (sqAns lv cl bf (matF bf) level (placesF R ks) = ⟨placesF R ks, lvf, SO, EN⟩) := Lib.hid (by rw [HANS.out, HPD.out, hlb, if_pos ⟨HOB.out, rfl⟩])
            obtain ⟨ad3, e3, _, hcell3⟩ := (HRD.out _ HX4.out.kept).2.1.at_ hln'
            obtain rfl := Option.some.inj e3
            have clv3 := hcell3 _ (by rw [List.getElem?_map, HLVL.out]; rfl)
            clear hcell3
            go_wp2_with fail
            refine (HOP.out _).mono ?_
            rintro e w9 ⟨rfl, rfl⟩
            go_wp2_with fail
            refine (HD3.out _).mono ?_
            rintro e w9 ⟨rfl, rfl⟩
            have HX5 := Lib.hid (HX4.out.put3 (x := EN))
            have HOW5 : Hid ((we.setCell ⟨bs, 3, none⟩ (.int .i64 EN)).ownsRow gu 44 4 (.slice VO oz cO) oz (O.flatMap cQ)) := Lib.hid (by
              have := (HO.out.kept HX5.out.kept HU.out (by decide) (by decide)).own
              rwa [HOZ.out] at this)
            have HK5 := Lib.hid (HRD.out _ HX5.out.kept).1
            go_upto_region 26 with fail
            obtain ⟨wf, hwf⟩ : ∃ W, we.setCell ⟨bs, 3, none⟩ (.int .i64 EN) = W := ⟨_, rfl⟩
            rw [hwf] at HX5 HOW5 HK5 ⊢
            have hd0 := hp_cell HX5.out.box (j := 0) rfl
            have hd1 := hp_cell HX5.out.box (j := 1) rfl
            have hd2 := hp_cell HX5.out.box (j := 2) rfl
            have hd3 := hp_cell HX5.out.box (j := 3) rfl
            go_wp2_with (first
              | (at_builtin; go_loud (refine wpList_app rfl _ _ _ rfl seqSlice (by decide) (.slice VO oz cO) oz _ rfl (HOW5.out.alloc _) ⟨wf.heap.size, 0, none⟩ 1 1 [.slice (some ⟨gp, 0, none⟩) (pq + 1) cp, .int .i64 lvf, .int .i64 SO, .int .i64 EN] rfl rfl (cells_new wf [_, _, _, _] _) (oneSq _ _ _ _ _ _) (by omega) (by unfold maxLen; omega) (by have := HK5.out.size; have := HG.out; simp; omega) ?_; intro v1 w1x hown1 hg1 hat1))
              | fail)
            rw [← HOZ.out] at hown1
            have hout := OsAt.out (e := ⟨placesF R ks, lvf, SO, EN⟩) HX5.out rfl HO.out ⟨_, HU.out⟩ hg1 hown1
            have hbf : Below gu w2 w1x := below_app (HK5.out.trans ((below_new wf _).mono (by have := HK5.out.size; have := HG.out; omega))) hg1 (HOW5.out.alloc _) (by have := HK5.out.size; have := HG.out; simp; omega)
            have HOUT := Lib.hid hout
            have HBF := Lib.hid hbf
            clear hout hbf hown1 hg1 hat1
            go_roundw
            case rel => exact ⟨i + 1, O ++ [⟨_, ⟨placesF R ks, lvf, SO, EN⟩⟩], by omega, by go_num, by rw [HS2.out]; exact HOUT.out.2, HOUT.out.1, by rw [List.map_append, HOE.out]; unfold seqsF; rw [HRR.out, HS1.out, List.map_append]; exact congrArg (fun e => _ ++ [e]) HSA.out.symm, HBF.out⟩
            case measure => simp [intOf]; omega
          · have hpi : ¬ (p : Int) = (n : Int) := by omega
            have gpn : ((p : Int) == (n : Int)) = false := by simp [hpi]
            have HSA : Hid (sqAns lv cl bf (matF bf) level (placesF R ks) = ⟨placesF R ks, lvf, SO, EO⟩) := Lib.hid (by rw [HANS.out, HPD.out, hlb, if_neg (fun h => hpi h.2)])
            go_wp2_with fail
            refine (HOP.out _).mono ?_
            rintro e w9 ⟨rfl, rfl⟩
            go_wp2_with (first
              | (at_builtin; go_loud (refine wpList_app rfl _ _ _ rfl seqSlice (by decide) (.slice VO oz cO) oz _ rfl (HOW4.out.alloc _) ⟨we.heap.size, 0, none⟩ 1 1 [.slice (some ⟨gp, 0, none⟩) (pq + 1) cp, .int .i64 lvf, .int .i64 SO, .int .i64 EO] rfl rfl (cells_new we [_, _, _, _] _) (oneSq _ _ _ _ _ _) (by omega) (by unfold maxLen; omega) (by have := HK4.out.size; have := HG.out; simp; omega) ?_; intro v1 w1x hown1 hg1 hat1))
              | fail)
            rw [← HOZ.out] at hown1
            have hout := OsAt.out (e := ⟨placesF R ks, lvf, SO, EO⟩) HX4.out rfl HO.out ⟨_, HU.out⟩ hg1 hown1
            have hbf : Below gu w2 w1x := below_app (HK4.out.trans ((below_new we _).mono (by have := HK4.out.size; have := HG.out; omega))) hg1 (HOW4.out.alloc _) (by have := HK4.out.size; have := HG.out; simp; omega)
            have HOUT := Lib.hid hout
            have HBF := Lib.hid hbf
            clear hout hbf hown1 hg1 hat1
            go_roundw
            case rel => exact ⟨i + 1, O ++ [⟨_, ⟨placesF R ks, lvf, SO, EO⟩⟩], by omega, by go_num, by rw [HS2.out]; exact HOUT.out.2, HOUT.out.1, by rw [List.map_append, HOE.out]; unfold seqsF; rw [HRR.out, HS1.out, List.map_append]; exact congrArg (fun e => _ ++ [e]) HSA.out.symm, HBF.out⟩
            case measure => simp [intOf]; omega
    · have hsz : w.heap.size ≤ gu := by have := HB2.out.size; have := HG.out; omega
      have HFIN : Hid (OsAt wr w.heap.size (.slice VO O.length cO) O) := Lib.hid ⟨own_base HO.out.own hsz, fun o ho => own_base (HO.out.rows o ho) hsz⟩
      have HBW : Hid (Below w.heap.size w wr) := Lib.hid (HB2.out.trans (HB.out.mono hsz))
      have HOF : Hid (O.map (fun o => o.e) = seqsF lv cl bf level R.length) := Lib.hid (by rw [HNN.out, show N = i by omega]; exact HOE.out)
      have hlt' : ¬ (i : Int) < (N : Int) := by omega
      clear hu hO hOe hB hsq hsqs hUe hlt
      go_wp2_with fail
      go_ret
      exact ⟨⟨_, rfl, O, HFIN.out, HOF.out⟩, HBW.out⟩
end Go.Proofs.Ytnmpoipakmjbpaa
/- The reference's Sequences, at any counts. -/
namespace Go.Proofs.Ytnmpoipakmjbpaa
open Go.RowKit

/-- All sequences; none where the counts are unlike. -/
def seqsG (lv cl bf : List Int) (level : Int) : List SqE := if lv.length = cl.length ∧ bf.length = cl.length then seqsF lv cl bf level (runsG lv cl).length else []
set_option maxRecDepth 100000 in
set_option maxHeartbeats 4000000 in
theorem rqSeqs_any (A B C : Option Addr) (n c m d k q : Nat) (lv cl bf : List Int) (level : Int) (w : World) (hr : Rd w 1 A n (lv.map (Value.int .i64))) (hs : Rd w 1 B m (cl.map (Value.int .i64))) (ht : Rd w 1 C k (bf.map (Value.int .i64))) (hn : n ≤ 100000) :
    Calls Try.prog 16 #[.slice A n c, .slice B m d, .slice C k q, .int .i64 level] w fun e w' => (∃ v O, e = .returned v ∧ OsAt w' w.heap.size v O ∧ O.map (fun o => o.e) = seqsG lv cl bf level) ∧ Below w.heap.size w w' := by
  have hll : lv.length = n := by simpa using hr.len1
  have hlc : cl.length = m := by simpa using hs.len1
  have hlb : bf.length = k := by simpa using ht.len1
  by_cases h : n = m ∧ k = m
  · obtain ⟨rfl, rfl⟩ := h
    unfold seqsG
    rw [if_pos ⟨by omega, by omega⟩]
    exact rqSeqs_same A B C k c d q lv cl bf level w hr hs ht hn
  · unfold seqsG
    rw [if_neg (fun h' => h ⟨by omega, by omega⟩)]
    clear hll hlc hlb hr hs ht
    by_cases h1 : n = m
    · subst h1
      have h2 : ¬ k = n := fun e => h ⟨rfl, e⟩
      have h3 : ¬ (k : Int) = (n : Int) := by omega
      have g3 : ((k : Int) != (n : Int)) = true := by simp [h3]
      clear h
      go_enter Try.func16, Try.ntmps16
      go_wp2_with fail
      go_ret
      exact ⟨⟨_, [], rfl, OsAt.nil_ _ _, rfl⟩, Below.refl _ _⟩
    · have h3 : ¬ (n : Int) = (m : Int) := by omega
      have g3 : ((n : Int) != (m : Int)) = true := by simp [h3]
      clear h
      go_enter Try.func16, Try.ntmps16
      go_wp2_with fail
      go_ret
      exact ⟨⟨_, [], rfl, OsAt.nil_ _ _, rfl⟩, Below.refl _ _⟩
end Go.Proofs.Ytnmpoipakmjbpaa
