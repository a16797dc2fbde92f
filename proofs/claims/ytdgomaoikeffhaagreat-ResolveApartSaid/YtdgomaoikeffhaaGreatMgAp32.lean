/- Texts of one claim, one behind the other. -/
import Derived.Deep.RegionHeld3
import Derived.Deep.RegionLaw
import Derived.Test.YtdgomaoikeffhaaGreatMgAp11
import Derived.Test.YtdgomaoikeffhaaGreatMgAp23
import Derived.Test.YtdgomaoikeffhaaGreatMgAp29
import Derived.Test.YtdgomaoikeffhaaGreatMgAp30
import Derived.Test.YtdgomaoikeffhaaGreatMgAp31
/- neutral's Levels at work: levels, classes, sequences. -/
namespace Go.Proofs.YtdgomaoikeffhaaGreat
open Go.RowKit

/-- Levels at work. -/
structure LvAt (w0 w : World) (ga gb n m : Nat) (A a : Option Addr) (lv cl codes : List Int) (O : List SqO) : Prop where
  lev : w.heap[ga]? = some (.cells (intsZ lv).toArray 3 (0, 0))
  cla : w.heap[gb]? = some (.cells (intsZ cl).toArray 3 (0, 0))
  cod : Rd w 1 A n (codes.map (Value.int .i64))
  ro : RO w a m O
  low : Below w0.heap.size w0 w
/-- Where all that lies. -/
structure LvOk (w0 : World) (ga gb n m B : Nat) (A a : Option Addr) (O : List SqO) : Prop where
  ne : ga ≠ gb
  la : w0.heap.size ≤ ga
  ab : 0 < n → ∀ ad, A = some ad → ad.block < w0.heap.size
  rl : RoLow B a m O
  gl : ga < B
section
variable {w0 w w' : World} {ga gb n m B : Nat} {A a : Option Addr} {lv cl codes : List Int} {O : List SqO}
theorem LvAt.lowr (h : LvAt w0 w ga gb n m A a lv cl codes O) (hb : Below w.heap.size w w') : LvAt w0 w' ga gb n m A a lv cl codes O :=
  ⟨(hb.block _ (hp_lt h.lev)).trans h.lev, (hb.block _ (hp_lt h.cla)).trans h.cla, h.cod.below hb, h.ro.low hb, h.low.trans (hb.mono h.low.size)⟩
theorem LvAt.put (h : LvAt w0 w ga gb n m A a lv cl codes O) (ho : LvOk w0 ga gb n m B A a O) (i : Nat) (x : Int) : LvAt w0 (w.setCell ⟨ga, i, none⟩ (.int .i64 x)) ga gb n m A a (lv.set i x) cl codes O := by
  have hB : Below w0.heap.size w (w.setCell ⟨ga, i, none⟩ (.int .i64 x)) := (Below.refl _ _).setCell (p := ⟨ga, i, none⟩) ho.la _
  refine ⟨hp_row h.lev i x, (hp_far (Ne.symm ho.ne) _ _).trans h.cla, h.cod.belowS ho.ab hB, ⟨h.ro.rd.farSet (fun h0 ad e => by have := ho.rl.top h0 ad e; have := ho.gl; omega), fun o hoo => ?_⟩, h.low.setCell (p := ⟨ga, i, none⟩) ho.la _⟩
  obtain ⟨b, k, e, hr⟩ := h.ro.rows o hoo
  refine ⟨b, k, e, hr.farSet (fun h0 ad e2 => ?_)⟩
  subst e2
  have := ho.rl.rows o hoo ad _ _ e
  have := ho.gl
  omega
end
theorem res_is (codes cl : List Int) (e : SqE) : resV e.lev e.sos e.eos (atF codes e.at_) (atF cl e.at_) = resF codes cl e := rfl
theorem dir_in (a b : Int) : dirF a b = 0 ∨ dirF a b = 1 := by unfold dirF; split <;> simp
theorem seqsG_sos {lv cl bf : List Int} {level : Int} {e : SqE} (h : e ∈ seqsG lv cl bf level) : carF e.sos = e.sos := by
  unfold seqsG at h
  split at h
  · unfold seqsF at h
    obtain ⟨ks, _, rfl⟩ := List.mem_map.1 h
    have := dir_in (lv.getD ((placesF (runsG lv cl) ks).headD 0) 0) (ahF lv cl level ((placesF (runsG lv cl) ks).headD 0))
    show carF (dirF _ _) = dirF _ _
    unfold carF
    rw [if_neg (by omega)]
  · cases h
/-- One place more of a sequence. -/
theorem setsF_snoc (W : List (Nat × Int)) (p : Nat × Int) (o : List Int) : setsF (W ++ [p]) o = (setsF W o).set p.1 p.2 := by rw [setsF_app]; rfl
theorem putE_at {codes cl : List Int} {e : SqE} {k i : Nat} {c : Int} (h1 : e.at_[k]? = some i) (h2 : (resF codes cl e)[k]? = some c) : (putE codes cl e)[k]? = some (i, impF c e.lev) := by
  unfold putE
  rw [List.getElem?_zip_eq_some]
  exact ⟨h1, by rw [List.getElem?_map, h2]; rfl⟩
theorem putE_len (codes cl : List Int) (e : SqE) : (putE codes cl e).length = e.at_.length := by
  unfold putE
  rw [List.length_zip, List.length_map, resF_len, Nat.min_self]
theorem sets_step {codes cl : List Int} {e : SqE} {k i : Nat} {c : Int} {o : List Int} (h1 : e.at_[k]? = some i) (h2 : (resF codes cl e)[k]? = some c) : setsF ((putE codes cl e).take (k + 1)) o = (setsF ((putE codes cl e).take k) o).set i (impF c e.lev) := by
  rw [List.take_add_one, putE_at h1 h2, Option.toList_some, setsF_snoc]
theorem putAll_step {codes cl : List Int} {L : List SqE} {k : Nat} {e : SqE} {o : List Int} (h : L[k]? = some e) : setsF (putAll codes cl (L.take (k + 1))) o = setsF (putE codes cl e) (setsF (putAll codes cl (L.take k)) o) := by
  unfold putAll
  rw [List.take_add_one, h, Option.toList_some, List.flatMap_append, setsF_app]
  simp
end Go.Proofs.YtdgomaoikeffhaaGreat
/- neutral's Levels, walked. -/
namespace Go.Proofs.YtdgomaoikeffhaaGreat
open Go.RowKit

theorem level_in (xs : List Int) (d : Int) : 0 ≤ levelF xs d ∧ levelF xs d ≤ 1 := by
  have := fst_val xs 0
  unfold levelF
  repeat' split
  all_goals omega
/-- The level ahead of place k, of what has been filled. -/
def prvF (p : Int) (L : List Int) (k : Nat) : Int := if k = 0 then p else L.getD (k - 1) 0
theorem fillS_step : ∀ {p : Int} {cl out : List Int} {k : Nat} {c o : Int}, cl[k]? = some c → out[k]? = some o → (fillS p cl out)[k]? = some (if leftC c = true then prvF p (fillS p cl out) k else o)
  | p, [], out, k, c, o, h, _ => by simp at h
  | p, _ :: _, [], k, c, o, _, h => by simp at h
  | p, c' :: cl, o' :: out, 0, c, o, h1, h2 => by
    obtain rfl := Option.some.inj h1
    obtain rfl := Option.some.inj h2
    rw [fillS]
    simp [prvF]
  | p, c' :: cl, o' :: out, k + 1, c, o, h1, h2 => by
    rw [fillS, List.getElem?_cons_succ, fillS_step (by simpa using h1) (by simpa using h2)]
    have e : prvF (if leftC c' = true then p else o') (fillS (if leftC c' = true then p else o') cl out) k = prvF p ((if leftC c' = true then p else o') :: fillS (if leftC c' = true then p else o') cl out) (k + 1) := by
      unfold prvF
      cases k with
      | zero => simp
      | succ k => simp
    rw [e]
theorem fill_same : ∀ {p : Int} {cl cl' out : List Int}, cl.length = cl'.length → (∀ i, i < cl.length → leftC (cl.getD i 0) = leftC (cl'.getD i 0)) → fillS p cl out = fillS p cl' out
  | p, [], [], out, _, _ => rfl
  | p, c :: cl, c' :: cl', [], _, _ => by simp [fillS]
  | p, c :: cl, c' :: cl', o :: out, hl, h => by
    have h0 := h 0 (by simp)
    simp only [List.getD_cons_zero] at h0
    rw [fillS, fillS, h0, fill_same (by simpa using hl) (fun i hi => by
      have := h (i + 1) (by simpa using hi)
      simpa using this)]
  | p, [], c' :: cl', out, hl, _ => by simp at hl
  | p, c :: cl, [], out, hl, _ => by simp at hl
theorem cl_left_same (xs : List Int) (base : Int) {i : Nat} (hi : i < xs.length) : leftC (xs.getD i 0) = leftC ((clL xs base xs.length).getD i 0) := by
  cases h : leftC (xs.getD i 0) with
  | false => exact (clL_left xs base hi h).symm
  | true =>
    have e : (clL xs base xs.length).getD i 0 = (exA xs base i).2 := by
      unfold clL
      rw [List.getD_eq_getElem?_getD, List.getElem?_map, List.getElem?_range hi]
      rfl
    rw [e]
    unfold exA outX
    split
    · exact h.symm
    · first
        | rfl
        | (rw [h]; rfl)
theorem neu_fill (codes xs : List Int) (base : Int) : neuL codes xs base = fillS base (clL xs base xs.length) (setsF (putAll codes (clL xs base xs.length) (seqsG (lvL xs base xs.length) (clL xs base xs.length) xs base)) (lvL xs base xs.length)) := by
  unfold neuL
  exact fill_same (by rw [clL_len]) (fun i hi => cl_left_same xs base hi)
set_option maxRecDepth 100000 in
set_option maxHeartbeats 4000000 in
theorem nuLevelsG_any (A B : Option Addr) (n c m : Nat) (codes xs : List Int) (d : Int) (w : World) (hr : Rd w 1 A n (codes.map (Value.int .i64))) (hs : Rd w 1 B n (xs.map (Value.int .i64))) (hnm : n ≤ m) (hn : n ≤ 1000) :
    Calls Tryz.prog 13 #[.slice A n c, .slice B n m, .int .i64 d] w fun e w' => (∃ ga, e = .returned (.tuple #[.int .i64 (levelF xs d), .slice (some ⟨ga, 0, none⟩) n n]) ∧ Rd w' 1 (some ⟨ga, 0, none⟩) n ((neuL codes xs (levelF xs d)).map (Value.int .i64)) ∧ w.heap.size ≤ ga) ∧ Below w.heap.size w w' := by
  have hcl : codes.length = n := by simpa using hr.len1
  have hxl : xs.length = n := by simpa using hs.len1
  obtain ⟨base, hbase⟩ : ∃ base, levelF xs d = base := ⟨_, rfl⟩
  have hbi := level_in xs d
  rw [hbase] at hbi
  have hbb : baseL base = base := by unfold baseL; omega
  have HPL := Lib.hid (prLevel_any B n m xs d w hs (by omega) hnm)
  rw [hbase] at HPL
  have HEX := Lib.hid (fun W (hB : Below w.heap.size w W) => exLevelsT_any B n m xs base W (hs.below hB) (by omega) hnm)
  rw [hbb] at HEX
  have hneu := neu_fill codes xs base
  rw [hxl] at hneu
  have hiso := fun la => iso_level xs base la
  rw [hxl] at hiso
  obtain ⟨lv, hlv⟩ : ∃ lv, lvL xs base n = lv := ⟨_, rfl⟩
  obtain ⟨cl, hclv⟩ : ∃ cl, clL xs base n = cl := ⟨_, rfl⟩
  have hlvl : lv.length = n := by rw [← hlv, lvL_len]
  have hcll : cl.length = n := by rw [← hclv, clL_len]
  have hlvi : ∀ i, i < n → 0 ≤ lv.getD i 0 ∧ lv.getD i 0 ≤ 1000 := fun i hi => by
    have h1 := ex_in (xs := xs) hbi i
    rw [← hlv, List.getD_eq_getElem?_getD, lvL_get hi]
    show 0 ≤ (exA xs base i).1 ∧ (exA xs base i).1 ≤ 1000
    omega
  rw [hlv, hclv] at HEX
  rw [hlv, hclv] at hneu
  rw [hlv] at hiso
  obtain ⟨L, hL⟩ : ∃ L, seqsG lv cl xs base = L := ⟨_, rfl⟩
  have HLE := Lib.hid hL
  have HLvl := Lib.hid (fun e (he : e ∈ L) => seq_level (n := n) hlvl hcll hxl (fun la h1 h2 => hiso la h1 (by rw [← hxl]; exact h2)) (show e ∈ seqsG lv cl xs base by rw [hL]; exact he))
  have HMANY := Lib.hid (show L.length ≤ 1000 by have := seqsG_many (lv := lv) (cl := cl) (bf := xs) (level := base); rw [hL] at this; omega)
  have HLONG := Lib.hid (fun e (he : e ∈ L) => (show e.at_.length ≤ 1000 by have := seqsG_len (show e ∈ seqsG lv cl xs base by rw [hL]; exact he); omega))
  have HSOS := Lib.hid (fun e (he : e ∈ L) => seqsG_sos (show e ∈ seqsG lv cl xs base by rw [hL]; exact he))
  rw [hL] at hneu
  have HNEU := Lib.hid hneu
  have HLVI := Lib.hid hlvi
  have HLVL := Lib.hid hlvl
  have HCLL := Lib.hid hcll
  have HCL := Lib.hid hcl
  have HR := Lib.hid hr
  have HS := Lib.hid hs
  have HBASE := Lib.hid hbase
  have HAB := Lib.hid (show 0 < n → ∀ ad, A = some ad → ad.block < w.heap.size from fun h0 ad e => by
    obtain ⟨ad', e', hb, _⟩ := hr.2 h0
    rw [e] at e'
    obtain rfl := Option.some.inj e'
    exact hb)
  rw [hbase]
  clear hr hs hcl hxl hbase hbi hbb hneu hiso hlv hclv hlvl hcll hlvi hL
  go_enter Tryz.func13, Tryz.ntmps13
  go_wp2_with (first
    | (go_at_call 23; with_reducible refine HPL.out.mono ?_; rintro e w1 ⟨rfl, hb1⟩; have HB1 := Lib.hid hb1; clear hb1)
    | (go_at_call 24; with_reducible refine (HEX.out w1 HB1.out).mono ?_; rintro e w2 ⟨⟨ga, gb, rfl, hT⟩, hb2⟩; have HT := Lib.hid hT; have HB2 := Lib.hid (below_self HB1.out hb2); have HB12 := Lib.hid hb2; clear hT hb2)
    | fail)
  refine (sqSeqs_any (some ⟨ga, 0, none⟩) (some ⟨gb, 0, none⟩) B n n n n n m lv cl xs base w2 (rd_row HT.out.a HLVL.out) (rd_row HT.out.b HCLL.out) (HS.out.below HB2.out) (by omega) (by omega)).mono ?_
  rintro e w4 ⟨⟨a4, m4, k4, O4, rfl, hR4, hE4, hRL⟩, hb4⟩
  rw [HLE.out] at hE4
  have HE4 := Lib.hid hE4
  have hml : O4.length = m4 := hR4.len
  have HML := Lib.hid hml
  have hm4 : m4 ≤ 1000 := by
    have := congrArg List.length hE4
    rw [List.length_map, hml] at this
    have := HMANY.out
    omega
  have HOK : Hid (LvOk w ga gb n m4 w2.heap.size A a4 O4) := Lib.hid ⟨HT.out.ne, Nat.le_trans HB1.out.size HT.out.la, HAB.out, hRL, hp_lt HT.out.a⟩
  have HGB := Lib.hid (show gb < w2.heap.size from hp_lt HT.out.b)
  have HST : Hid (LvAt w w4 ga gb n m4 A a4 (setsF (putAll codes cl (L.take 0)) lv) cl codes O4) := Lib.hid
    ⟨(hb4.block _ (hp_lt HT.out.a)).trans HT.out.a, (hb4.block _ (hp_lt HT.out.b)).trans HT.out.b, (HR.out.below HB2.out).below hb4, hR4, HB2.out.trans (hb4.mono HB2.out.size)⟩
  clear hR4 hE4 hRL hb4 hml
  go_wp2_with fail
  go_loopw [39] (fun i wr => ∃ j : Nat, j ≤ m4 ∧ i = .int .i64 (j : Int) ∧ LvAt w wr ga gb n m4 A a4 (setsF (putAll codes cl (L.take j)) lv) cl codes O4) (fun i _ => m4 - (intOf i).toNat)
  case atStart => exact ⟨0, Nat.zero_le _, rfl, HST.out⟩
  case round =>
    clear HST
    obtain ⟨j, hj, rfl, hO⟩ := hrel
    by_cases hlt : j < m4
    · obtain ⟨o, ho⟩ : ∃ o, O4[j]? = some o := ⟨_, List.getElem?_eq_getElem (by rw [HML.out]; exact hlt)⟩
      obtain ⟨ad, rfl, y0, y1, y2, y3⟩ := hO.ro.cell ho
      obtain ⟨av, kv, hv, hrv⟩ := hO.ro.rows o (List.mem_of_getElem? ho)
      have hLj : L[j]? = some o.e := by rw [← HE4.out, List.getElem?_map, ho]; rfl
      have hmem := List.mem_of_getElem? hLj
      have HLv1 := Lib.hid (HLvl.out o.e hmem)
      have HSO1 := Lib.hid (HSOS.out o.e hmem)
      have hPl := HLONG.out o.e hmem
      have HSTEP := Lib.hid (putAll_step (codes := codes) (cl := cl) (o := lv) hLj)
      have HRV := Lib.hid hrv
      have HAV := Lib.hid (fun (h0 : 0 < o.e.at_.length) b (e : av = some b) => show w2.heap.size ≤ b.block from HOK.out.rl.rows o (List.mem_of_getElem? ho) b _ _ (by rw [hv, e]))
      rw [hv] at y0
      obtain ⟨e, he⟩ : ∃ e, o.e = e := ⟨_, rfl⟩
      rw [he] at y0 y1 y2 y3 HLv1 HSO1 hPl HSTEP HRV HAV
      obtain ⟨p, hp⟩ : ∃ p, e.at_.length = p := ⟨_, rfl⟩
      rw [hp] at y0 hPl HRV HAV
      have HP := Lib.hid hp
      obtain ⟨lev, hlev⟩ : ∃ lev, e.lev = lev := ⟨_, rfl⟩
      obtain ⟨so, hso⟩ : ∃ so, e.sos = so := ⟨_, rfl⟩
      obtain ⟨eo, heo⟩ : ∃ eo, e.eos = eo := ⟨_, rfl⟩
      have HRES := Lib.hid (res_is codes cl e)
      rw [hlev] at y1 HLv1 HRES
      rw [hso] at y2 HSO1 HRES
      rw [heo] at y3 HRES
      have HLEV := Lib.hid hlev
      have HO := Lib.hid hO
      have hj0 : (0 : Int) ≤ (j : Int) := by omega
      have hjm : (j : Int) < (m4 : Int) := by omega
      have hbx := heap_alloc_new wr (.cells #[.slice av p kv, .int .i64 lev, .int .i64 so, .int .i64 eo] 61)
      have hO2 := hO.lowr (below_new wr (.cells #[.slice av p kv, .int .i64 lev, .int .i64 so, .int .i64 eo] 61))
      have hgl := hp_lt hO.lev
      clear ho hv hrv hLj hmem he hp hlev hso heo hO
      go_wp2_with fail
      have hR2 := (HRV.out.alloc (.cells #[.slice av p kv, .int .i64 lev, .int .i64 so, .int .i64 eo] 61))
      have hrs : wr.heap.size < (wr.alloc (.cells #[.slice av p kv, .int .i64 lev, .int .i64 so, .int .i64 eo] 61)).heap.size := by simp
      obtain ⟨W, hW⟩ : ∃ W, wr.alloc (.cells #[.slice av p kv, .int .i64 lev, .int .i64 so, .int .i64 eo] 61) = W := ⟨_, rfl⟩
      obtain ⟨bx, hbe⟩ : ∃ bx, wr.heap.size = bx := ⟨_, rfl⟩
      rw [hW] at hbx hO2 hR2 hrs
      rw [hbe] at hbx hgl hrs
      rw [hbe, hW]
      have HO2 := Lib.hid hO2
      have HR2 := Lib.hid hR2
      have HBX := Lib.hid hbx
      have z0 : W.cell? ⟨bx, 0, none⟩ = some (.slice av p kv) := hp_cell (j := 0) hbx rfl
      have z1 : W.cell? ⟨bx, 1, none⟩ = some (.int .i64 lev) := hp_cell (j := 1) hbx rfl
      have z2 : W.cell? ⟨bx, 2, none⟩ = some (.int .i64 so) := hp_cell (j := 2) hbx rfl
      have z3 : W.cell? ⟨bx, 3, none⟩ = some (.int .i64 eo) := hp_cell (j := 3) hbx rfl
      have HPN := Lib.hid (show ∀ i ∈ e.at_, i < n from fun i hi => (HLv1.out i hi).1)
      have HPA := Lib.hid (fun W' (hB : Below W.heap.size W W') => nuPick_any A av n c p kv codes e.at_ W' (HO2.out.cod.below hB) (HR2.out.below hB) HPN.out (by omega) (by omega))
      have HPB := Lib.hid (fun W' (hB : Below W.heap.size W W') => nuPick_any (some ⟨gb, 0, none⟩) av n n p kv cl e.at_ W' ((rd_row HO2.out.cla HCLL.out).below hB) (HR2.out.below hB) HPN.out (by omega) (by omega))
      have HRS := Lib.hid (fun W' Ca ca Cb cb (h1 : Rd W' 1 Ca p ((atF codes e.at_).map (Value.int .i64))) (h2 : Rd W' 1 Cb p ((atF cl e.at_).map (Value.int .i64))) => nuResolve_any av Ca Cb p kv p ca cb lev so eo _ _ W' HSO1.out h1 h2 hPl)
      rw [HRES.out] at HRS
      clear hbx hO2 hR2 y0 y1 y2 y3 hW hbe
      go_region_held3 (fun w' => w'.cell? ⟨bx, 0, none⟩ = some (.slice av p kv) ∧ w'.cell? ⟨bx, 1, none⟩ = some (.int .i64 lev) ∧ w'.cell? ⟨bx, 2, none⟩ = some (.int .i64 so) ∧ w'.cell? ⟨bx, 3, none⟩ = some (.int .i64 eo) ∧ Below W.heap.size W w')
        (first
          | exact ⟨z0, z1, z2, z3, ⟨rfl, rfl, rfl, Nat.le_refl _, fun _ _ => rfl⟩⟩
          | exact ⟨cell_below hr1 (by assumption : _ ∧ _ ∧ _ ∧ _ ∧ Below W.heap.size W _).1, cell_below hr1 (by assumption : _ ∧ _ ∧ _ ∧ _ ∧ Below W.heap.size W _).2.1, cell_below hr1 (by assumption : _ ∧ _ ∧ _ ∧ _ ∧ Below W.heap.size W _).2.2.1, cell_below hr1 (by assumption : _ ∧ _ ∧ _ ∧ _ ∧ Below W.heap.size W _).2.2.2.1, (by assumption : _ ∧ _ ∧ _ ∧ _ ∧ Below W.heap.size W _).2.2.2.2.trans (hr1.mono (by assumption : _ ∧ _ ∧ _ ∧ _ ∧ Below W.heap.size W _).2.2.2.2.size)⟩
          | exact ⟨cell_below ha1 (by assumption : _ ∧ _ ∧ _ ∧ _ ∧ Below W.heap.size W _).1, cell_below ha1 (by assumption : _ ∧ _ ∧ _ ∧ _ ∧ Below W.heap.size W _).2.1, cell_below ha1 (by assumption : _ ∧ _ ∧ _ ∧ _ ∧ Below W.heap.size W _).2.2.1, cell_below ha1 (by assumption : _ ∧ _ ∧ _ ∧ _ ∧ Below W.heap.size W _).2.2.2.1, (by assumption : _ ∧ _ ∧ _ ∧ _ ∧ Below W.heap.size W _).2.2.2.2.trans (ha1.mono (by assumption : _ ∧ _ ∧ _ ∧ _ ∧ Below W.heap.size W _).2.2.2.2.size)⟩
          | exact ⟨cell_below hb1 (by assumption : _ ∧ _ ∧ _ ∧ _ ∧ Below W.heap.size W _).1, cell_below hb1 (by assumption : _ ∧ _ ∧ _ ∧ _ ∧ Below W.heap.size W _).2.1, cell_below hb1 (by assumption : _ ∧ _ ∧ _ ∧ _ ∧ Below W.heap.size W _).2.2.1, cell_below hb1 (by assumption : _ ∧ _ ∧ _ ∧ _ ∧ Below W.heap.size W _).2.2.2.1, (by assumption : _ ∧ _ ∧ _ ∧ _ ∧ Below W.heap.size W _).2.2.2.2.trans (hb1.mono (by assumption : _ ∧ _ ∧ _ ∧ _ ∧ Below W.heap.size W _).2.2.2.2.size)⟩
          | assumption
          | fail)
        (first
          | (go_at_call 26; with_reducible refine (HRS.out _ Ca ca Cb cb (by first | exact Rd.of_own hva | exact (Rd.of_own hva).below hb1) (by first | exact Rd.of_own hvb | exact (Rd.of_own hvb).below ha1)).mono ?_; rintro e9 w9 ⟨vr, rfl, hvr, hr1⟩; obtain ⟨Cr, kr, her, hkr⟩ := own_form hvr; subst her)
          | (go_at_call 27; with_reducible refine (HPA.out _ (by assumption : _ ∧ _ ∧ _ ∧ _ ∧ Below W.heap.size W _).2.2.2.2).mono ?_; rintro e7 w7 ⟨va, rfl, hva, ha1⟩; obtain ⟨Ca, ca, hea, hka⟩ := own_form hva; subst hea)
          | (go_at_call 27; with_reducible refine (HPB.out _ (by assumption : _ ∧ _ ∧ _ ∧ _ ∧ Below W.heap.size W _).2.2.2.2).mono ?_; rintro e8 w8 ⟨vb, rfl, hvb, hb1⟩; obtain ⟨Cb, cb, heb, hkb⟩ := own_form hvb; subst heb)
          | fail)
      have hh := (by assumption : w9.cell? ⟨bx, 0, none⟩ = some (.slice av p kv) ∧ w9.cell? ⟨bx, 1, none⟩ = some (.int .i64 lev) ∧ w9.cell? ⟨bx, 2, none⟩ = some (.int .i64 so) ∧ w9.cell? ⟨bx, 3, none⟩ = some (.int .i64 eo) ∧ Below W.heap.size W w9)
      obtain ⟨f0, -, -, -, hB9⟩ := hh
      have HB9 := Lib.hid hB9
      have hw7 : W.heap.size ≤ w7.heap.size := ha1.size
      have hw8 : w7.heap.size ≤ w8.heap.size := hb1.size
      have HCR := Lib.hid (show 0 < p → ∀ b, Cr = some b → b.block ≠ ga from fun h0 b eb => by
        subst eb
        have := (hvr.lt b.block rfl).1
        omega)
      have HAN := Lib.hid (show 0 < p → ∀ b, av = some b → b.block ≠ ga from fun h0 b eb => by
        have := HAV.out h0 b eb
        have := HOK.out.gl
        omega)
      have HXG := Lib.hid (show bx ≠ ga by omega)
      obtain ⟨lj, hlj⟩ : ∃ lj, setsF (putAll codes cl (L.take j)) lv = lj := ⟨_, rfl⟩
      have HLJ := Lib.hid hlj
      have hjl : lj.length = n := by rw [← hlj, setsF_len, HLVL.out]
      have HJL := Lib.hid hjl
      rw [hlj] at HO2 HSTEP
      have HI0 : Hid (LvAt w w9 ga gb n m4 A (some ad) (setsF ((putE codes cl e).take 0) lj) cl codes O4 ∧ Rd w9 1 Cr p ((resF codes cl e).map (Value.int .i64)) ∧ w9.heap[bx]? = some (.cells #[.slice av p kv, .int .i64 lev, .int .i64 so, .int .i64 eo] 61 (0, 0)) ∧ Rd w9 1 av p ((encN e.at_).map (Value.int .i64))) := Lib.hid
        ⟨HO2.out.lowr hB9, Rd.of_own hvr, (hB9.block _ hrs).trans HBX.out, HR2.out.below hB9⟩
      clear HO z0 z1 z2 z3 HPA HPB HRS ha1 hb1 hva hvb hvr hr1 hB9 hrs hgl hlj hw7 hw8 hjl HO2 HR2 HBX
      go_wp2_with fail
      go_loopw [56] (fun i wi => ∃ q : Nat, q ≤ p ∧ i = .int .i64 (q : Int) ∧ LvAt w wi ga gb n m4 A (some ad) (setsF ((putE codes cl e).take q) lj) cl codes O4 ∧ Rd wi 1 Cr p ((resF codes cl e).map (Value.int .i64)) ∧ wi.heap[bx]? = some (.cells #[.slice av p kv, .int .i64 lev, .int .i64 so, .int .i64 eo] 61 (0, 0)) ∧ Rd wi 1 av p ((encN e.at_).map (Value.int .i64))) (fun i _ => p - (intOf i).toNat)
      case atStart => exact ⟨0, Nat.zero_le _, rfl, HI0.out⟩
      case round =>
        clear HI0
        obtain ⟨q, hq, rfl, hLi, hRi, hXi, hAi⟩ := hrel
        by_cases hqp : q < p
        · obtain ⟨x, hx⟩ : ∃ x, e.at_[q]? = some x := ⟨_, List.getElem?_eq_getElem (by rw [HP.out]; exact hqp)⟩
          obtain ⟨c0, hc0⟩ : ∃ c0, (resF codes cl e)[q]? = some c0 := ⟨_, List.getElem?_eq_getElem (by rw [resF_len, HP.out]; exact hqp)⟩
          obtain ⟨hxn, hxl⟩ := HLv1.out x (List.mem_of_getElem? hx)
          have hlv01 := HLVI.out x hxn
          rw [hxl] at hlv01
          obtain ⟨cd, rfl, _, hcc⟩ := hRi.at_ hqp
          obtain ⟨bd, rfl, _, hac⟩ := hAi.at_ hqp
          have d1 := hcc (.int .i64 c0) (by rw [List.getElem?_map, hc0]; rfl)
          have d2 := hac (.int .i64 (x : Int)) (encN_at hx)
          have d3 : wr.cell? ⟨bx, 1, none⟩ = some (.int .i64 lev) := hp_cell (j := 1) hXi rfl
          have d4 := hp_froz hLi.lev x
          have hlen : (setsF ((putE codes cl e).take q) lj).length = n := by rw [setsF_len, HJL.out]
          obtain ⟨ul, hul⟩ : ∃ u, wr.cell? ⟨ga, x, none⟩ = some u := ⟨_, hp_cell hLi.lev (Array.getElem?_eq_getElem (by simp [intsZ, hlen, hxn]))⟩
          obtain ⟨v, hv⟩ : ∃ v, impF c0 lev = v := ⟨_, rfl⟩
          have HIM := Lib.hid (fun W' => nuImp_any c0 lev v hv hlv01.1 hlv01.2 W')
          have HST2 := Lib.hid (sets_step (o := lj) hx hc0)
          rw [HLEV.out, hv] at HST2
          have hxi : (x : Int) < (n : Int) := by omega
          have hx0 : (0 : Int) ≤ (x : Int) := by omega
          have hqi : (q : Int) < (p : Int) := by omega
          have HLI := Lib.hid hLi
          have HRI := Lib.hid hRi
          have HXI := Lib.hid hXi
          have HAI := Lib.hid hAi
          have hB5 : Below w.heap.size wr (wr.setCell ⟨ga, x, none⟩ (.int .i64 v)) := (Below.refl _ _).setCell (p := ⟨ga, x, none⟩) HOK.out.la _
          have HF : Hid (LvAt w (wr.setCell ⟨ga, x, none⟩ (.int .i64 v)) ga gb n m4 A (some ad) (setsF ((putE codes cl e).take (q + 1)) lj) cl codes O4 ∧ Rd (wr.setCell ⟨ga, x, none⟩ (.int .i64 v)) 1 (some cd) p ((resF codes cl e).map (Value.int .i64)) ∧ (wr.setCell ⟨ga, x, none⟩ (.int .i64 v)).heap[bx]? = some (.cells #[.slice (some bd) p kv, .int .i64 lev, .int .i64 so, .int .i64 eo] 61 (0, 0)) ∧ Rd (wr.setCell ⟨ga, x, none⟩ (.int .i64 v)) 1 (some bd) p ((encN e.at_).map (Value.int .i64))) := Lib.hid
            ⟨by rw [HST2.out]; exact hLi.put HOK.out x v, hRi.farSet HCR.out, (hp_far HXG.out _ _).trans hXi, hAi.farSet HAN.out⟩
          clear hx hc0 hxl hcc hac hlen hv hlv01 hLi hRi hXi hAi hB5
          go_wp2_with fail
          go_region_law (first
            | (go_simp; go_at_call 28; refine (HIM.out _).mono ?_; rintro e5 w5 ⟨rfl, rfl⟩)
            | fail)
          all_goals (
            go_wp2_with fail
            go_roundw)
          all_goals first
            | (simp [intOf]; omega)
            | exact ⟨q + 1, by omega, by go_num, HF.out.1.lowr ⟨rfl, rfl, rfl, Nat.le_refl _, fun _ _ => rfl⟩, HF.out.2.1.below ⟨rfl, rfl, rfl, Nat.le_refl _, fun _ _ => rfl⟩, HF.out.2.2.1, HF.out.2.2.2.below ⟨rfl, rfl, rfl, Nat.le_refl _, fun _ _ => rfl⟩⟩
        · obtain rfl : q = p := by omega
          have HEND := Lib.hid (HSTEP.out.trans (show setsF (putE codes cl e) lj = setsF ((putE codes cl e).take q) lj by rw [List.take_of_length_le (by rw [putE_len, HP.out]; exact Nat.le_refl _)]))
          have HLI := Lib.hid hLi
          clear hLi hRi hXi hAi
          go_wp2_with fail
          go_roundw
          case rel => exact ⟨j + 1, by omega, by go_num, by rw [HEND.out]; exact HLI.out⟩
          case measure => simp [intOf]; omega
    · obtain rfl : j = m4 := by omega
      obtain ⟨zs, hzs⟩ : ∃ zs, setsF (putAll codes cl L) lv = zs := ⟨_, rfl⟩
      have hOz : LvAt w wr ga gb n j A a4 zs cl codes O4 := by
        rw [← hzs]
        have h := hO
        rwa [List.take_of_length_le (by have := congrArg List.length HE4.out; rw [List.length_map, HML.out] at this; omega)] at h
      have hzl : zs.length = n := by rw [← hzs, setsF_len, HLVL.out]
      have HNE := Lib.hid (HNEU.out.trans (by rw [hzs]))
      have HZL := Lib.hid hzl
      have HOZ := Lib.hid hOz
      have hfl : (fillS base cl zs).length = zs.length := by rw [fillS_len _ _ _ (by rw [HCLL.out, hzl]), HCLL.out, hzl]
      have HFL := Lib.hid hfl
      have h5 : Hid (Below w.heap.size w wr) := Lib.hid hOz.low
      clear hO hzs hOz hzl hfl
      go_wp2_with fail
      go_loopw [16, 76] (fun va i wi => ∃ k : Nat, k ≤ n ∧ i = .int .i64 (k : Int) ∧ va = .int .i64 (prvF base (fillS base cl zs) k) ∧ wi.heap[ga]? = some (.cells (intsZ (mixR (fillS base cl zs) zs k)).toArray 3 (0, 0)) ∧ wi.heap[gb]? = some (.cells (intsZ cl).toArray 3 (0, 0)) ∧ Below w.heap.size w wi) (fun _ i _ => n - (intOf i).toNat)
      case atStart => exact ⟨0, Nat.zero_le _, rfl, by simp [prvF], by rw [mixR_zero]; exact HOZ.out.lev, HOZ.out.cla, h5.out⟩
      case round =>
        obtain ⟨k, hk, rfl, rfl, hla, hcb, hlow⟩ := hrel
        obtain ⟨pv, hpv⟩ : ∃ pv, prvF base (fillS base cl zs) k = pv := ⟨_, rfl⟩
        have HLA := Lib.hid hla
        have HCB := Lib.hid hcb
        have HLO := Lib.hid hlow
        rw [hpv]
        by_cases hlt2 : k < n
        · obtain ⟨x, hx⟩ : ∃ x, cl[k]? = some x := ⟨_, List.getElem?_eq_getElem (by rw [HCLL.out]; exact hlt2)⟩
          obtain ⟨o, ho⟩ : ∃ o, zs[k]? = some o := ⟨_, List.getElem?_eq_getElem (by rw [HZL.out]; exact hlt2)⟩
          have hst := fillS_step (p := base) hx ho
          rw [hpv] at hst
          have c1 : wr.cell? ⟨gb, k, none⟩ = some (.int .i64 x) := hp_cell hcb (by simp [intsZ, hx])
          have c2 : wr.cell? ⟨ga, k, none⟩ = some (.int .i64 o) := hp_cell hla (by rw [List.getElem?_toArray]; unfold intsZ; rw [List.getElem?_map, mixR_ge HFL.out (Nat.le_refl k), ho]; rfl)
          have f2 := hp_froz hla k
          have hki : (k : Int) < (n : Int) := by omega
          have HEL := Lib.hid (fun W' => exLeft_any x W')
          obtain ⟨b, hb⟩ : ∃ b, leftC x = b := ⟨_, rfl⟩
          rw [hb] at hst HEL
          have hnx : ∀ v : Int, (fillS base cl zs)[k]? = some v → Hid (prvF base (fillS base cl zs) (k + 1) = v) := fun v hv => Lib.hid (by
            unfold prvF
            rw [if_neg (by omega), Nat.add_sub_cancel, List.getD_eq_getElem?_getD, hv]
            rfl)
          cases b with
          | true =>
            rw [if_pos rfl] at hst
            have HNX := hnx _ hst
            have HSET : Hid ((wr.setCell ⟨ga, k, none⟩ (.int .i64 pv)).heap[ga]? = some (.cells (intsZ (mixR (fillS base cl zs) zs (k + 1))).toArray 3 (0, 0))) := Lib.hid (by
              rw [mixR_set HFL.out (by rw [HZL.out]; exact hlt2) hst]
              exact hp_row hla k pv)
            have HCB2 : Hid ((wr.setCell ⟨ga, k, none⟩ (.int .i64 pv)).heap[gb]? = some (.cells (intsZ cl).toArray 3 (0, 0))) := Lib.hid ((hp_far (Ne.symm HOK.out.ne) _ _).trans hcb)
            have HLO2 := Lib.hid (hlow.setCell (p := ⟨ga, k, none⟩) HOK.out.la (.int .i64 pv))
            clear hx ho hst hnx hpv hb hla hcb hlow
            go_wp2_with (first
              | (go_at_call 29; with_reducible refine (HEL.out _).mono ?_; rintro e5 w5 ⟨rfl, rfl⟩)
              | fail)
            go_roundw
            case rel => exact ⟨k + 1, by omega, by go_num, by rw [HNX.out], HSET.out, HCB2.out, HLO2.out⟩
            case measure => simp [intOf]; omega
          | false =>
            rw [if_neg (by decide)] at hst
            have HNX := hnx _ hst
            have HSET : Hid (wr.heap[ga]? = some (.cells (intsZ (mixR (fillS base cl zs) zs (k + 1))).toArray 3 (0, 0))) := Lib.hid (by
              rw [mixR_same HFL.out (Nat.le_succ k) (fun i h1 h2 => by rw [show i = k by omega, hst, ho])]
              exact hla)
            clear hx ho hst hnx hpv hb hla hcb hlow
            go_wp2_with (first
              | (go_at_call 29; with_reducible refine (HEL.out _).mono ?_; rintro e5 w5 ⟨rfl, rfl⟩)
              | fail)
            go_roundw
            case rel => exact ⟨k + 1, by omega, by go_num, by rw [HNX.out], HSET.out, HCB.out, HLO.out⟩
            case measure => simp [intOf]; omega
        · obtain rfl : k = n := by omega
          have HRD : Hid (Rd wr 1 (some ⟨ga, 0, none⟩) k ((neuL codes xs base).map (Value.int .i64))) := Lib.hid (by
            rw [HNE.out]
            have h := hla
            rw [mixR_all HFL.out (by rw [HZL.out]; exact Nat.le_refl _)] at h
            exact rd_row h (by rw [HFL.out, HZL.out]))
          clear hla hcb hlow
          go_wp2_with fail
          exact bodyPost_ret (v := .tuple #[.int .i64 base, .slice (some ⟨ga, 0, none⟩) k k]) (by simp [results, go_sem]) rfl ⟨⟨ga, rfl, HRD.out, HOK.out.la⟩, HLO.out⟩
theorem nuLevels_any (A B : Option Addr) (n c m : Nat) (codes xs : List Int) (d : Int) (w : World) (hr : Rd w 1 A n (codes.map (Value.int .i64))) (hs : Rd w 1 B n (xs.map (Value.int .i64))) (hnm : n ≤ m) (hn : n ≤ 1000) :
    Calls Tryz.prog 13 #[.slice A n c, .slice B n m, .int .i64 d] w fun e w' => (∃ ga, e = .returned (.tuple #[.int .i64 (levelF xs d), .slice (some ⟨ga, 0, none⟩) n n]) ∧ Rd w' 1 (some ⟨ga, 0, none⟩) n ((neuL codes xs (levelF xs d)).map (Value.int .i64))) ∧ Below w.heap.size w w' :=
  (nuLevelsG_any A B n c m codes xs d w hr hs hnm hn).mono fun _ _ ⟨⟨ga, h1, h2, _⟩, h3⟩ => ⟨⟨ga, h1, h2⟩, h3⟩
end Go.Proofs.YtdgomaoikeffhaaGreat
