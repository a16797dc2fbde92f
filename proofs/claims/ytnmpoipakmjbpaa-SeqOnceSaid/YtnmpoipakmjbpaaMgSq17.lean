/- Texts of one claim, one behind the other. -/
import Derived.Deep.RegionLaw
import Derived.Deep.DeepCutAuto
import Derived.Deep.CutBlock
import Derived.Test.YtnmpoipakmjbpaaMgSq2
import Derived.Test.YtnmpoipakmjbpaaMgSq3
import Derived.Test.YtnmpoipakmjbpaaMgSq8
import Derived.Test.YtnmpoipakmjbpaaMgSq13
import Derived.Test.YtnmpoipakmjbpaaMgSq15
import Derived.Test.YtnmpoipakmjbpaaMgSq16
/- naskhlaw23: SeqTells. -/
namespace Go.Proofs.Ytnmpoipakmjbpaa
open Go.RowKit

set_option maxRecDepth 100000 in
set_option maxHeartbeats 500000 in
theorem seqTells_any (A B C : Option Addr) (n m k c d q : Nat) (lv cl bf : List Int) (level : Int) (w : World) (hr : Rd w 1 A n (lv.map (Value.int .i64))) (hs : Rd w 1 B m (cl.map (Value.int .i64))) (ht : Rd w 1 C k (bf.map (Value.int .i64))) (hn : n ≤ maxLen) (hm : m ≤ maxLen) (hk : k ≤ maxLen) :
    Calls Try.prog 3 #[.slice A n c, .slice B m d, .slice C k q, .int .i64 level] w fun e w' => e = .returned (.bool true) ∧ Below w.heap.size w w' := by
  unfold maxLen at hn hm hk
  by_cases h1 : n ≤ 200
  · by_cases h2 : m ≤ 200
    · by_cases h3 : k ≤ 200
      · have hll : lv.length = n := by simpa using hr.len1
        have HLL := Lib.hid hll
        have HR := Lib.hid hr
        have HS := Lib.hid hs
        have HT := Lib.hid ht
        clear hr hs ht hll
        go_enter Try.func3, Try.ntmps3
        go_wp2_with fail
        refine (sqRuns_any A B n c m d lv cl w HR.out HS.out (by omega) (by unfold maxLen; omega)).mono ?_
        rintro e w1 ⟨⟨v, Q1, rfl, hL1⟩, hb1⟩
        obtain ⟨A1, c1, rfl, hc1⟩ := own_form hL1.own
        have HL1 := Lib.hid hL1
        have HB1 := Lib.hid hb1
        clear hL1 hb1
        go_wp2_with fail
        refine (rqRuns_any A B n c m d lv cl w1 (HR.out.below HB1.out) (HS.out.below HB1.out) (by omega) (by unfold maxLen; omega)).mono ?_
        rintro e w2 ⟨⟨v, Q2, rfl, hL2⟩, hb2⟩
        obtain ⟨A2, c2, rfl, hc2⟩ := own_form hL2.own
        have HL2 := Lib.hid hL2
        have HL1b := Lib.hid (HL1.out.low hb2)
        have HB2 := Lib.hid (below_self HB1.out hb2)
        clear hL2 hb2
        go_wp2_with fail
        have hQ1 : Q1.length ≤ 100000 := by
          have := HL1.out.len
          unfold encR at this
          rw [List.length_map] at this
          have h5 := runsG_many (lv := lv) (cl := cl)
          have := HLL.out
          omega
        refine (runsEq_any _ _ A1 A2 Q1.length Q2.length c1 c2 Q1 Q2 (encR (runsG lv cl)) w2 HL1b.out HL2.out rfl rfl (fun r hr => by have := runsG_row hr; have := HLL.out; omega) hQ1).mono ?_
        rintro e w3 ⟨rfl, hb3⟩
        have HB3 := Lib.hid (below_self HB2.out hb3)
        clear hb3 hQ1
        go_wp2_with fail
        refine (sqSeqs_any A B C n c m d k q lv cl bf level w3 (HR.out.below HB3.out) (HS.out.below HB3.out) (HT.out.below HB3.out) (by omega) (by omega)).mono ?_
        rintro e w4 ⟨⟨a4, m4, k4, O4, rfl, hR4, hE4, _⟩, hb4⟩
        have HR4 := Lib.hid hR4
        have HE4 := Lib.hid hE4
        have HB4 := Lib.hid (below_self HB3.out hb4)
        clear hR4 hE4 hb4
        go_wp2_with fail
        refine (rqSeqs_any A B C n c m d k q lv cl bf level w4 (HR.out.below HB4.out) (HS.out.below HB4.out) (HT.out.below HB4.out) (by omega)).mono ?_
        rintro e w5 ⟨⟨v, O5, rfl, hO5, hE5⟩, hb5⟩
        obtain ⟨a5, c5, rfl, hc5⟩ := own_form hO5.own
        have HR5 := Lib.hid (RO.of_own hO5 rfl)
        have HE5 := Lib.hid hE5
        have HB5 := Lib.hid (below_self HB4.out hb5)
        have HR45 := Lib.hid (HR4.out.low hb5)
        clear hO5 hE5 hb5 hc5
        go_wp2_with fail
        refine (seqs_same lv cl bf level (by have := HLL.out; omega) a4 a5 m4 O5.length k4 c5 O4 O5 w5 HR45.out HR5.out HE4.out HE5.out).mono ?_
        rintro e w6 ⟨rfl, hb6⟩
        have HB6 := Lib.hid (below_self HB5.out hb6)
        clear hb6
        go_wp2_with fail
        refine (awakeSq_any _).mono ?_
        rintro e w7 ⟨rfl, hb7⟩
        have HB7 := Lib.hid (below_self HB6.out hb7)
        clear hb7
        go_wp2_with fail
        go_ret
        exact ⟨rfl, HB7.out⟩
      · clear hr hs ht
        go_enter Try.func3, Try.ntmps3
        go_wp2_with fail
        refine (awakeSq_any _).mono ?_
        rintro e w7 ⟨rfl, hb7⟩
        have HB7 := Lib.hid hb7
        clear hb7
        go_wp2_with fail
        go_ret
        exact ⟨rfl, HB7.out⟩
    · clear hr hs ht
      go_enter Try.func3, Try.ntmps3
      go_wp2_with fail
      refine (awakeSq_any _).mono ?_
      rintro e w7 ⟨rfl, hb7⟩
      have HB7 := Lib.hid hb7
      clear hb7
      go_wp2_with fail
      go_ret
      exact ⟨rfl, HB7.out⟩
  · clear hr hs ht
    go_enter Try.func3, Try.ntmps3
    go_wp2_with fail
    refine (awakeSq_any _).mono ?_
    rintro e w7 ⟨rfl, hb7⟩
    have HB7 := Lib.hid hb7
    clear hb7
    go_wp2_with fail
    go_ret
    exact ⟨rfl, HB7.out⟩
end Go.Proofs.Ytnmpoipakmjbpaa
/- naskhlaw23: SeqOf. -/
namespace Go.Proofs.Ytnmpoipakmjbpaa
open Go.RowKit

set_option maxRecDepth 100000 in
set_option maxHeartbeats 500000 in
theorem seqOf_any (A : Option Addr) (n c : Nat) (xs : List Int) (level : Int) (w : World) (hr : Rd w 1 A n (xs.map (Value.int .i64))) (hnc : n ≤ c) (hn : n ≤ maxLen) :
    Calls Try.prog 4 #[.slice A n c, .int .i64 level] w fun e w' => e = .returned (.bool true) ∧ Below w.heap.size w w' := by
  unfold maxLen at hn
  by_cases h1 : n ≤ 200
  · have hlen : xs.length = n := by simpa using hr.len1
    have HR := Lib.hid hr
    obtain ⟨base, hbase⟩ : ∃ base, baseL level = base := ⟨_, rfl⟩
    have hmm : min (max level 0) 1 = base := hbase
    have hbb : baseL base = base := by rw [← hbase]; unfold baseL; omega
    have HRX := Lib.hid (rxLevels_any A n c xs base w hr (by omega) hnc)
    rw [hbb] at HRX
    obtain ⟨la, hla⟩ : ∃ la, lvL xs base n = la := ⟨_, rfl⟩
    obtain ⟨lb, hlb⟩ : ∃ lb, clL xs base n = lb := ⟨_, rfl⟩
    rw [hla, hlb] at HRX
    have HLA := Lib.hid (show la.length = n by rw [← hla, lvL_len])
    obtain ⟨l0, hl0⟩ : ∃ l0, (if level < 0 then 0 else level) = l0 := ⟨_, rfl⟩
    have hl1 : (if 1 < l0 then 1 else l0) = base := by rw [← hmm, ← hl0]; split <;> split <;> omega
    clear hr hlen hbase hmm hbb hla hlb
    go_enter Try.func4, Try.ntmps4
    go_wp2_with fail
    refine HRX.out.mono ?_
    rintro e w3 ⟨⟨V, cv, V', cv', rfl, hva, hvb⟩, hb3⟩
    have HVA := Lib.hid hva
    have HVB := Lib.hid hvb
    have HB3 := Lib.hid hb3
    clear hva hvb hb3 hl0 hl1
    go_wp2_with fail
    refine (sqSeqs_any V V' A n cv n cv' n c la lb xs base w3 HVA.out HVB.out (HR.out.below HB3.out) (by omega) (by omega)).mono ?_
    rintro e w4 ⟨⟨a4, m4, k4, O4, rfl, hR4, hE4, _⟩, hb4⟩
    have HR4 := Lib.hid hR4
    have HE4 := Lib.hid hE4
    have HB4 := Lib.hid (below_self HB3.out hb4)
    have HVA4 := Lib.hid (HVA.out.below hb4)
    have HVB4 := Lib.hid (HVB.out.below hb4)
    clear hR4 hE4 hb4
    go_wp2_with fail
    refine (rqSeqs_any V V' A n cv n cv' n c la lb xs base w4 HVA4.out HVB4.out (HR.out.below HB4.out) (by omega)).mono ?_
    rintro e w5 ⟨⟨v, O5, rfl, hO5, hE5⟩, hb5⟩
    obtain ⟨a5, c5, rfl, hc5⟩ := own_form hO5.own
    have HR5 := Lib.hid (RO.of_own hO5 rfl)
    have HE5 := Lib.hid hE5
    have HB5 := Lib.hid (below_self HB4.out hb5)
    have HR45 := Lib.hid (HR4.out.low hb5)
    clear hO5 hE5 hb5 hc5
    go_wp2_with fail
    refine (seqs_same la lb xs base (by have := HLA.out; omega) a4 a5 m4 O5.length k4 c5 O4 O5 w5 HR45.out HR5.out HE4.out HE5.out).mono ?_
    rintro e w6 ⟨rfl, hb6⟩
    have HB6 := Lib.hid (below_self HB5.out hb6)
    clear hb6
    go_wp2_with fail
    refine (awakeSq_any _).mono ?_
    rintro e w7 ⟨rfl, hb7⟩
    have HB7 := Lib.hid (below_self HB6.out hb7)
    clear hb7
    go_wp2_with fail
    go_ret
    exact ⟨rfl, HB7.out⟩
  · clear hr
    go_enter Try.func4, Try.ntmps4
    go_wp2_with fail
    refine (awakeSq_any _).mono ?_
    rintro e w7 ⟨rfl, hb7⟩
    have HB7 := Lib.hid hb7
    clear hb7
    go_wp2_with fail
    go_ret
    exact ⟨rfl, HB7.out⟩
end Go.Proofs.Ytnmpoipakmjbpaa
/- SeqOnce as mathematics: how often a place was seen; the level of a sequence. No function of the program. -/
namespace Go.Proofs.Ytnmpoipakmjbpaa
open Go.RowKit

/-- How often each place is there. -/
def cntL (T : List Nat) (n : Nat) : List Int := (List.range n).map fun i => ((T.count i : Nat) : Int)
theorem cntL_len (T : List Nat) (n : Nat) : (cntL T n).length = n := by simp [cntL]
theorem cntL_nil (n : Nat) : cntL [] n = List.replicate n 0 := by
  apply List.ext_getElem <;> simp [cntL]
theorem cntL_at {T : List Nat} {n i : Nat} (h : i < n) : (cntL T n)[i]? = some ((T.count i : Nat) : Int) := by simp [cntL, h]
theorem cntL_put {T : List Nat} {n i : Nat} : (cntL T n).set i (((T.count i : Nat) : Int) + 1) = cntL (T ++ [i]) n := by
  apply List.ext_getElem
  · simp [cntL]
  · intro j h1 h2
    simp only [cntL, List.getElem_set, List.getElem_map, List.getElem_range, List.count_append]
    by_cases e : i = j
    · subst e
      simp
    · have : List.count j [i] = 0 := List.count_eq_zero_of_not_mem (by simp; exact fun h => e h.symm)
      simp [e, this]
/-- The places of sequences, one behind the other. -/
def allAt (L : List SqE) : List Nat := L.flatMap fun e => e.at_
theorem allAt_take {L : List SqE} {k : Nat} {e : SqE} (h : L[k]? = some e) : allAt (L.take (k + 1)) = allAt (L.take k) ++ e.at_ := by
  rw [List.take_add_one, h]; simp [allAt]
section
variable {lv cl bf : List Int} {level : Int} {n : Nat}
/-- Each place that is not left out is there once. -/
theorem all_once (hl : lv.length = n) (hc : cl.length = n) (hb : bf.length = n) (i : Nat) (hi : i < n) : (allAt (seqsG lv cl bf level)).count i = if leftC (cl.getD i 0) = true then 0 else 1 := by
  have hG : seqsG lv cl bf level = seqsF lv cl bf level (runsG lv cl).length := by unfold seqsG; rw [if_pos ⟨by omega, by omega⟩]
  have hR : runsG lv cl = runsF lv cl := by unfold runsG; rw [if_pos (by omega)]
  have e : allAt (seqsG lv cl bf level) = ((sqF (runsF lv cl) bf (matF bf) (runsF lv cl).length).1.map (placesF (runsF lv cl))).flatten := by
    rw [hG]
    unfold seqsF allAt
    rw [hR, List.flatMap_def, List.map_map]
    rfl
  rw [e, (sq_places (R := runsF lv cl) (bf := bf) (mt := matF bf)).count_eq, runs_flat, hl]
  cases hx : leftC (cl.getD i 0) with
  | true =>
    rw [if_pos rfl]
    refine List.count_eq_zero_of_not_mem (fun hm => ?_)
    have := (List.mem_filter.1 hm).2
    rw [hx] at this
    cases this
  | false =>
    rw [if_neg (by decide)]
    have hm : i ∈ (List.range n).filter fun i => !leftC (cl.getD i 0) := List.mem_filter.2 ⟨List.mem_range.2 hi, by rw [hx]; rfl⟩
    exact Nat.le_antisymm (List.nodup_iff_count.1 (List.nodup_range.filter _) i) (List.count_pos_iff.2 hm)
/-- All places of a sequence have its level, where what isolates and what ends it have one. -/
theorem seq_level (hl : lv.length = n) (hc : cl.length = n) (hb : bf.length = n) (hm : ∀ la : Nat, opB (bf.getD la 0) = true → (matF bf).getD la 0 < bf.length → lv.getD ((matF bf).getD la 0).toNat 0 = lv.getD la 0) {e : SqE} (he : e ∈ seqsG lv cl bf level) : ∀ x ∈ e.at_, x < n ∧ lv.getD x 0 = e.lev := by
  have hG : seqsG lv cl bf level = seqsF lv cl bf level (runsG lv cl).length := by unfold seqsG; rw [if_pos ⟨by omega, by omega⟩]
  have hR : runsG lv cl = runsF lv cl := by unfold runsG; rw [if_pos (by omega)]
  rw [hG] at he
  unfold seqsF at he
  rw [hR] at he
  obtain ⟨ks, hk, rfl⟩ := List.mem_map.1 he
  obtain ⟨hne, hsame⟩ := sq_level (R := runsF lv cl) (bf := bf) (mt := matF bf) (lv := lv) (fun r hr => runs_one hr) hm _ (Nat.le_refl _) ks hk
  intro x hx
  have hx' : x ∈ placesF (runsF lv cl) ks := hx
  obtain ⟨r, hr, hxr⟩ := places_mem hx'
  have hlt := (runs_of lv cl).lt hr hxr
  refine ⟨by omega, ?_⟩
  show lv.getD x 0 = lv.getD ((placesF (runsF lv cl) ks).headD 0) 0
  exact hsame x hx' _ (head_mem hne)
end
/-- What isolates and what ends it have one level. -/
theorem iso_level (xs : List Int) (base : Int) (la : Nat) (ho : opB (xs.getD la 0) = true) (hm : (matF xs).getD la 0 < xs.length) : (lvL xs base xs.length).getD ((matF xs).getD la 0).toNat 0 = (lvL xs base xs.length).getD la 0 := by
  have hla : la < xs.length := by
    rcases Nat.lt_or_ge la xs.length with h | h
    · exact h
    · rw [List.getD_eq_getElem?_getD, List.getElem?_eq_none h] at ho
      cases ho
  have hx : xs[la]? = some (xs.getD la 0) := by rw [List.getD_eq_getElem?_getD, List.getElem?_eq_getElem hla]; rfl
  have hi : OpAt xs la := (opAt_of hx).2 ho
  have hG := (matF_good xs).op la hi
  have hmv : (matF xs).getD la 0 = ((ansF xs (la + 1) 0 : Nat) : Int) := by rw [List.getD_eq_getElem?_getD, hG]; rfl
  rw [hmv] at hm ⊢
  rw [Int.toNat_natCast]
  have hlt : ansF xs (la + 1) 0 < xs.length := by omega
  have hp := ansF_pdi xs (la + 1) 0 hlt
  obtain ⟨j, hj⟩ : ∃ j, clo (xs.drop (la + 1)) 0 = some j := by
    cases h : clo (xs.drop (la + 1)) 0 with
    | some j => exact ⟨j, rfl⟩
    | none =>
      unfold ansF at hlt
      rw [h] at hlt
      simp at hlt
  have ha : ansF xs (la + 1) 0 = la + 1 + j := by unfold ansF; rw [hj]
  rw [ha] at hp hlt ⊢
  have h := pair_level (base := base) hx ho hj hp
  rw [List.getD_eq_getElem?_getD, List.getD_eq_getElem?_getD, lvL_get hlt, lvL_get hla, Option.getD_some, Option.getD_some, h]
end Go.Proofs.Ytnmpoipakmjbpaa
/- explicit: right, step, walked. -/
namespace Go.Proofs.Ytnmpoipakmjbpaa
open Go.RowKit

/-- What right answers: it may part from the document's only where it makes no odds. -/
def RightAns (s : Stk) (xs : List Int) (k : Nat) (e : Ending) : Prop := ∃ r, e = .returned (.bool r) ∧ isoS s r = isoS s (rightC xs k)
section
variable {bw g n c mc : Nat} {A M : Option Addr} {xs : List Int} {base : Int} {s : Stk}
set_option maxRecDepth 100000 in
set_option maxHeartbeats 2000000 in
theorem exRight_any (k : Nat) (x : Int) (w : World) (h : WlkAt w bw g A n c xs M mc base s) (hx : xs[k]? = some x) (hn : n ≤ 100000) (hnc : n ≤ c) (hfm : ∀ y ∈ matF xs, Fit y) : Calls Try.prog 66 #[.pointer (some ⟨bw, 0, none⟩), .int .i64 (k : Int), .int .i64 x] w fun e w' => RightAns s xs k e ∧ Below w.heap.size w w' := by
  have hg : xs.getD k 0 = x := by rw [List.getD_eq_getElem?_getD, hx]; rfl
  by_cases h21 : x = 21
  · subst h21
    have HF := Lib.hid (exFull_any w h)
    obtain ⟨fl, hfl⟩ : ∃ fl, fullS s = fl := ⟨_, rfl⟩
    rw [hfl] at HF
    cases fl with
    | true =>
      have HR : Hid (isoS s false = isoS s (rightC xs k)) := Lib.hid (by rw [iso_no (full_room hfl _), iso_no (full_room hfl _)])
      clear h hfl hx hg
      go_enter Try.func66, Try.ntmps66
      go_wp2_with fail
      refine HF.out.mono ?_
      rintro e w1 ⟨rfl, hb1⟩
      have HB1 := Lib.hid hb1
      clear hb1
      go_wp2
      go_ret
      exact ⟨⟨false, rfl, HR.out⟩, HB1.out⟩
    | false =>
      have hr : rightC xs k = decide (firstF xs ((k : Int) + 1, (matF xs).getD k 0) = 1) := by unfold rightC; rw [if_pos hg]
      obtain ⟨m, hm⟩ : ∃ m, (matF xs)[k]? = some m := by
        have hl := h.mt.1.1
        have hk := (List.getElem?_eq_some_iff.1 hx).1
        have hl2 := h.cl.1.1
        simp at hl hl2
        exact ⟨_, List.getElem?_eq_getElem (by omega)⟩
      have hmd : (matF xs).getD k 0 = m := by rw [List.getD_eq_getElem?_getD, hm]; rfl
      rw [hmd] at hr
      have hFm := hfm m (List.mem_of_getElem? hm)
      have hkn : k < n := by
        have hk := (List.getElem?_eq_some_iff.1 hx).1
        have hl2 := h.cl.1.1
        simp at hl2
        omega
      have HW := Lib.hid h
      have HRR := Lib.hid hr
      clear hx hg hfl h hr hmd
      go_enter Try.func66, Try.ntmps66
      go_wp2_with fail
      refine HF.out.mono ?_
      rintro e w1 ⟨rfl, hb1⟩
      have HB1 := Lib.hid hb1
      have hW := HW.out.low hb1
      have c2 := hW.c2
      have c3 := hW.c3
      have hcl := hW.cl.1
      obtain ⟨md, rfl, hmb, hmcell⟩ := hW.mt.1.at_ hkn
      have cm := hmcell _ (by rw [List.getElem?_map, hm]; rfl)
      have HP := Lib.hid (fun W (k' : Below w1.heap.size w1 W) => prFirst_any A n c xs ((k : Int) + 1) m W (hcl.below k') (by omega) hnc (by unfold Fit; omega) hFm)
      obtain ⟨f, hf⟩ : ∃ f, firstF xs ((k : Int) + 1, m) = f := ⟨_, rfl⟩
      rw [hf] at HP HRR
      have hk0 : (0 : Int) ≤ (k : Int) := by omega
      have hkn' : (k : Int) < (n : Int) := by omega
      have hk5 : (k : Int) ≤ 100000 := by omega
      have hwr : IntKind.i64.wrap ((k : Int) + 1) = (k : Int) + 1 := by rw [IntKind.wrap_i64]; omega
      clear hW hcl hmcell hb1 hf
      go_wp2
      go_region_held3 (fun w' => w'.cell? ⟨bw, 2, none⟩ = some (.slice A n c) ∧ w'.cell? ⟨bw, 3, none⟩ = some (.slice (some md) n mc) ∧ w'.cell? (md.add k) = some (.int .i64 m) ∧ Below w1.heap.size w1 w')
        (first
          | exact ⟨c2, c3, cm, (Below.refl _ _).drew⟩
          | assumption
          | exact ⟨cell_below h1 c2, cell_below h1 c3, cell_below h1 cm, below_self (Below.refl _ _).drew h1⟩
          | exact ⟨cell_below h1 (by assumption : _ ∧ _ ∧ _ ∧ Below w1.heap.size w1 _).1, cell_below h1 (by assumption : _ ∧ _ ∧ _ ∧ Below w1.heap.size w1 _).2.1, cell_below h1 (by assumption : _ ∧ _ ∧ _ ∧ Below w1.heap.size w1 _).2.2.1, below_self (by assumption : _ ∧ _ ∧ _ ∧ Below w1.heap.size w1 _).2.2.2 h1⟩
          | fail)
        (first
          | (go_at_call 81; with_reducible refine (HP.out _ (by first | exact (Below.refl _ _).drew | exact (by assumption : _ ∧ _ ∧ _ ∧ Below w1.heap.size w1 _).2.2.2)).mono ?_; rintro e w3 ⟨rfl, h1⟩)
          | fail)
      all_goals (
        have hz3 : Below w1.heap.size w1 w3 := (by
          first
            | exact (by assumption : _ ∧ _ ∧ _ ∧ Below w1.heap.size w1 w3).2.2.2
            | exact below_self (by assumption : _ ∧ _ ∧ _ ∧ Below w1.heap.size w1 _).2.2.2 h1)
        have HB3 := Lib.hid (below_self HB1.out hz3)
        clear hz3
        go_wp2
        go_ret
        exact ⟨⟨_, rfl, by rw [HRR.out]; congr 1⟩, HB3.out⟩)
  · have hr : rightC xs k = decide (x = 20) := by unfold rightC; rw [hg, if_neg h21]
    have hg21 : (x == 21) = false := by simp [h21]
    have HR := Lib.hid hr
    clear h hx hg hr
    by_cases h20 : x = 20
    · subst h20
      go_enter Try.func66, Try.ntmps66
      go_wp2
      go_ret
      exact ⟨⟨_, rfl, by rw [HR.out]; rfl⟩, Below.refl _ _⟩
    · have hg20 : (x == 20) = false := by simp [h20]
      go_enter Try.func66, Try.ntmps66
      go_wp2
      go_ret
      exact ⟨⟨false, rfl, by rw [HR.out]; simp [h20]⟩, Below.refl _ _⟩
end
end Go.Proofs.Ytnmpoipakmjbpaa
/- explicit: step, walked. -/
namespace Go.Proofs.Ytnmpoipakmjbpaa
open Go.RowKit

section
variable {bw g n c mc : Nat} {A M : Option Addr} {xs : List Int} {base : Int} {s : Stk}
/-- What a step answers, and leaves. -/
def StepAns (w w' : World) (g : Nat) (xs : List Int) (base : Int) (s : Stk) (k : Nat) (x : Int) (e : Ending) : Prop :=
  e = .returned (.tuple #[.int .i64 (outX base (stepA s x) x).1, .int .i64 (outX base (stepA s x) x).2]) ∧ StkAt w' g (stepB xs k x (stepA s x)) ∧ Kept w w' [g]
/-- As 'StepAns', of what is said. -/
theorem stepAns_of {w w' : World} {k : Nat} {x : Int} {e : Ending} (p q : Int) (T : Stk) (h1 : outX base (stepA s x) x = (p, q)) (h2 : stepB xs k x (stepA s x) = T) (he : e = .returned (.tuple #[.int .i64 p, .int .i64 q])) (hs : StkAt w' g T) (hk : Kept w w' [g]) : StepAns w w' g xs base s k x e := by
  unfold StepAns
  rw [h1, h2]
  exact ⟨he, hs, hk⟩
set_option maxRecDepth 100000 in
set_option maxHeartbeats 4000000 in
theorem exStep_16 (k : Nat) (w : World) (h : WlkAt w bw g A n c xs M mc base s) (hf : Few s 100000) : Calls Try.prog 42 #[.pointer (some ⟨bw, 0, none⟩), .int .i64 (k : Int), .int .i64 16] w fun e w' => StepAns w w' g xs base s k 16 e := by
  have HW := Lib.hid h
  have c0 := h.c0
  have HT := Lib.hid (stkTop_any g s w h.st)
  unfold entV at HT
  have fd := ent_lv s.top.lv s.top.ov s.top.is
  have hb : s.b ≤ 100000000 := by have := hf.2.1; omega
  have HE := Lib.hid (fun W (h : WlkAt W bw g A n c xs M mc base s) => exEmbed_any 16 W h hb (by omega))
  clear h
  go_enter Try.func42, Try.ntmps42
  go_wp2_with fail
  refine HT.out.mono ?_
  rintro e w1 ⟨rfl, hb1⟩
  have HK1 := Lib.hid (Kept.of_below hb1 [g])
  have HW1 := Lib.hid (HW.out.low hb1)
  clear hb1
  go_wp2_with fail
  refine (HE.out _ HW1.out).mono ?_
  rintro e w2 ⟨rfl, hA, hk⟩
  have HA := Lib.hid hA
  have HK := Lib.hid (HK1.out.trans hk)
  clear hA hk
  go_wp2
  refine bodyPost_ret (v := .tuple #[.int .i64 s.top.lv, .int .i64 9]) (by simp [results, go_sem]) rfl ?_
  exact stepAns_of s.top.lv 9 _ (by simp [stepA, outX, leftC]) (by simp [stepA, stepB, embR, embO]) rfl HA.out HK.out
set_option maxRecDepth 100000 in
set_option maxHeartbeats 4000000 in
theorem exStep_14 (k : Nat) (w : World) (h : WlkAt w bw g A n c xs M mc base s) (hf : Few s 100000) : Calls Try.prog 42 #[.pointer (some ⟨bw, 0, none⟩), .int .i64 (k : Int), .int .i64 14] w fun e w' => StepAns w w' g xs base s k 14 e := by
  have HW := Lib.hid h
  have c0 := h.c0
  have HT := Lib.hid (stkTop_any g s w h.st)
  unfold entV at HT
  have fd := ent_lv s.top.lv s.top.ov s.top.is
  have hb : s.b ≤ 100000000 := by have := hf.2.1; omega
  have HE := Lib.hid (fun W (h : WlkAt W bw g A n c xs M mc base s) => exEmbed_any 14 W h hb (by omega))
  clear h
  go_enter Try.func42, Try.ntmps42
  go_wp2_with fail
  refine HT.out.mono ?_
  rintro e w1 ⟨rfl, hb1⟩
  have HK1 := Lib.hid (Kept.of_below hb1 [g])
  have HW1 := Lib.hid (HW.out.low hb1)
  clear hb1
  go_wp2_with fail
  refine (HE.out _ HW1.out).mono ?_
  rintro e w2 ⟨rfl, hA, hk⟩
  have HA := Lib.hid hA
  have HK := Lib.hid (HK1.out.trans hk)
  clear hA hk
  go_wp2
  refine bodyPost_ret (v := .tuple #[.int .i64 s.top.lv, .int .i64 9]) (by simp [results, go_sem]) rfl ?_
  exact stepAns_of s.top.lv 9 _ (by simp [stepA, outX, leftC]) (by simp [stepA, stepB, embR, embO]) rfl HA.out HK.out
set_option maxRecDepth 100000 in
set_option maxHeartbeats 4000000 in
theorem exStep_17 (k : Nat) (w : World) (h : WlkAt w bw g A n c xs M mc base s) (hf : Few s 100000) : Calls Try.prog 42 #[.pointer (some ⟨bw, 0, none⟩), .int .i64 (k : Int), .int .i64 17] w fun e w' => StepAns w w' g xs base s k 17 e := by
  have HW := Lib.hid h
  have c0 := h.c0
  have HT := Lib.hid (stkTop_any g s w h.st)
  unfold entV at HT
  have fd := ent_lv s.top.lv s.top.ov s.top.is
  have hb : s.b ≤ 100000000 := by have := hf.2.1; omega
  have HE := Lib.hid (fun W (h : WlkAt W bw g A n c xs M mc base s) => exEmbed_any 17 W h hb (by omega))
  clear h
  go_enter Try.func42, Try.ntmps42
  go_wp2_with fail
  refine HT.out.mono ?_
  rintro e w1 ⟨rfl, hb1⟩
  have HK1 := Lib.hid (Kept.of_below hb1 [g])
  have HW1 := Lib.hid (HW.out.low hb1)
  clear hb1
  go_wp2_with fail
  refine (HE.out _ HW1.out).mono ?_
  rintro e w2 ⟨rfl, hA, hk⟩
  have HA := Lib.hid hA
  have HK := Lib.hid (HK1.out.trans hk)
  clear hA hk
  go_wp2
  refine bodyPost_ret (v := .tuple #[.int .i64 s.top.lv, .int .i64 9]) (by simp [results, go_sem]) rfl ?_
  exact stepAns_of s.top.lv 9 _ (by simp [stepA, outX, leftC]) (by simp [stepA, stepB, embR, embO]) rfl HA.out HK.out
set_option maxRecDepth 100000 in
set_option maxHeartbeats 4000000 in
theorem exStep_15 (k : Nat) (w : World) (h : WlkAt w bw g A n c xs M mc base s) (hf : Few s 100000) : Calls Try.prog 42 #[.pointer (some ⟨bw, 0, none⟩), .int .i64 (k : Int), .int .i64 15] w fun e w' => StepAns w w' g xs base s k 15 e := by
  have HW := Lib.hid h
  have c0 := h.c0
  have HT := Lib.hid (stkTop_any g s w h.st)
  unfold entV at HT
  have fd := ent_lv s.top.lv s.top.ov s.top.is
  have hb : s.b ≤ 100000000 := by have := hf.2.1; omega
  have HE := Lib.hid (fun W (h : WlkAt W bw g A n c xs M mc base s) => exEmbed_any 15 W h hb (by omega))
  clear h
  go_enter Try.func42, Try.ntmps42
  go_wp2_with fail
  refine HT.out.mono ?_
  rintro e w1 ⟨rfl, hb1⟩
  have HK1 := Lib.hid (Kept.of_below hb1 [g])
  have HW1 := Lib.hid (HW.out.low hb1)
  clear hb1
  go_wp2_with fail
  refine (HE.out _ HW1.out).mono ?_
  rintro e w2 ⟨rfl, hA, hk⟩
  have HA := Lib.hid hA
  have HK := Lib.hid (HK1.out.trans hk)
  clear hA hk
  go_wp2
  refine bodyPost_ret (v := .tuple #[.int .i64 s.top.lv, .int .i64 9]) (by simp [results, go_sem]) rfl ?_
  exact stepAns_of s.top.lv 9 _ (by simp [stepA, outX, leftC]) (by simp [stepA, stepB, embR, embO]) rfl HA.out HK.out
set_option maxRecDepth 100000 in
set_option maxHeartbeats 4000000 in
theorem exStep_20 (k : Nat) (hx : xs[k]? = some 20) (hn : n ≤ 100000) (hnc : n ≤ c) (hfm : ∀ y ∈ matF xs, Fit y) (w : World) (h : WlkAt w bw g A n c xs M mc base s) (hf : Few s 100000) : Calls Try.prog 42 #[.pointer (some ⟨bw, 0, none⟩), .int .i64 (k : Int), .int .i64 20] w fun e w' => StepAns w w' g xs base s k 20 e := by
  have HW := Lib.hid h
  have HH := Lib.hid (exHere_any 20 w h)
  have hb : s.a ≤ 100000000 := by have := hf.1; omega
  have hc : s.c ≤ 100000000 := by have := hf.2.2; omega
  clear h
  go_enter Try.func42, Try.ntmps42
  go_wp2_with fail
  refine HH.out.mono ?_
  rintro e w1 ⟨rfl, hb1⟩
  have HK1 := Lib.hid (Kept.of_below hb1 [g])
  have hW1 := HW.out.low hb1
  have HW1 := Lib.hid hW1
  have c0 := hW1.c0
  have HR := Lib.hid (fun W (k' : Below w1.heap.size w1 W) => exRight_any k 20 W (hW1.low k') hx hn hnc hfm)
  have HI := Lib.hid (fun r W (k' : Below w1.heap.size w1 W) => stkIsolate_any g s r W (hW1.st.low k') hb hc)
  clear hb1 hW1
  go_upto_region 13 with fail
  first | (go_region_law (first
    | (go_simp; go_at_call 66; refine (HR.out _ (by first | exact Below.refl _ _ | exact (Below.refl _ _).drew)).mono ?_; rintro e w3 ⟨⟨r, rfl, hri⟩, h4⟩; have hb3 : Below w1.heap.size w1 w3 := (by first | exact below_self (Below.refl _ _).drew h4 | exact h4); have y0 := cell_below hb3 c0)
    | (go_simp; go_at_call 65; refine (HI.out r _ hb3).mono ?_; rintro e w5 ⟨rfl, hA5, hk5⟩)
    | fail)) | fail
  all_goals (
    rw [hri] at hA5
    have HA := Lib.hid hA5
    have HK := Lib.hid (HK1.out.trans ((Kept.of_below hb3 [g]).trans hk5))
    clear hA5 hk5 hb3 h4 y0 hri
    go_wp2)
  all_goals refine bodyPost_ret (v := .tuple #[.int .i64 s.top.lv, .int .i64 (givS s 20)]) (by simp [results, go_sem]) rfl ?_
  all_goals exact stepAns_of s.top.lv (givS s 20) _ (by simp [stepA, outX, leftC]) (by unfold stepA stepB; simp [opB]) rfl HA.out HK.out
set_option maxRecDepth 100000 in
set_option maxHeartbeats 4000000 in
theorem exStep_19 (k : Nat) (hx : xs[k]? = some 19) (hn : n ≤ 100000) (hnc : n ≤ c) (hfm : ∀ y ∈ matF xs, Fit y) (w : World) (h : WlkAt w bw g A n c xs M mc base s) (hf : Few s 100000) : Calls Try.prog 42 #[.pointer (some ⟨bw, 0, none⟩), .int .i64 (k : Int), .int .i64 19] w fun e w' => StepAns w w' g xs base s k 19 e := by
  have HW := Lib.hid h
  have HH := Lib.hid (exHere_any 19 w h)
  have hb : s.a ≤ 100000000 := by have := hf.1; omega
  have hc : s.c ≤ 100000000 := by have := hf.2.2; omega
  clear h
  go_enter Try.func42, Try.ntmps42
  go_wp2_with fail
  refine HH.out.mono ?_
  rintro e w1 ⟨rfl, hb1⟩
  have HK1 := Lib.hid (Kept.of_below hb1 [g])
  have hW1 := HW.out.low hb1
  have HW1 := Lib.hid hW1
  have c0 := hW1.c0
  have HR := Lib.hid (fun W (k' : Below w1.heap.size w1 W) => exRight_any k 19 W (hW1.low k') hx hn hnc hfm)
  have HI := Lib.hid (fun r W (k' : Below w1.heap.size w1 W) => stkIsolate_any g s r W (hW1.st.low k') hb hc)
  clear hb1 hW1
  go_upto_region 13 with fail
  first | (go_region_law (first
    | (go_simp; go_at_call 66; refine (HR.out _ (by first | exact Below.refl _ _ | exact (Below.refl _ _).drew)).mono ?_; rintro e w3 ⟨⟨r, rfl, hri⟩, h4⟩; have hb3 : Below w1.heap.size w1 w3 := (by first | exact below_self (Below.refl _ _).drew h4 | exact h4); have y0 := cell_below hb3 c0)
    | (go_simp; go_at_call 65; refine (HI.out r _ hb3).mono ?_; rintro e w5 ⟨rfl, hA5, hk5⟩)
    | fail)) | fail
  all_goals (
    rw [hri] at hA5
    have HA := Lib.hid hA5
    have HK := Lib.hid (HK1.out.trans ((Kept.of_below hb3 [g]).trans hk5))
    clear hA5 hk5 hb3 h4 y0 hri
    go_wp2)
  all_goals refine bodyPost_ret (v := .tuple #[.int .i64 s.top.lv, .int .i64 (givS s 19)]) (by simp [results, go_sem]) rfl ?_
  all_goals exact stepAns_of s.top.lv (givS s 19) _ (by simp [stepA, outX, leftC]) (by unfold stepA stepB; simp [opB]) rfl HA.out HK.out
set_option maxRecDepth 100000 in
set_option maxHeartbeats 4000000 in
theorem exStep_21 (k : Nat) (hx : xs[k]? = some 21) (hn : n ≤ 100000) (hnc : n ≤ c) (hfm : ∀ y ∈ matF xs, Fit y) (w : World) (h : WlkAt w bw g A n c xs M mc base s) (hf : Few s 100000) : Calls Try.prog 42 #[.pointer (some ⟨bw, 0, none⟩), .int .i64 (k : Int), .int .i64 21] w fun e w' => StepAns w w' g xs base s k 21 e := by
  have HW := Lib.hid h
  have HH := Lib.hid (exHere_any 21 w h)
  have hb : s.a ≤ 100000000 := by have := hf.1; omega
  have hc : s.c ≤ 100000000 := by have := hf.2.2; omega
  clear h
  go_enter Try.func42, Try.ntmps42
  go_wp2_with fail
  refine HH.out.mono ?_
  rintro e w1 ⟨rfl, hb1⟩
  have HK1 := Lib.hid (Kept.of_below hb1 [g])
  have hW1 := HW.out.low hb1
  have HW1 := Lib.hid hW1
  have c0 := hW1.c0
  have HR := Lib.hid (fun W (k' : Below w1.heap.size w1 W) => exRight_any k 21 W (hW1.low k') hx hn hnc hfm)
  have HI := Lib.hid (fun r W (k' : Below w1.heap.size w1 W) => stkIsolate_any g s r W (hW1.st.low k') hb hc)
  clear hb1 hW1
  go_upto_region 13 with fail
  first | (go_region_law (first
    | (go_simp; go_at_call 66; refine (HR.out _ (by first | exact Below.refl _ _ | exact (Below.refl _ _).drew)).mono ?_; rintro e w3 ⟨⟨r, rfl, hri⟩, h4⟩; have hb3 : Below w1.heap.size w1 w3 := (by first | exact below_self (Below.refl _ _).drew h4 | exact h4); have y0 := cell_below hb3 c0)
    | (go_simp; go_at_call 65; refine (HI.out r _ hb3).mono ?_; rintro e w5 ⟨rfl, hA5, hk5⟩)
    | fail)) | fail
  all_goals (
    rw [hri] at hA5
    have HA := Lib.hid hA5
    have HK := Lib.hid (HK1.out.trans ((Kept.of_below hb3 [g]).trans hk5))
    clear hA5 hk5 hb3 h4 y0 hri
    go_wp2)
  all_goals refine bodyPost_ret (v := .tuple #[.int .i64 s.top.lv, .int .i64 (givS s 21)]) (by simp [results, go_sem]) rfl ?_
  all_goals exact stepAns_of s.top.lv (givS s 21) _ (by simp [stepA, outX, leftC]) (by unfold stepA stepB; simp [opB]) rfl HA.out HK.out
set_option maxRecDepth 100000 in
set_option maxHeartbeats 4000000 in
theorem exStep_22 (k : Nat) (w : World) (h : WlkAt w bw g A n c xs M mc base s) (hf : Few s 100000) : Calls Try.prog 42 #[.pointer (some ⟨bw, 0, none⟩), .int .i64 (k : Int), .int .i64 22] w fun e w' => StepAns w w' g xs base s k 22 e := by
  have HW := Lib.hid h
  have c0 := h.c0
  have hb : s.a ≤ 100000000 := by have := hf.1; omega
  have hc : s.c ≤ 100000000 := by have := hf.2.2; omega
  have HE := Lib.hid (stkEndI_any g s w h.st hb hc)
  clear h
  go_enter Try.func42, Try.ntmps42
  go_wp2_with fail
  refine HE.out.mono ?_
  rintro e w1 ⟨rfl, hA, hk⟩
  have HW1 := Lib.hid (HW.out.kept hk hA)
  have HK1 := Lib.hid hk
  clear hA hk
  go_wp2_with fail
  refine (exHere_any 22 w1 HW1.out).mono ?_
  rintro e w2 ⟨rfl, hb2⟩
  have HA := Lib.hid (HW1.out.low hb2).st
  have HK := Lib.hid (HK1.out.trans (Kept.of_below hb2 [g]))
  clear hb2
  go_wp2
  refine bodyPost_ret (v := .tuple #[.int .i64 (endIS s).top.lv, .int .i64 (givS (endIS s) 22)]) (by simp [results, go_sem]) rfl ?_
  exact stepAns_of (endIS s).top.lv (givS (endIS s) 22) _ (by simp [stepA, outX, leftC]) (by unfold stepA stepB; simp [opB]) rfl HA.out HK.out
set_option maxRecDepth 100000 in
set_option maxHeartbeats 4000000 in
theorem exStep_18 (k : Nat) (w : World) (h : WlkAt w bw g A n c xs M mc base s) (hf : Few s 100000) : Calls Try.prog 42 #[.pointer (some ⟨bw, 0, none⟩), .int .i64 (k : Int), .int .i64 18] w fun e w' => StepAns w w' g xs base s k 18 e := by
  have HW := Lib.hid h
  have c0 := h.c0
  have HT := Lib.hid (stkTop_any g s w h.st)
  unfold entV at HT
  have fd := ent_lv s.top.lv s.top.ov s.top.is
  have hb : s.b ≤ 100000000 := by have := hf.2.1; omega
  clear h
  go_enter Try.func42, Try.ntmps42
  go_wp2_with fail
  refine HT.out.mono ?_
  rintro e w1 ⟨rfl, hb1⟩
  have HK1 := Lib.hid (Kept.of_below hb1 [g])
  have hW1 := HW.out.low hb1
  have c01 := hW1.c0
  have HW1 := Lib.hid hW1
  clear hb1 hW1
  go_wp2_with fail
  refine (stkEndE_any g s w1 HW1.out.st hb).mono ?_
  rintro e w2 ⟨rfl, hA, hk⟩
  have HA := Lib.hid hA
  have HK := Lib.hid (HK1.out.trans hk)
  clear hA hk
  go_wp2
  refine bodyPost_ret (v := .tuple #[.int .i64 s.top.lv, .int .i64 9]) (by simp [results, go_sem]) rfl ?_
  exact stepAns_of s.top.lv 9 _ (by simp [stepA, outX, leftC]) (by unfold stepA stepB; simp) rfl HA.out HK.out
set_option maxRecDepth 100000 in
set_option maxHeartbeats 4000000 in
theorem exStep_10 (k : Nat) (w : World) (h : WlkAt w bw g A n c xs M mc base s) : Calls Try.prog 42 #[.pointer (some ⟨bw, 0, none⟩), .int .i64 (k : Int), .int .i64 10] w fun e w' => StepAns w w' g xs base s k 10 e := by
  have HW := Lib.hid h
  have c1 := h.c1
  clear h
  go_enter Try.func42, Try.ntmps42
  go_wp2
  refine bodyPost_ret (v := .tuple #[.int .i64 base, .int .i64 10]) (by simp [results, go_sem]) rfl ?_
  exact stepAns_of base 10 _ (by simp [outX]) (by unfold stepA stepB; simp [opB]) rfl HW.out.st (Kept.refl _ _)
set_option maxRecDepth 100000 in
set_option maxHeartbeats 4000000 in
theorem exStep_9 (k : Nat) (w : World) (h : WlkAt w bw g A n c xs M mc base s) : Calls Try.prog 42 #[.pointer (some ⟨bw, 0, none⟩), .int .i64 (k : Int), .int .i64 9] w fun e w' => StepAns w w' g xs base s k 9 e := by
  have HW := Lib.hid h
  have c0 := h.c0
  have HT := Lib.hid (stkTop_any g s w h.st)
  unfold entV at HT
  have fd := ent_lv s.top.lv s.top.ov s.top.is
  clear h
  go_enter Try.func42, Try.ntmps42
  go_wp2_with fail
  refine HT.out.mono ?_
  rintro e w1 ⟨rfl, hb1⟩
  have HA := Lib.hid (HW.out.low hb1).st
  have HK := Lib.hid (Kept.of_below hb1 [g])
  clear hb1
  go_wp2
  refine bodyPost_ret (v := .tuple #[.int .i64 s.top.lv, .int .i64 9]) (by simp [results, go_sem]) rfl ?_
  exact stepAns_of s.top.lv 9 _ (by simp [stepA, outX, leftC]) (by unfold stepA stepB; simp [opB]) rfl HA.out HK.out
set_option maxRecDepth 100000 in
set_option maxHeartbeats 4000000 in
theorem exStep_other (k : Nat) (x : Int) (hx : ¬ x = 16 ∧ ¬ x = 14 ∧ ¬ x = 17 ∧ ¬ x = 15 ∧ ¬ x = 20 ∧ ¬ x = 19 ∧ ¬ x = 21 ∧ ¬ x = 22 ∧ ¬ x = 18 ∧ ¬ x = 10 ∧ ¬ x = 9) (w : World) (h : WlkAt w bw g A n c xs M mc base s) : Calls Try.prog 42 #[.pointer (some ⟨bw, 0, none⟩), .int .i64 (k : Int), .int .i64 x] w fun e w' => StepAns w w' g xs base s k x e := by
  have HW := Lib.hid h
  have HH := Lib.hid (exHere_any x w h)
  clear h
  have g16 : (x == 16) = false := by simp; omega
  have g14 : (x == 14) = false := by simp; omega
  have g17 : (x == 17) = false := by simp; omega
  have g15 : (x == 15) = false := by simp; omega
  have g20 : (x == 20) = false := by simp; omega
  have g19 : (x == 19) = false := by simp; omega
  have g21 : (x == 21) = false := by simp; omega
  have g22 : (x == 22) = false := by simp; omega
  have g18 : (x == 18) = false := by simp; omega
  have g10 : (x == 10) = false := by simp; omega
  have g9 : (x == 9) = false := by simp; omega
  have HX := Lib.hid hx
  clear hx
  go_enter Try.func42, Try.ntmps42
  go_wp2_with fail
  refine HH.out.mono ?_
  rintro e w1 ⟨rfl, hb1⟩
  have HA := Lib.hid (HW.out.low hb1).st
  have HK := Lib.hid (Kept.of_below hb1 [g])
  clear hb1
  go_wp2
  refine bodyPost_ret (v := .tuple #[.int .i64 s.top.lv, .int .i64 (givS s x)]) (by simp [results, go_sem]) rfl ?_
  exact stepAns_of s.top.lv (givS s x) _ (by have hx := HX.out; unfold stepA; rw [if_neg (show ¬ x = 22 by omega)]; unfold outX; rw [if_neg (show ¬ x = 10 by omega), if_neg (by unfold leftC; simp; omega)]) (by have hx := HX.out; unfold stepA stepB; rw [if_neg (show ¬ x = 22 by omega), if_neg (by omega), if_neg (by omega), if_neg (by omega), if_neg (by omega), if_neg (by omega), if_neg (by rw [opB_iff]; omega)]) rfl HA.out HK.out
/-- A step, whatever the class. -/
theorem exStep_any (k : Nat) (x : Int) (w : World) (h : WlkAt w bw g A n c xs M mc base s) (hf : Few s 100000) (hx : xs[k]? = some x) (hn : n ≤ 100000) (hnc : n ≤ c) (hfm : ∀ y ∈ matF xs, Fit y) : Calls Try.prog 42 #[.pointer (some ⟨bw, 0, none⟩), .int .i64 (k : Int), .int .i64 x] w fun e w' => StepAns w w' g xs base s k x e := by
  by_cases h16 : x = 16
  · subst h16; exact exStep_16 k w h hf
  by_cases h14 : x = 14
  · subst h14; exact exStep_14 k w h hf
  by_cases h17 : x = 17
  · subst h17; exact exStep_17 k w h hf
  by_cases h15 : x = 15
  · subst h15; exact exStep_15 k w h hf
  by_cases h20 : x = 20
  · subst h20; exact exStep_20 k hx hn hnc hfm w h hf
  by_cases h19 : x = 19
  · subst h19; exact exStep_19 k hx hn hnc hfm w h hf
  by_cases h21 : x = 21
  · subst h21; exact exStep_21 k hx hn hnc hfm w h hf
  by_cases h22 : x = 22
  · subst h22; exact exStep_22 k w h hf
  by_cases h18 : x = 18
  · subst h18; exact exStep_18 k w h hf
  by_cases h10 : x = 10
  · subst h10; exact exStep_10 k w h
  by_cases h9 : x = 9
  · subst h9; exact exStep_9 k w h
  exact exStep_other k x ⟨h16, h14, h17, h15, h20, h19, h21, h22, h18, h10, h9⟩ w h
end
end Go.Proofs.Ytnmpoipakmjbpaa
/- explicit: Levels, walked. -/
namespace Go.Proofs.Ytnmpoipakmjbpaa
open Go.RowKit

/-- Both answers in memory. -/
structure TwoAt (w0 w : World) (ga gb : Nat) (la lb : List Int) : Prop where
  a : w.heap[ga]? = some (.cells (intsZ la).toArray 3 (0, 0))
  b : w.heap[gb]? = some (.cells (intsZ lb).toArray 3 (0, 0))
  ne : ga ≠ gb
  la : w0.heap.size ≤ ga
  lb : w0.heap.size ≤ gb
section
variable {w0 w w' : World} {ga gb : Nat} {la lb : List Int}
theorem TwoAt.kept {S : List Nat} (h : TwoAt w0 w ga gb la lb) (hk : Kept w w' S) (hs : ∀ x ∈ S, x ≠ ga ∧ x ≠ gb) : TwoAt w0 w' ga gb la lb :=
  ⟨hk.heap h.a (fun hm => (hs _ hm).1 rfl), hk.heap h.b (fun hm => (hs _ hm).2 rfl), h.ne, h.la, h.lb⟩
theorem TwoAt.setA (h : TwoAt w0 w ga gb la lb) (i : Nat) (x : Int) : TwoAt w0 (w.setCell ⟨ga, i, none⟩ (.int .i64 x)) ga gb (la.set i x) lb :=
  ⟨hp_row h.a i x, by rw [hp_far (fun e => h.ne e.symm)]; exact h.b, h.ne, h.la, h.lb⟩
theorem TwoAt.setB (h : TwoAt w0 w ga gb la lb) (i : Nat) (x : Int) : TwoAt w0 (w.setCell ⟨gb, i, none⟩ (.int .i64 x)) ga gb la (lb.set i x) :=
  ⟨by rw [hp_far h.ne]; exact h.a, hp_row h.b i x, h.ne, h.la, h.lb⟩
theorem rd_row {g n : Nat} {l : List Int} {t : TypeId} (h : w.heap[g]? = some (.cells (intsZ l).toArray t (0, 0))) (hl : l.length = n) : Rd w 1 (some ⟨g, 0, none⟩) n (l.map (Value.int .i64)) := by
  refine ⟨by simp [hl], fun _ => ⟨_, rfl, hp_lt h, fun j u hj => ?_⟩⟩
  rw [addNew]
  exact hp_cell h (by rw [List.getElem?_toArray]; exact hj)
end
theorem two_heap (w : World) (o0 o1 : Obj) : ((w.alloc o0).alloc o1).drew.heap[w.heap.size]? = some o0 ∧ ((w.alloc o0).alloc o1).drew.heap[w.heap.size + 1]? = some o1 ∧ Below w.heap.size w ((w.alloc o0).alloc o1).drew := by
  have h1 := heap_alloc_new (w.alloc o0) o1
  simp only [World.size_alloc] at h1
  simp only [heap_drew]
  refine ⟨?_, h1, (((Below.refl _ _).alloc (Nat.le_refl _) _).alloc (by simp) _).drew⟩
  rw [heap_alloc_old (h := by simp)]
  exact heap_alloc_new w _
/-- Writes to the answers' blocks leave who goes through. -/
theorem WlkAt.far {W w w' : World} {bw g n c mc ga gb : Nat} {A M : Option Addr} {xs : List Int} {base : Int} {s : Stk} (h : WlkAt w bw g A n c xs M mc base s) (hk : Kept w w' [ga, gb]) (h1 : ∀ x ∈ [g], x ≠ ga ∧ x ≠ gb) (h2 : bw ≠ ga ∧ bw ≠ gb)
    (hA : ∀ ad, 0 < n → A = some ad → ad.block < W.heap.size) (hM : ∀ ad, 0 < n → M = some ad → ad.block < W.heap.size) (hl : W.heap.size ≤ ga ∧ W.heap.size ≤ gb) : WlkAt w' bw g A n c xs M mc base s := by
  have hg := h1 g (by simp)
  have rdn : ∀ (B : Option Addr) (ys : List Int), (∀ ad, 0 < n → B = some ad → ad.block < W.heap.size) → RdN w g B n ys → RdN w' g B n ys := fun B ys hB hr => by
    refine ⟨⟨hr.1.1, fun hn => ?_⟩, hr.2⟩
    obtain ⟨ad, rfl, hb, hc⟩ := hr.1.2 hn
    have hbl := hB ad hn rfl
    refine ⟨ad, rfl, Nat.lt_of_lt_of_le hb hk.size, fun j u hu => ?_⟩
    have h1 := hc j u hu
    unfold World.cell? at h1 ⊢
    rw [show w'.heap[(ad.add j).block]? = w.heap[(ad.add j).block]? from by rw [blockAdd]; exact hk.block _ hb (by simp; omega)]
    exact h1
  exact ⟨hk.heap h.hw (by simp; exact h2), h.st.keep hk (by simp; exact hg), h.ne, rdn A xs hA h.cl, rdn M (matF xs) hM h.mt⟩
set_option maxRecDepth 100000 in
set_option maxHeartbeats 4000000 in
theorem exLevels_any (A : Option Addr) (n c : Nat) (xs : List Int) (level : Int) (w : World) (hr : Rd w 1 A n (xs.map (Value.int .i64))) (hn : n ≤ 100000) (hnc : n ≤ c) : Calls Try.prog 18 #[.slice A n c, .int .i64 level] w fun e w' => (∃ ga gb, e = .returned (.tuple #[.slice (some ⟨ga, 0, none⟩) n n, .slice (some ⟨gb, 0, none⟩) n n]) ∧ Rd w' 1 (some ⟨ga, 0, none⟩) n ((lvL xs (baseL level) n).map (Value.int .i64)) ∧ Rd w' 1 (some ⟨gb, 0, none⟩) n ((clL xs (baseL level) n).map (Value.int .i64))) ∧ Below w.heap.size w w' := by
  have hlen : xs.length = n := by simpa using hr.len1
  have HL := Lib.hid hlen
  have HR := Lib.hid hr
  have HFM : Hid (∀ y ∈ matF xs, Fit y) := Lib.hid (fun y hy => by have := mat_in hy; unfold Fit; omega)
  obtain ⟨base, hbase⟩ : ∃ base, baseL level = base := ⟨_, rfl⟩
  have HBS := Lib.hid (base_in level)
  rw [hbase] at HBS ⊢
  have hmm : min (max level 0) 1 = base := hbase
  obtain ⟨l0, hl0⟩ : ∃ l0, (if level < 0 then 0 else level) = l0 := ⟨_, rfl⟩
  have hmi : (if 1 < l0 then 1 else l0) = base := by
    rw [← hmm, ← hl0]
    repeat' split
    all_goals omega
  obtain ⟨g, hg⟩ : ∃ g, w.heap.size = g := ⟨_, rfl⟩
  have HG := Lib.hid hg
  have HN := Lib.hid (stkNew_any base w)
  have hns : newS base = stE xs base 0 := rfl
  rw [hg, hns] at HN
  have HBA := Lib.hid hbase
  rw [hg]
  have hmk := mk_intsZ n (by omega)
  clear hr hlen hg hns hbase hmm
  go_enter Try.func18, Try.ntmps18
  go_upto_region 2 with fail
  go_wp2_with fail
  refine HN.out.mono ?_
  rintro e w1 ⟨rfl, hA1, hb1⟩
  have HA1 := Lib.hid hA1
  have HB1 := Lib.hid hb1
  have HR1 := Lib.hid (HR.out.below (show Below w.heap.size w w1 by have := HG.out; subst this; exact hb1))
  clear hA1 hb1
  go_wp2_with fail
  refine (prMatches_any A n c xs w1 HR1.out hn).mono ?_
  rintro e w2 ⟨v, rfl, hown, hb2⟩
  obtain ⟨M, mc, rfl, hmc⟩ := own_form hown
  have HA2 := Lib.hid (HA1.out.low hb2)
  have HB2 : Hid (Below g w w2) := Lib.hid (by have := HG.out; subst this; exact below_self HB1.out hb2)
  have HM2 : Hid (RdN w2 g M n (matF xs)) := Lib.hid ⟨Rd.of_own hown, fun hn0 ad e => by
    subst e
    have := (hown.lt ad.block rfl).1
    have := HA1.out.lt
    omega⟩
  have HC2 : Hid (RdN w2 g A n xs) := Lib.hid ⟨HR1.out.below hb2, fun hn0 ad e => by
    obtain ⟨ad', e', hb, _⟩ := HR.out.2 hn0
    rw [e] at e'
    obtain rfl := Option.some.inj e'
    have := HG.out
    omega⟩
  obtain ⟨W, hW⟩ : ∃ W, w2.alloc (.cells #[.pointer (some ⟨g, 0, none⟩), .int .i64 base, .slice A n c, .slice M n mc] 69) = W := ⟨_, rfl⟩
  have hbn := below_new w2 (.cells #[.pointer (some ⟨g, 0, none⟩), .int .i64 base, .slice A n c, .slice M n mc] 69)
  have hh := heap_alloc_new w2 (.cells #[.pointer (some ⟨g, 0, none⟩), .int .i64 base, .slice A n c, .slice M n mc] 69)
  rw [hW] at hbn hh
  obtain ⟨bw, hbw⟩ : ∃ bw, w2.heap.size = bw := ⟨_, rfl⟩
  have hgw := HA2.out.lt
  rw [hbw] at hh hgw
  have HW : Hid (WlkAt W bw g A n c xs M mc base (stE xs base 0)) := Lib.hid ⟨hh, HA2.out.low hbn, by omega, HC2.out.kept (Kept.of_below hbn _), HM2.out.kept (Kept.of_below hbn _)⟩
  have HBW : Hid (Below g w W) := Lib.hid (by have := HG.out; subst this; exact below_self HB2.out hbn)
  clear hown hb2 hbn hh hgw hmi hl0
  go_upto_region 3 with fail
  go_cut [7, 8] (fun a b wx => ∃ ga gb, a = .slice (some ⟨ga, 0, none⟩) n n ∧ b = .slice (some ⟨gb, 0, none⟩) n n ∧ TwoAt W wx ga gb (List.replicate n 0) (List.replicate n 0) ∧ Below W.heap.size W wx)
  case first =>
    go_wp2_with fail
    go_region
    all_goals (
      go_wp2_with fail
      go_meet)
    all_goals first
      | exact ⟨_, _, rfl, rfl, ⟨(two_heap W _ _).1, (two_heap W _ _).2.1, by omega, by omega, by omega⟩, (two_heap W _ _).2.2⟩
      | exact ⟨_, _, rfl, rfl, ⟨(two_heap W _ _).2.1, (two_heap W _ _).1, by omega, by omega, by omega⟩, (two_heap W _ _).2.2⟩
  case rest =>
    obtain ⟨ga, gb, rfl, rfl, hT0, hbc⟩ := hcut
    clear hmk
    have HT0 : Hid (TwoAt W wc ga gb (lvZ xs base 0 n) (clZ xs base 0 n)) := Lib.hid (by rw [lvZ_zero, clZ_zero]; exact hT0)
    have HW0 := Lib.hid (HW.out.low hbc)
    have HB0 : Hid (Below g w wc) := Lib.hid (by have := HG.out; subst this; exact below_self HBW.out hbc)
    have hgW := HW.out.st.lt
    have hga : ga ≠ g := by have := hT0.la; omega
    have hgb : gb ≠ g := by have := hT0.lb; omega
    have HGA := Lib.hid (show ∀ x ∈ [g], x ≠ ga ∧ x ≠ gb by intro x hx; simp at hx; subst hx; exact ⟨fun e => hga e.symm, fun e => hgb e.symm⟩)
    have hwb : bw < W.heap.size := hp_lt HW.out.hw
    have hba : bw ≠ ga := by have := hT0.la; omega
    have hbb : bw ≠ gb := by have := hT0.lb; omega
    have HNB := Lib.hid (And.intro hba hbb)
    have HAR : Hid (∀ ad, 0 < n → A = some ad → ad.block < W.heap.size) := Lib.hid (fun ad hn0 e => by
      obtain ⟨ad', e', hb, _⟩ := HW.out.cl.1.2 hn0
      rw [e] at e'
      obtain rfl := Option.some.inj e'
      exact hb)
    have HMR : Hid (∀ ad, 0 < n → M = some ad → ad.block < W.heap.size) := Lib.hid (fun ad hn0 e => by
      obtain ⟨ad', e', hb, _⟩ := HW.out.mt.1.2 hn0
      rw [e] at e'
      obtain rfl := Option.some.inj e'
      exact hb)
    have HLA := Lib.hid (And.intro hT0.la hT0.lb)
    clear hT0 hbc hgW hwb hba hbb
    go_wp2_with fail
    go_loopw [30] (fun i wr => ∃ k : Nat, k ≤ n ∧ i = .int .i64 (k : Int) ∧ WlkAt wr bw g A n c xs M mc base (stE xs base k) ∧ TwoAt W wr ga gb (lvZ xs base k n) (clZ xs base k n) ∧ Below g w wr) (fun i _ => n - (intOf i).toNat)
    case atStart => exact ⟨0, Nat.zero_le _, rfl, HW0.out, HT0.out, HB0.out⟩
    case round =>
      obtain ⟨k, hk, rfl, hWk, hTk, hBk⟩ := hrel
      have HWk := Lib.hid hWk
      have HTk := Lib.hid hTk
      have HBk := Lib.hid hBk
      by_cases hlt : k < n
      · obtain ⟨x, hx⟩ : ∃ x, xs[k]? = some x := ⟨_, List.getElem?_eq_getElem (by rw [HL.out]; exact hlt)⟩
        have hxd : xs.getD k 0 = x := by rw [List.getD_eq_getElem?_getD, hx]; rfl
        obtain ⟨ad, rfl, hab, hcell⟩ := hWk.cl.1.at_ hlt
        have cx := hcell _ (by rw [List.getElem?_map, hx]; rfl)
        have HS := Lib.hid (exStep_any k x wr hWk ((few_st xs base k).up (by omega)) hx hn hnc HFM.out)
        have hkn : (k : Int) < (n : Int) := by omega
        have hk0 : (0 : Int) ≤ (k : Int) := by omega
        have HX := Lib.hid hxd
        clear hcell hx hxd hWk hTk hBk
        go_wp2_with fail
        refine HS.out.mono ?_
        rintro e w3 ⟨rfl, hA3, hk3⟩
        have hwk3 := HWk.out.kept hk3 hA3
        have HE : Hid (stepB xs k x (stepA (stE xs base k) x) = stE xs base (k + 1)) := Lib.hid (by rw [stE, HX.out])
        rw [HE.out] at hwk3
        have HEX : Hid (outX base (stepA (stE xs base k) x) x = exA xs base k) := Lib.hid (by unfold exA; rw [HX.out])
        rw [HEX.out]
        have hT3 := HTk.out.kept hk3 HGA.out
        have HB3 : Hid (Below g w w3) := Lib.hid (by have := HG.out; subst this; exact hk3.lower HBk.out HBk.out.size (by simp))
        have hT4 := hT3.setA k (exA xs base k).1
        rw [lvZ_step hlt] at hT4
        have hT5 := hT4.setB k (exA xs base k).2
        rw [clZ_step hlt] at hT5
        obtain ⟨ua, ca⟩ : ∃ u, w3.cell? ⟨ga, k, none⟩ = some u := ⟨_, hp_cell hT3.a (Array.getElem?_eq_getElem (by simp [intsZ, lvZ_len hk, hlt]))⟩
        have fa := hp_froz hT3.a k
        obtain ⟨ub, cb⟩ : ∃ u, w3.cell? ⟨gb, k, none⟩ = some u := ⟨_, hp_cell hT3.b (Array.getElem?_eq_getElem (by simp [intsZ, clZ_len hk, hlt]))⟩
        have fb := hp_froz hT3.b k
        have hne := hT3.ne
        have HT5 := Lib.hid hT5
        have HK5 : Hid (Kept w3 ((w3.setCell ⟨ga, k, none⟩ (.int .i64 (exA xs base k).1)).setCell ⟨gb, k, none⟩ (.int .i64 (exA xs base k).2)) [ga, gb]) := Lib.hid (((Kept.refl _ _).set (.inl (by simp)) k _).set (.inl (by simp)) k _)
        have HW3 := Lib.hid hwk3
        obtain ⟨p, hp⟩ : ∃ p, (exA xs base k).1 = p := ⟨_, rfl⟩
        obtain ⟨q, hq⟩ : ∃ q, (exA xs base k).2 = q := ⟨_, rfl⟩
        rw [hp, hq] at HT5 HK5
        rw [hp, hq]
        clear hA3 hk3 hwk3 hT3 hT4 hT5 hp hq
        go_wp2_with fail
        go_roundw
        case rel => exact ⟨k + 1, by omega, by go_num, HW3.out.far HK5.out HGA.out HNB.out HAR.out HMR.out HLA.out, HT5.out, by have := HG.out; subst this; exact HK5.out.lower HB3.out HB3.out.size (by have := HLA.out; have := HBW.out.size; simp; omega)⟩
        case measure => simp [intOf]; omega
      · obtain rfl : k = n := by omega
        have HRA := Lib.hid (rd_row hTk.a (lvZ_len (Nat.le_refl _)))
        have HRB := Lib.hid (rd_row hTk.b (clZ_len (Nat.le_refl _)))
        rw [lvZ_end] at HRA
        rw [clZ_end] at HRB
        clear hWk hTk hBk
        go_wp2
        exact bodyPost_ret (v := .tuple #[.slice (some ⟨ga, 0, none⟩) k k, .slice (some ⟨gb, 0, none⟩) k k]) (by simp [results, go_sem]) rfl ⟨⟨ga, gb, rfl, HRA.out, HRB.out⟩, HBk.out⟩
end Go.Proofs.Ytnmpoipakmjbpaa
/- naskhlaw23: SeqOnce. -/
namespace Go.Proofs.Ytnmpoipakmjbpaa
open Go.RowKit

theorem encN_at {P : List Nat} {k x : Nat} (h : P[k]? = some x) : ((encN P).map (Value.int .i64))[k]? = some (.int .i64 (x : Int)) := by
  unfold encN
  rw [List.getElem?_map, List.getElem?_map, h]
  rfl
theorem Rd.farSet {w : World} {size m g i : Nat} {A : Option Addr} {xs : List Value} {u : Value} (h : Rd w size A m xs) (hne : 0 < m → ∀ ad, A = some ad → ad.block ≠ g) : Rd (w.setCell ⟨g, i, none⟩ u) size A m xs :=
  ⟨h.1, fun h0 => by
    obtain ⟨ad, e, hlt, hc⟩ := h.2 h0
    exact ⟨ad, e, by simpa [World.setCell] using hlt, fun j v hv => (cellHeap (by rw [blockAdd]; exact hp_far (hne h0 ad e) _ _)).trans (hc j v hv)⟩⟩
/-- What is counted, and the sequences. -/
structure OnAt (w1 wr : World) (gs n : Nat) (T : List Nat) (a : Option Addr) (m : Nat) (O : List SqO) : Prop where
  row : wr.ownsRow gs 3 1 (.slice (some ⟨gs, 0, none⟩) n n) n ((cntL T n).map (Value.int .i64))
  ro : RO wr a m O
  low : Below w1.heap.size w1 wr
theorem OnAt.lower {w1 wr w' : World} {gs n : Nat} {T : List Nat} {a : Option Addr} {m : Nat} {O : List SqO} (h : OnAt w1 wr gs n T a m O) (hb : Below wr.heap.size wr w') : OnAt w1 w' gs n T a m O :=
  ⟨own_below h.row hb, h.ro.low hb, h.low.trans (hb.mono h.low.size)⟩
theorem OnAt.put {w1 wr : World} {gs n B : Nat} {T : List Nat} {a : Option Addr} {m : Nat} {O : List SqO} (h : OnAt w1 wr gs n T a m O) (hl : RoLow B a m O) (hg : gs < B) (hw : w1.heap.size ≤ gs) (x : Nat) : OnAt w1 (wr.setCell ⟨gs, x, none⟩ (.int .i64 (((T.count x : Nat) : Int) + 1))) gs n (T ++ [x]) a m O := by
  refine ⟨?_, ⟨h.ro.rd.farSet (fun h0 ad e => by have := hl.top h0 ad e; omega), fun o ho => ?_⟩, h.low.setCell (p := ⟨gs, x, none⟩) hw _⟩
  · have := (h.row.stored x (.int .i64 (((T.count x : Nat) : Int) + 1))).1
    rwa [← List.map_set, cntL_put] at this
  · obtain ⟨b, k, e, hr⟩ := h.ro.rows o ho
    refine ⟨b, k, e, hr.farSet (fun h0 ad e2 => ?_)⟩
    subst e2
    have := hl.rows o ho ad _ _ e
    omega
set_option maxRecDepth 100000 in
set_option maxHeartbeats 600000 in
theorem seqOnce_any (A : Option Addr) (n c : Nat) (xs : List Int) (level : Int) (w : World) (hr : Rd w 1 A n (xs.map (Value.int .i64))) (hnc : n ≤ c) (hn : n ≤ maxLen) :
    Calls Try.prog 5 #[.slice A n c, .int .i64 level] w fun e w' => e = .returned (.bool true) ∧ Below w.heap.size w w' := by
  unfold maxLen at hn
  by_cases h1 : n ≤ 200
  · have hlen : xs.length = n := by simpa using hr.len1
    have HR := Lib.hid hr
    obtain ⟨base, hbase⟩ : ∃ base, baseL level = base := ⟨_, rfl⟩
    have hmm : min (max level 0) 1 = base := hbase
    have hbb : baseL base = base := by rw [← hbase]; unfold baseL; omega
    have HEX := Lib.hid (exLevels_any A n c xs base w hr (by omega) hnc)
    rw [hbb] at HEX
    have hiso : ∀ la : Nat, opB (xs.getD la 0) = true → (matF xs).getD la 0 < xs.length → (lvL xs base n).getD ((matF xs).getD la 0).toNat 0 = (lvL xs base n).getD la 0 := fun la ho hm => by
      have := iso_level xs base la ho hm
      rwa [hlen] at this
    obtain ⟨la, hla⟩ : ∃ la, lvL xs base n = la := ⟨_, rfl⟩
    obtain ⟨lb, hlb⟩ : ∃ lb, clL xs base n = lb := ⟨_, rfl⟩
    rw [hla, hlb] at HEX
    rw [hla] at hiso
    have hlal : la.length = n := by rw [← hla, lvL_len]
    have hlbl : lb.length = n := by rw [← hlb, clL_len]
    have HLA := Lib.hid hlal
    have HLB := Lib.hid hlbl
    have HLV := Lib.hid (fun e (he : e ∈ seqsG la lb xs base) => seq_level (n := n) hlal hlbl hlen hiso he)
    have HON := Lib.hid (all_once (level := base) (n := n) hlal hlbl hlen)
    have HMANY := Lib.hid (show (seqsG la lb xs base).length ≤ 200 by have := seqsG_many (lv := la) (cl := lb) (bf := xs) (level := base); omega)
    have HLONG := Lib.hid (fun e (he : e ∈ seqsG la lb xs base) => (show e.at_.length ≤ 200 by have := seqsG_len he; omega))
    obtain ⟨L, hL⟩ : ∃ L, seqsG la lb xs base = L := ⟨_, rfl⟩
    rw [hL] at HLV HON HMANY HLONG
    have HLE := Lib.hid hL
    obtain ⟨l0, hl0⟩ : ∃ l0, (if level < 0 then 0 else level) = l0 := ⟨_, rfl⟩
    have hl1 : (if 1 < l0 then 1 else l0) = base := by rw [← hmm, ← hl0]; split <;> split <;> omega
    clear hr hlen hbase hmm hbb hla hlb hiso hlal hlbl hL
    go_enter Try.func5, Try.ntmps5
    go_wp2_with fail
    refine HEX.out.mono ?_
    rintro e w1 ⟨⟨ga, gb, rfl, hra, hrb⟩, hb1⟩
    have HRA := Lib.hid hra
    have HRB := Lib.hid hrb
    have HB1 := Lib.hid hb1
    clear hra hrb hb1 hl0 hl1
    go_wp2_with (first
      | (refine wpList_mkFull rfl _ _ _ rfl (base := w1.heap.size) (e := 3) (bytes := 8) (z := .int .i64 0) Try.underlying22 (by kernel_rfl) rfl (n : Int) (n : Int) n rfl rfl rfl rfl (by omega) (by unfold maxLen; omega) (Nat.le_refl _) ?_; intro w2 hown2 hg2)
      | fail)
    have hb2 := below_make hg2
    have HS2 : Hid (w2.ownsRow w1.heap.size 3 1 (.slice (some ⟨w1.heap.size, 0, none⟩) n n) n ((cntL [] n).map (Value.int .i64))) := Lib.hid (by
      rw [cntL_nil, List.map_replicate]
      exact hown2)
    have HB12 := Lib.hid hb2
    have HB2 := Lib.hid (below_self HB1.out hb2)
    have HRA2 := Lib.hid (HRA.out.below hb2)
    have HRB2 := Lib.hid (HRB.out.below hb2)
    obtain ⟨gs, hgs⟩ : ∃ gs, w1.heap.size = gs := ⟨_, rfl⟩
    rw [hgs] at HS2 ⊢
    have HGS := Lib.hid hgs
    clear hown2 hg2 hb2 hgs
    go_wp2_with fail
    have hgl : gs < w2.heap.size := (HS2.out.lt gs rfl).2
    refine (sqSeqs_any (some ⟨ga, 0, none⟩) (some ⟨gb, 0, none⟩) A n n n n n c la lb xs base w2 HRA2.out HRB2.out (HR.out.below HB2.out) (by omega) (by omega)).mono ?_
    rintro e w4 ⟨⟨a4, m4, k4, O4, rfl, hR4, hE4, hRL⟩, hb4⟩
    rw [HLE.out] at hE4
    have HRL := Lib.hid hRL
    have HE4 := Lib.hid hE4
    have hml : O4.length = m4 := hR4.len
    have HML := Lib.hid hml
    have hm4 : m4 ≤ 200 := by
      have := congrArg List.length hE4
      rw [List.length_map, hml] at this
      have := HMANY.out
      omega
    have HGL := Lib.hid hgl
    have HW1 : Hid (w1.heap.size ≤ gs) := Lib.hid (Nat.le_of_eq HGS.out)
    have HST : Hid (OnAt w1 w4 gs n (allAt (L.take 0)) a4 m4 O4) := Lib.hid ⟨own_below HS2.out hb4, hR4, HB12.out.trans (hb4.mono HB12.out.size)⟩
    clear hR4 hE4 hRL hb4 hml hgl
    go_wp2_with fail
    go_loopw [50] (fun s50 wr => ∃ j : Nat, j ≤ m4 ∧ s50 = .int .i64 (j : Int) ∧ OnAt w1 wr gs n (allAt (L.take j)) a4 m4 O4) (fun s50 _ => m4 - (intOf s50).toNat)
    case atStart => exact ⟨0, Nat.zero_le _, rfl, HST.out⟩
    case round =>
      obtain ⟨j, hj, rfl, hO⟩ := hrel
      by_cases hlt : j < m4
      · obtain ⟨o, ho⟩ : ∃ o, O4[j]? = some o := ⟨_, List.getElem?_eq_getElem (by rw [HML.out]; exact hlt)⟩
        obtain ⟨ad, rfl, y0, y1, y2, y3⟩ := hO.ro.cell ho
        obtain ⟨av, kv, hv, hrv⟩ := hO.ro.rows o (List.mem_of_getElem? ho)
        have hLj : L[j]? = some o.e := by rw [← HE4.out, List.getElem?_map, ho]; rfl
        have HLJ := Lib.hid hLj
        rw [hv] at y0
        obtain ⟨⟨P, lev, so, eo⟩, hes⟩ : ∃ e, o.e = e := ⟨_, rfl⟩
        have HLvl := Lib.hid (HLV.out o.e (List.mem_of_getElem? hLj))
        have hPl := HLONG.out o.e (List.mem_of_getElem? hLj)
        have HAT := Lib.hid (allAt_take hLj)
        rw [hes] at y0 y1 y2 y3 HLvl hPl HAT hv
        simp only at y0 y1 y2 y3 HLvl hPl HAT
        have HOO := Lib.hid ho
        have HES := Lib.hid hes
        have HV := Lib.hid hv
        have HO := Lib.hid hO
        obtain ⟨p, hp⟩ : ∃ p, P.length = p := ⟨_, rfl⟩
        rw [hp] at y0 hPl
        have HP := Lib.hid hp
        have hj0 : (0 : Int) ≤ (j : Int) := by omega
        have hj5 : (j : Int) ≤ 200 := by omega
        have hjm : (j : Int) < (m4 : Int) := by omega
        clear ho hv hes hrv hLj hp hO
        go_wp2_with fail
        have hbx := heap_alloc_new wr (.cells #[.slice av p kv, .int .i64 lev, .int .i64 so, .int .i64 eo] 38)
        have hO2 := HO.out.lower (below_new wr (.cells #[.slice av p kv, .int .i64 lev, .int .i64 so, .int .i64 eo] 38))
        have hgb : gs < wr.heap.size := (HO.out.row.lt gs rfl).2
        obtain ⟨W, hW⟩ : ∃ W, wr.alloc (.cells #[.slice av p kv, .int .i64 lev, .int .i64 so, .int .i64 eo] 38) = W := ⟨_, rfl⟩
        rw [hW] at hbx hO2 ⊢
        obtain ⟨bx, hbxe⟩ : ∃ bx, wr.heap.size = bx := ⟨_, rfl⟩
        rw [hbxe] at hbx hgb ⊢
        have HBX := Lib.hid hbx
        have HO2 : Hid (OnAt w1 W gs n (allAt (L.take j) ++ P.take 0) (some ad) m4 O4) := Lib.hid (by simpa using hO2)
        have HGB := Lib.hid hgb
        clear hbx hO2 hgb hW hbxe y0 y1 y2 y3
        go_loopw [57] (fun s57 ws => ∃ q : Nat, q ≤ p ∧ s57 = .int .i64 (q : Int) ∧ OnAt w1 ws gs n (allAt (L.take j) ++ P.take q) (some ad) m4 O4 ∧ ws.heap[bx]? = some (.cells #[.slice av p kv, .int .i64 lev, .int .i64 so, .int .i64 eo] 38 (0, 0))) (fun s57 _ => p - (intOf s57).toNat)
        case atStart => exact ⟨0, Nat.zero_le _, rfl, HO2.out, HBX.out⟩
        case round =>
          obtain ⟨q, hq, rfl, hO3, hb3⟩ := hrel
          by_cases hlt2 : q < p
          · obtain ⟨x, hx⟩ : ∃ x, P[q]? = some x := ⟨_, List.getElem?_eq_getElem (by rw [HP.out]; exact hlt2)⟩
            obtain ⟨hxn, hxl⟩ := HLvl.out x (List.mem_of_getElem? hx)
            obtain ⟨av', kv', hv', hrv⟩ := hO3.ro.rows o (List.mem_of_getElem? HOO.out)
            rw [HV.out] at hv'
            injection hv' with e1 _ e3
            subst e1 e3
            rw [HES.out] at hrv
            simp only at hrv
            rw [HP.out] at hrv
            obtain ⟨vd, rfl, _, hcv⟩ := hrv.at_ hlt2
            have cx := hcv _ (encN_at hx)
            obtain ⟨al, hal, _, hcl⟩ := (HRA.out.below hO3.low).at_ hxn
            obtain rfl := Option.some.inj hal
            have cl0 := hcl (.int .i64 lev) (by
              rw [List.getElem?_map]
              obtain ⟨yy, hyy⟩ : ∃ yy, la[x]? = some yy := ⟨_, List.getElem?_eq_getElem (by rw [HLA.out]; exact hxn)⟩
              rw [hyy]
              rw [List.getD_eq_getElem?_getD, hyy] at hxl
              simp at hxl
              rw [hxl]; rfl)
            have eax : (⟨ga, 0, none⟩ : Addr).add x = ⟨ga, x, none⟩ := by unfold Addr.add; split <;> simp_all
            rw [eax] at cl0
            obtain ⟨gz, egz, _, hcs, hfs, _⟩ := row_at hO3.row (by omega)
            simp only [Option.some.injEq, Addr.mk.injEq, and_true] at egz
            subst egz
            have cs := hcs x _ (cntL_at hxn)
            have fs := hfs x hxn
            have b1 := hp_cell (j := 1) hb3 rfl
            obtain ⟨cnt, hcnt⟩ : ∃ cc : Int, (((allAt (L.take j) ++ P.take q).count x : Nat) : Int) = cc := ⟨_, rfl⟩
            have hcn : 0 ≤ cnt ∧ cnt ≤ 1000000 := by
              have h5 := HON.out x hxn
              rw [← List.take_append_drop (j + 1) L] at h5
              unfold allAt at h5
              rw [List.flatMap_append] at h5
              have h6 := HAT.out
              unfold allAt at h6 hcnt
              rw [h6, List.count_append, List.count_append] at h5
              rw [List.count_append] at hcnt
              have h7 : (P.take q).count x ≤ P.count x := (List.take_sublist q P).count_le x
              have h8 : (if leftC (lb.getD x 0) = true then 0 else 1) ≤ 1 := by split <;> omega
              omega
            rw [hcnt] at cs
            have HCNT := Lib.hid hcnt
            have HXQ := Lib.hid hx
            have HB3 := Lib.hid hb3
            have hx0 : (0 : Int) ≤ (x : Int) := by omega
            have hxni : (x : Int) < (n : Int) := by omega
            have hq0 : (0 : Int) ≤ (q : Int) := by omega
            have hqp : (q : Int) < (p : Int) := by omega
            obtain ⟨hc0, hc1⟩ := hcn
            have gx0 : decide ((x : Int) < 0) = false := by simp
            have gxn : decide ((n : Int) ≤ (x : Int)) = false := by simp; omega
            have gxn2 : decide (n ≤ x) = false := by simp; omega
            have gll : (lev != lev) = false := by simp
            have HO3 := Lib.hid hO3
            clear hO3 hb3 hx hxl hrv hcv hcl hcs hfs hcnt
            go_wp2_with fail
            go_quiet (fail)
            have hdw := below_drewN (Below.refl wr.heap.size wr) nq
            have hO4 := HO3.out.lower hdw
            have hB4 := (hdw.block _ (hp_lt HB3.out)).trans HB3.out
            obtain ⟨ws, hws⟩ : ∃ ws, wr.drewN nq = ws := ⟨_, rfl⟩
            rw [hws] at hO4 hB4 ⊢
            obtain ⟨gz, egz, _, hcs, hfs, _⟩ := row_at hO4.row (by omega)
            simp only [Option.some.injEq, Addr.mk.injEq, and_true] at egz
            subst egz
            have cs2 := hcs x _ (cntL_at (T := allAt (L.take j) ++ P.take q) (by omega))
            have fs2 := hfs x (by omega)
            have hput := hO4.put HRL.out HGL.out HW1.out x
            rw [List.append_assoc, show P.take q ++ [x] = P.take (q + 1) by rw [List.take_add_one, HXQ.out]; rfl] at hput
            have hbx2 := (show (ws.setCell ⟨gs, x, none⟩ (.int .i64 ((((allAt (L.take j) ++ P.take q).count x : Nat) : Int) + 1))).heap[bx]? = some _ from (hp_far (by have := HGB.out; omega) _ _).trans hB4)
            rw [HCNT.out] at cs2 hput hbx2
            have HPUT := Lib.hid hput
            have HBX2 := Lib.hid hbx2
            clear hws hdw hO4 hB4 hcs hfs hput hbx2 cs fs cx cl0 b1
            go_wp2_with fail
            go_roundw
            case rel => exact ⟨q + 1, by omega, by go_num, HPUT.out, HBX2.out⟩
            case measure => simp [intOf]; omega
          · have HJN : Hid (OnAt w1 wr gs n (allAt (L.take (j + 1))) (some ad) m4 O4) := Lib.hid (by
              rw [HAT.out]
              have h9 := hO3
              rwa [show P.take q = P from List.take_of_length_le (by rw [HP.out]; omega)] at h9)
            have hlt2' : ¬ (q : Int) < (p : Int) := by omega
            clear hO3 hb3 hlt2
            go_wp2_with fail
            go_roundw
            case rel => exact ⟨j + 1, by omega, by go_num, HJN.out⟩
            case measure => simp [intOf]; omega
      · have HFI : Hid (OnAt w1 wr gs n (allAt L) a4 m4 O4) := Lib.hid (by
          have := hO
          rwa [List.take_of_length_le (by rw [← HE4.out] ; simp [HML.out]; omega)] at this)
        have hlt' : ¬ (j : Int) < (m4 : Int) := by omega
        clear hO hlt
        go_wp2_with fail
        obtain ⟨wz, hwz⟩ : ∃ wz, wz = wr := ⟨_, rfl⟩
        subst hwz
        go_loopw [88] (fun s88 ws => ∃ i : Nat, i ≤ n ∧ s88 = .int .i64 (i : Int) ∧ ws = wz) (fun s88 _ => n - (intOf s88).toNat)
        case atStart => exact ⟨0, Nat.zero_le _, rfl, rfl⟩
        case round =>
          obtain ⟨i, hi, rfl, rfl⟩ := hrel
          by_cases hlt3 : i < n
          · obtain ⟨gz, egz, _, hcs, _, _⟩ := row_at HFI.out.row (by omega)
            simp only [Option.some.injEq, Addr.mk.injEq, and_true] at egz
            subst egz
            have cs := hcs i _ (cntL_at hlt3)
            rw [HON.out i hlt3] at cs
            obtain ⟨y, hy⟩ : ∃ y, lb[i]? = some y := ⟨_, List.getElem?_eq_getElem (by rw [HLB.out]; exact hlt3)⟩
            obtain ⟨ab, hab, _, hcb⟩ := (HRB.out.below HFI.out.low).at_ hlt3
            obtain rfl := Option.some.inj hab
            have cy := hcb (.int .i64 y) (by rw [List.getElem?_map, hy]; rfl)
            rw [Addr.add_lit, Nat.zero_add] at cy
            rw [show lb.getD i 0 = y by rw [List.getD_eq_getElem?_getD, hy]; rfl] at cs
            have HLF := Lib.hid (fun W => rxLeft_any y W)
            obtain ⟨lf, hlf⟩ : ∃ lf, leftC y = lf := ⟨_, rfl⟩
            rw [hlf] at HLF cs
            have hi0 : (0 : Int) ≤ (i : Int) := by omega
            have hin : (i : Int) < (n : Int) := by omega
            clear hcs hy hcb hlf
            cases lf
            all_goals
              simp only [Bool.false_eq_true, if_false, if_true] at cs
              go_wp2_with fail
              refine (HLF.out _).mono ?_
              rintro e w9 ⟨rfl, rfl⟩
              go_wp2_with fail
              go_roundw
              case rel => exact ⟨i + 1, by omega, by go_num, by first | rfl | trivial⟩
              case measure => simp [intOf]; omega
          · have hlt3' : ¬ (i : Int) < (n : Int) := by omega
            have HLO := Lib.hid (HB1.out.trans (HFI.out.low.mono HB1.out.size))
            clear hlt3
            go_wp2_with fail
            refine (awakeSq_any _).mono ?_
            rintro e w7 ⟨rfl, hb7⟩
            have HB7 := Lib.hid (below_self HLO.out hb7)
            clear hb7
            go_wp2_with fail
            go_ret
            exact ⟨rfl, HB7.out⟩
  · clear hr
    go_enter Try.func5, Try.ntmps5
    go_wp2_with fail
    refine (awakeSq_any _).mono ?_
    rintro e w7 ⟨rfl, hb7⟩
    have HB7 := Lib.hid hb7
    clear hb7
    go_wp2_with fail
    go_ret
    exact ⟨rfl, HB7.out⟩
end Go.Proofs.Ytnmpoipakmjbpaa
