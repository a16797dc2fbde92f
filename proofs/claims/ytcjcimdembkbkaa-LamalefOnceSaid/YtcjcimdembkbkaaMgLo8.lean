/- Texts of one claim, one behind the other. -/
import Derived.Deep.RegionWith
import Derived.Deep.Slices
import Derived.ProofKit
import Derived.OpenShut
import Derived.Lib.SmallJoins
import Derived.Test.YtcjcimdembkbkaaRows
import Derived.Below
import Derived.ChangeSame
import Derived.LaidMore
import Derived.Stop.Joined
import Derived.SevenTiedAt
import Derived.Test.YtcjcimdembkbkaaMgLo1
import Derived.Test.YtcjcimdembkbkaaMgLo2
import Derived.Test.YtcjcimdembkbkaaMgLo6
import Derived.Test.YtcjcimdembkbkaaMgLo7
/- naskhlaw14.LamalefOnce. -/
namespace Go.Proofs.Ytcjcimdembkbkaa
open Go.RowKit

def boolsZ (l : List Bool) : List Value := l.map Value.bool
theorem mk_boolsZ (n : Nat) (hn : n ≤ 100000000) (w : World) : (Instr.makeSlice 45 (.int .i64 (n : Int)) (.int .i64 (n : Int))).run Try.prog w = .ok (.slice (some ⟨w.heap.size, 0, none⟩) n n) (w.alloc (.cells (boolsZ (List.replicate n false)).toArray 4)) := by
  have hin : (Try.prog.info? 4).map (fun i => (i.zero, i.size, i.bytes)) = some (some (.bool false), 1, 1) := by kernel_rfl
  obtain ⟨i, h1, h2, h3, h4⟩ := info_parts hin
  have h := run_make (P := Try.prog) w 45 4 i (.bool false) Try.underlying45 h1 h2 .i64 .i64 n n (by omega) (Int.le_refl _) (by rw [h4]; omega) (by omega)
  rw [h3] at h
  simp only [Int.toNat_natCast, Nat.mul_one] at h
  rw [h]
  refine congrArg (fun c => Result.ok _ (w.alloc (.cells c _))) ?_
  apply Array.toList_inj.1
  rw [show (Value.bool false).cells = #[.bool false] from rfl, toList_madeCells_one]
  simp [boolsZ]
theorem hp_rowB {w : World} {g : Nat} {l : List Bool} {t : TypeId} (h : w.heap[g]? = some (.cells (boolsZ l).toArray t (0, 0))) (i : Nat) (x : Bool) : (w.setCell ⟨g, i, none⟩ (.bool x)).heap[g]? = some (.cells (boolsZ (l.set i x)).toArray t (0, 0)) := by
  rw [heap_setCell_same w g i _ t _ h]
  congr 2
  rw [show boolsZ (l.set i x) = (boolsZ l).set i (.bool x) by simp [boolsZ, List.map_set], List.setIfInBounds_toArray]
set_option maxRecDepth 100000 in
set_option maxHeartbeats 8000000 in
theorem lamalefOnce_any (A : Option Addr) (n c : Nat) (xs : List Int) (th : Bool) (w : World) (hr : Rd w 1 A n (xs.map (Value.int .i64))) (hn : n ≤ maxLen) :
    Calls Try.prog 10 #[.slice A n c, .bool th] w fun e w' => e = .returned (.bool true) ∧ Below w.heap.size w w' := by
  unfold maxLen at hn
  have hxl : xs.length = n := by simpa using hr.len1
  by_cases hsz : n ≤ 300
  · have HR := Lib.hid hr
    have HXL := Lib.hid hxl
    clear hr hxl
    go_enter Try.func10, Try.ntmps10
    go_wp2_with fail
    refine (prNew_any _).mono ?_
    rintro e w1 ⟨⟨pp, rfl, hP⟩, hb1⟩
    have HP1 := Lib.hid hP
    have HB1 := Lib.hid hb1
    clear hP hb1
    go_wp2_with fail
    refine (ppJoins_any pp A n c xs w1 HP1.out (HR.out.below HB1.out) (by omega)).mono ?_
    rintro e w2 ⟨⟨gt, _, rfl, hgt⟩, hb2⟩
    have hts := rd_intsZ hgt (n := n) (by rw [List.length_map, HXL.out])
    have HB2 := Lib.hid (below_self HB1.out hb2)
    have HT2 := Lib.hid hts
    have HGTB := Lib.hid hgt
    have hmk := mk_boolsZ n (by omega)
    have hs3 : (w2.alloc (.cells (boolsZ (List.replicate n false)).toArray 4)).heap[w2.heap.size]? = some (.cells (boolsZ (List.replicate n false)).toArray 4 (0, 0)) := heap_alloc_new _ _
    have hb3 := below_new w2 (.cells (boolsZ (List.replicate n false)).toArray 4)
    have HS3 := Lib.hid hs3
    have HB3 := Lib.hid (below_self HB2.out hb3)
    have HT3 := Lib.hid (HT2.out.below hb3)
    have HW2 := Lib.hid HB2.out.size
    clear hgt hb2 hts hs3 hb3 HB1 HP1
    go_wp2_with fail
    generalize w2.alloc (.cells (boolsZ (List.replicate n false)).toArray 4) = w3 at *
    obtain ⟨s, hse⟩ : ∃ s, w2.heap.size = s := ⟨_, rfl⟩
    have HGT := Lib.hid (show gt < w2.heap.size from hp_lt HGTB.out)
    rw [hse] at HS3 HW2 HGT
    simp only [hse]
    clear hmk hse HB2 HT2
    obtain ⟨l, hl⟩ : ∃ l, lfFind alefB xs (xs.map joinF) th = l := ⟨_, rfl⟩
    have hF := lfFind_any A (some ⟨gt, 0, none⟩) n n c n xs (xs.map joinF) th w3 (HR.out.below HB3.out) HT3.out (by omega)
    rw [hl] at hF
    have HF := Lib.hid hF
    have HL := Lib.hid hl
    clear hl hF
    refine HF.out.mono ?_
    rintro e w4 ⟨⟨v, rfl, hown⟩, hb4⟩
    obtain ⟨P, pc, rfl, _, hp⟩ := rd_own2 hown
    have HPP := Lib.hid hp
    have HS4 := Lib.hid ((hb4.block s (hp_lt HS3.out)).trans HS3.out)
    have HB4 := Lib.hid (below_self HB3.out hb4)
    have HT4 := Lib.hid (HT3.out.below hb4)
    have hll : l.length ≤ n := by
      have := HL.out
      unfold lfFind at this
      rw [if_pos (by simp)] at this
      rw [← this, ← HXL.out]
      exact lfUpto_le _ _ _ _ _
    have hs4 : s < w4.heap.size := hp_lt HS4.out
    have hap : 0 < l.length → ∀ ad, P = some ad → ad.block ≠ s := fun h0 ad e => by
      subst e
      obtain ⟨g, cap, hv, hbg, hlt⟩ := hown.form h0
      injection hv with hv
      injection hv with hv
      rw [hv]
      have := hp_lt HS3.out
      simp only
      omega
    have HAP := Lib.hid hap
    clear hown hb4 hp HS3 HB3 HT3 HF hap
    go_wp2_with fail
    go_loopw [26] (fun i wr => ∃ (k : Nat) (sn : List Bool), k ≤ l.length ∧ i = .int .i64 k ∧ wr.heap[s]? = some (.cells (boolsZ sn).toArray 4 (0, 0)) ∧ sn.length = n ∧ SeenIn sn l k ∧ Below w.heap.size w wr ∧ Rd wr 2 P l.length (cellsS l) ∧ Rd wr 1 (some ⟨gt, 0, none⟩) n ((xs.map joinF).map (Value.int .i64))) (fun i _ => l.length - (intOf i).toNat)
    case atStart => exact ⟨0, _, Nat.zero_le _, rfl, HS4.out, by simp, SeenIn.zero, HB4.out, HPP.out, HT4.out⟩
    case round =>
      obtain ⟨k, sn, hk, rfl, hsn, hsl, hseen, hb, hpp, htt⟩ := hrel
      have HB := Lib.hid hb
      have HSN := Lib.hid hsn
      have HSL := Lib.hid hsl
      have HSEEN := Lib.hid hseen
      have HPK := Lib.hid hpp
      have HTK := Lib.hid htt
      by_cases hlt : k < l.length
      · obtain ⟨p, hpk⟩ : ∃ p, l[k]? = some p := ⟨_, List.getElem?_eq_getElem hlt⟩
        obtain ⟨i, b, rfl, hx, hbe, hal, hth⟩ := lf_is HL.out hpk
        have hnew := fun q hq => lf_new (q := q) HL.out hpk hq
        obtain ⟨f1, f2, _, _⟩ := jFirst_is hbe
        rw [List.length_map, HXL.out] at f2
        have hin : i < n := by have := (List.getElem?_eq_some_iff.1 hx).1; rw [HXL.out] at this; exact this
        obtain ⟨y, hy⟩ : ∃ y, xs[b]? = some y := ⟨_, List.getElem?_eq_getElem (by rw [HXL.out]; exact f2)⟩
        rw [List.getD_eq_getElem?_getD, hy, Option.getD_some] at hal
        have hsi : sn[i]? = some false := by
          rw [List.getElem?_eq_getElem (by omega)]
          cases hq : sn[i] with
          | false => rfl
          | true =>
            obtain ⟨q, hq1, hq2⟩ := hseen i (by rw [List.getElem?_eq_getElem (by omega), hq])
            have := hnew q hq1
            rcases hq2 with e | e
            · exact absurd e this.1
            · exact absurd e this.2.1
        have hsb : sn[b]? = some false := by
          rw [List.getElem?_eq_getElem (by omega)]
          cases hq : sn[b] with
          | false => rfl
          | true =>
            obtain ⟨q, hq1, hq2⟩ := hseen b (by rw [List.getElem?_eq_getElem (by omega), hq])
            have := hnew q hq1
            rcases hq2 with e | e
            · exact absurd e this.2.2.1
            · exact absurd e this.2.2.2
        have HMORE := Lib.hid (hseen.more hpk)
        obtain ⟨pd, rfl, hpd, p1, p2⟩ := hpp.span hpk
        simp only at p1 p2
        have hpds : pd.block ≠ s := HAP.out (by omega) pd rfl
        have hrx := HR.out.below hb
        have hcellA := hrx.at_ hin
        obtain ⟨ad, rfl, had, hcc⟩ := hcellA
        have hnb := below_new wr (.cells #[.int .i64 i, .int .i64 b] 37)
        have ci : (wr.alloc (.cells #[.int .i64 i, .int .i64 b] 37)).cell? (ad.add i) = some (.int .i64 1604) := cell_below hnb (hcc _ (by rw [List.getElem?_map, hx]; rfl))
        have cy : (wr.alloc (.cells #[.int .i64 i, .int .i64 b] 37)).cell? (ad.add b) = some (.int .i64 y) := cell_below hnb (hrx.news b _ (by rw [List.getElem?_map, hy]; rfl))
        have HSN1 := Lib.hid ((hnb.block s (hp_lt hsn)).trans hsn)
        have si : (wr.alloc (.cells #[.int .i64 i, .int .i64 b] 37)).cell? ⟨s, i, none⟩ = some (.bool false) := hp_cell HSN1.out (by simpa [boolsZ] using hsi)
        have sb : (wr.alloc (.cells #[.int .i64 i, .int .i64 b] 37)).cell? ⟨s, b, none⟩ = some (.bool false) := hp_cell HSN1.out (by simpa [boolsZ] using hsb)
        have e0 : (wr.alloc (.cells #[.int .i64 i, .int .i64 b] 37)).cell? ⟨wr.heap.size, 0, none⟩ = some (.int .i64 i) := by rw [World.cell?_alloc_at _ _ _ _ rfl]; rfl
        have e1 : (wr.alloc (.cells #[.int .i64 i, .int .i64 b] 37)).cell? ⟨wr.heap.size, 1, none⟩ = some (.int .i64 b) := by rw [World.cell?_alloc_at _ _ _ _ rfl]; rfl
        have HBN := Lib.hid (below_self hb hnb)
        have HPN := Lib.hid (hpp.below hnb)
        have HTN := Lib.hid (htt.below hnb)
        have hsw : s < wr.heap.size := hp_lt hsn
        have HAL := Lib.hid (fun w => lfAlef_any y w)
        rw [hal] at HAL
        have HBEH := Lib.hid (show jBehind (xs.map joinF) (i : Int) = (b : Int) by unfold jBehind; rw [if_pos ⟨by omega, by rw [List.length_map, HXL.out]; omega⟩, Int.toNat_natCast, hbe])
        have HTH := Lib.hid hth
        have HSI := Lib.hid hsi
        have HSB := Lib.hid hsb
        clear hb hsn hseen hpp htt hpk hx hbe hal hth hnew hy hsi hsb hcc hrx hnb had HB4 HPP HS4 HT4 HB HPK HTK HSEEN HSN
        go_wp2_with (first
          | (go_at_call 32; with_reducible refine (HAL.out _).mono ?_; rintro e w5 ⟨rfl, hb5⟩; have d0 := cell_below hb5 e0; have d1 := cell_below hb5 e1; have HS5 := Lib.hid ((hb5.block s (hp_lt HSN1.out)).trans HSN1.out); have ti := cell_below hb5 si; have tb := cell_below hb5 sb; have fi := hp_froz HS5.out i; have fb := hp_froz HS5.out b; have HB5 := Lib.hid (below_self HBN.out hb5); have HP5 := Lib.hid (HPN.out.below hb5); have HT5 := Lib.hid (HTN.out.below hb5); clear hb5 e0 e1 si sb ci cy)
          | fail)
        obtain ⟨pb, hpb⟩ : ∃ pb, wr.heap.size = pb := ⟨_, rfl⟩
        simp only [hpb] at d0 d1 ⊢
        rw [hpb] at hsw
        clear hpb
        have hset : ((w5.setCell ⟨s, i, none⟩ (.bool true)).setCell ⟨s, b, none⟩ (.bool true)).drew.heap[s]? = some (.cells (boolsZ ((sn.set i true).set b true)).toArray 4 (0, 0)) := hp_rowB (hp_rowB HS5.out i true) b true
        have hbl : Below s w5 ((w5.setCell ⟨s, i, none⟩ (.bool true)).setCell ⟨s, b, none⟩ (.bool true)).drew := (((Below.refl s w5).setCell (p := ⟨s, i, none⟩) (Nat.le_refl _) _).setCell (p := ⟨s, b, none⟩) (Nat.le_refl _) _).drew
        have hfar : ∀ k, k ≠ s → ((w5.setCell ⟨s, i, none⟩ (.bool true)).setCell ⟨s, b, none⟩ (.bool true)).drew.heap[k]? = w5.heap[k]? := fun k hk => (hp_far hk b _).trans (hp_far hk i _)
        have hsize : w5.heap.size ≤ ((w5.setCell ⟨s, i, none⟩ (.bool true)).setCell ⟨s, b, none⟩ (.bool true)).drew.heap.size := hbl.size
        have HSET := Lib.hid hset
        have HBL := Lib.hid hbl
        have HFAR := Lib.hid hfar
        have HSIZE := Lib.hid hsize
        have HD0 := Lib.hid d0
        have HD1 := Lib.hid d1
        clear hset hbl hfar hsize
        go_region
        generalize ((w5.setCell ⟨s, i, none⟩ (.bool true)).setCell ⟨s, b, none⟩ (.bool true)).drew = w7 at *
        have hcf : ∀ a : Addr, a.block ≠ s → w7.cell? a = w5.cell? a := fun a ha => by unfold World.cell?; rw [HFAR.out a.block ha]
        have q0 : w7.cell? ⟨pb, 0, none⟩ = some (.int .i64 i) := (hcf _ (by simp only; omega)).trans HD0.out
        have q1 : w7.cell? ⟨pb, 1, none⟩ = some (.int .i64 b) := (hcf _ (by simp only; omega)).trans HD1.out
        have HB7 := Lib.hid (HB5.out.trans (HBL.out.mono HW2.out))
        have HT7 : Hid (Rd w7 1 (some ⟨gt, 0, none⟩) n ((xs.map joinF).map (Value.int .i64))) := Lib.hid (HT5.out.belowS (fun _ ad e => by cases e; exact HGT.out) HBL.out)
        have HP7 : Hid (Rd w7 2 (some pd) l.length (cellsS l)) := Lib.hid ⟨HP5.out.1, fun hn => by
          obtain ⟨ad', e, hlt', hc'⟩ := HP5.out.2 hn
          cases e
          exact ⟨pd, rfl, Nat.lt_of_lt_of_le hlt' HSIZE.out, fun j u hu => (hcf _ (by rw [blockAdd]; exact hpds)).trans (hc' j u hu)⟩⟩
        clear d0 d1 ti tb fi fb hcf HSN1 HBN HPN HTN HFAR HBL
        have HBE := Lib.hid (fun (w : World) (h : Rd w 1 (some ⟨gt, 0, none⟩) n ((xs.map joinF).map (Value.int .i64))) => jnBehind_any (some ⟨gt, 0, none⟩) n n (xs.map joinF) (i : Int) w h (by omega))
        rw [HBEH.out] at HBE
        have hth := HTH.out
        clear HL HTH
        cases th with
        | true =>
          go_wp2_with fail
          go_quiet ((go_at_call 17; exact quiet_eq (HBE.out _ (HT7.out.drewN _))))
          go_wp2
          go_roundw
          case rel => exact ⟨k + 1, _, by omega, by go_num, HSET.out, by rw [List.length_set, List.length_set]; exact HSL.out, HMORE.out, below_drewN HB7.out _, HP7.out.drewN _, HT7.out.drewN _⟩
          case measure => simp [intOf]; omega
        | false =>
          have hbi : (b : Int) = (i : Int) + 1 := hth.elim (fun h => absurd h (by decide)) id
          have g9 : ((b : Int) != (i : Int) + 1) = false := by simp only [bne_eq_false_iff_eq]; exact hbi
          have g8 : decide ((b : Int) = (i : Int) + 1) = true := decide_eq_true hbi
          clear hbi hth
          go_wp2_with fail
          go_quiet ((go_at_call 17; exact quiet_eq (HBE.out _ (HT7.out.drewN _))))
          go_wp2
          go_roundw
          case rel => exact ⟨k + 1, _, by omega, by go_num, HSET.out, by rw [List.length_set, List.length_set]; exact HSL.out, HMORE.out, below_drewN HB7.out _, HP7.out.drewN _, HT7.out.drewN _⟩
          case measure => simp [intOf]; omega
      · have HB := Lib.hid hb
        clear hb hsn hsl hseen hpp htt
        go_wp2_with fail
        refine (awakeLf_any _).mono ?_
        rintro e w8 ⟨rfl, hb8⟩
        have HB8 := Lib.hid (below_self HB.out hb8)
        clear hb8
        go_wp2
        go_ret
        exact ⟨rfl, HB8.out⟩
  · clear hr hxl
    go_enter Try.func10, Try.ntmps10
    go_wp2_with fail
    refine (awakeLf_any _).mono ?_
    rintro e w8 ⟨rfl, hb⟩
    go_wp2
    go_ret
    exact ⟨rfl, hb⟩
end Go.Proofs.Ytcjcimdembkbkaa
/- Arguments that came in: slices of rows (structs of integers), integers, opened to lists (XOpenR without its spans). -/
namespace Go.Proofs.Ytcjcimdembkbkaa
open Go.ChangeShapes Go.WideShapes Go.ChangeAt Go.RowKit Go.Deep

theorem flatMap_len {α : Type} (f : α → List Value) (size : Nat) (hs : ∀ s, (f s).length = size) (l : List α) : (l.flatMap f).length = l.length * size := by
  induction l with
  | nil => simp
  | cons s l ih => rw [List.flatMap_cons, List.length_append, hs, ih, List.length_cons, Nat.succ_mul]; omega
theorem flatMap_at {α : Type} (f : α → List Value) (size : Nat) (hs : ∀ s, (f s).length = size) {l : List α} {j : Nat} {u : Value} (h : (l.flatMap f)[j]? = some u) :
    ∃ i k s, j = i * size + k ∧ k < size ∧ l[i]? = some s ∧ (f s)[k]? = some u := by
  induction l generalizing j with
  | nil => simp at h
  | cons s l ih =>
    rw [List.flatMap_cons] at h
    by_cases hj : j < size
    · rw [List.getElem?_append_left (by rw [hs]; exact hj)] at h
      exact ⟨0, j, s, by omega, hj, rfl, h⟩
    · rw [List.getElem?_append_right (by rw [hs]; omega), hs] at h
      obtain ⟨i, k, s', e, hk, hl, hf⟩ := ih h
      exact ⟨i + 1, k, s', by rw [Nat.succ_mul]; omega, hk, by simpa using hl, hf⟩

/-- A list chosen element by element. -/
theorem list_of {α : Type} {R : Nat → α → Prop} : ∀ (n : Nat), (∀ i, i < n → ∃ s, R i s) → ∃ l : List α, l.length = n ∧ ∀ i s, l[i]? = some s → R i s
  | 0, _ => ⟨[], rfl, fun i s h => by simp at h⟩
  | n + 1, h => by
    obtain ⟨l, hl, hR⟩ := list_of n (fun i hi => h i (by omega))
    obtain ⟨s, hs⟩ := h n (by omega)
    refine ⟨l ++ [s], by simp [hl], fun i t ht => ?_⟩
    by_cases hi : i < n
    · rw [List.getElem?_append_left (by omega)] at ht
      exact hR i t ht
    · rw [List.getElem?_append_right (by omega)] at ht
      have h0 : i - l.length = 0 := by
        have := (List.getElem?_eq_some_iff.1 ht).1
        simp at this; omega
      rw [h0] at ht
      simp at ht
      subst ht
      rwa [show i = n by omega]

section
variable {H : Type} {enc : TypeId × Value → H} {P : Program} {W : World} {base : Nat}
theorem open_rows {α : Type} (f : α → List Value) (size : Nat) (h0 : 0 < size) (hs : ∀ s, (f s).length = size) (good : α → Prop) {t e : TypeId} {v : Value} {d : DataW H} {p : List MemPlace} (ht : P.underlying t = some (.slice e)) (hc : P.cellsOf e = size)
    (hel : ∀ fuel cs x, DataW.trod enc P W 0 (fun _ => true) true fuel e cs = some x → ∃ s, cs = f s ∧ good s)
    (hval : Value.okWide P W .any base t v) (h : DataW.Trod enc P W 0 (fun _ => true) true t v d p) :
    ∃ (A : Option Addr) (n c : Nat) (l : List α), v = .slice A n c ∧ n ≤ c ∧ c ≤ maxLen ∧ Rd W size A n (l.flatMap f) ∧ l.length = n ∧ ∀ s ∈ l, good s := by
  obtain ⟨A, n, c, rfl⟩ := okWide_slice ht hval
  obtain ⟨fuel, hf⟩ := h
  rcases open_slice ht hf with ⟨hcs, _⟩ | ⟨a, len, cap, m, n', D, Pl, hcs, _, hle, hm, hmm, _, hi⟩
  · simp [Value.cells] at hcs
    obtain ⟨rfl, rfl, rfl⟩ := hcs
    exact ⟨none, 0, 0, [], rfl, Nat.le_refl _, by simp, Rd.nil_, rfl, by simp⟩
  · simp [Value.cells] at hcs
    obtain ⟨rfl, rfl, rfl⟩ := hcs
    have hmn : n ≤ m := by rw [hmm]; split <;> omega
    rw [hc] at hi
    obtain ⟨l, hl, hR⟩ := list_of (R := fun i (s : α) => (∀ k u, (f s)[k]? = some u → W.cell? ((a.add (i * size)).add k) = some u) ∧ good s) n (fun i hin => by
      obtain ⟨cs', hc', ht'⟩ := hi i (by omega)
      obtain ⟨s, rfl, hg⟩ := hel _ _ _ ht'
      obtain ⟨_, _, hat⟩ := World.cells?_some hc'
      exact ⟨s, fun k u hk => by
        have hkl := (List.getElem?_eq_some_iff.1 hk).1
        rw [hs] at hkl
        rw [hat k hkl, hk], hg⟩)
    refine ⟨some a, n, c, l, rfl, hle, hm, ⟨by rw [flatMap_len f size hs, hl], fun hn => ?_⟩, hl, fun s hsl => ?_⟩
    · have hcell : ∀ j u, (l.flatMap f)[j]? = some u → W.cell? (a.add j) = some u := fun j u hj => by
        obtain ⟨i, k, s, rfl, hk, hli, hfu⟩ := flatMap_at f size hs hj
        rw [← addAdd]
        exact (hR i s hli).1 k u hfu
      have hlen : 0 < (l.flatMap f).length := by rw [flatMap_len f size hs, hl]; exact Nat.mul_pos hn h0
      have := cell_lt (hcell 0 _ (List.getElem?_eq_getElem hlen))
      rw [blockAdd] at this
      exact ⟨a, rfl, this, hcell⟩
    · obtain ⟨i, hi', rfl⟩ := List.getElem_of_mem hsl
      exact (hR i _ (List.getElem?_eq_getElem hi')).2
end

def FitS (s : Sp) : Prop := Fit s.1 ∧ Fit s.2
theorem fit_of_wf {x : Int} (h : (Lit.int .i64 x).wf = true) : Fit x := by
  unfold Fit
  simp [Lit.wf, IntKind.min, IntKind.max, IntKind.signed, IntKind.bits] at h
  omega

section
variable {H : Type} {enc : TypeId × Value → H} {W : World} {base : Nat}
set_option maxRecDepth 100000 in
/-- A slice of integers that came in. -/
theorem open_ints_ {v : Value} {d : DataW H} {p : List MemPlace} (hval : Value.okWide Try.prog W .any base 22 v) (h : DataW.Trod enc Try.prog W 0 (fun _ => true) true 22 v d p) :
    ∃ (A : Option Addr) (n c : Nat) (l : List Int), v = .slice A n c ∧ n ≤ c ∧ c ≤ maxLen ∧ Rd W 1 A n (l.map (Value.int .i64)) ∧ l.length = n ∧ ∀ s ∈ l, Fit s := by
  have := open_rows (fun x : Int => [Value.int .i64 x]) 1 (by decide) (fun _ => rfl) Fit Try.underlying22 (by kernel_rfl) (fun fuel cs x h => by
    obtain ⟨a, rfl, _, w0⟩ := DataW.trod_int Try.underlying3 h
    exact ⟨a, rfl, fit_of_wf w0⟩) hval h
  simpa [List.flatMap_singleton', ← List.map_eq_flatMap] using this
end
end Go.Proofs.Ytcjcimdembkbkaa
/- The row's last step where of the world behind the call only 'Below' is known (after the guide's page of small lemmas, which asks to copy it). -/
namespace Go.Proofs.Ytcjcimdembkbkaa
open Go.RowKit Go.WideShapes Go.ChangeShapes

section
variable {H : Type} {enc : TypeId × Value → H} {P : Program}
theorem post_of_below {f : Func} {s : ChangeSpec} {apart fresh handsOn again : Bool} {W W' : World} {args : Array Value} {v : Value} {ds gs : List (DataW H)} {before pa pv : List MemPlace}
    (hW : DataW.Whole enc P f.params.toList s.vars apart W args.toList ds gs before)
    (hres : ∀ (b : Nat) (sp : Nat → Bool) (hd : Bool), DataW.TrodAll enc P W' b sp hd f.resultTypes.toList (v.resultList f.resultTypes.size) (s.fn H (ds ++ gs)).results [])
    (hargs : ∀ sp : Nat → Bool, (∀ p ∈ before, sp p.block = true) → DataW.TrodAll enc P W' 0 sp true f.params.toList args.toList (s.fn H (ds ++ gs)).args pa)
    (hvars : ∀ sp : Nat → Bool, (∀ p ∈ before, sp p.block = true) → DataW.TrodVars enc P W' sp s.vars (s.fn H (ds ++ gs)).vars pv)
    (hps : before = pa ++ pv) (hb : Below W.heap.size W W')
    (hok : ∀ (j : Nat) (t : TypeId) (r : Value), f.resultTypes[j]? = some t → (v.resultList f.resultTypes.size)[j]? = some r → Value.okWide P W' .any 0 t r) :
    s.post enc P f apart fresh handsOn again W args v W' := by
  have hlt : ∀ p ∈ before, p.block < W.heap.size := fun p hp => hW.lt p hp
  have hold : ∀ p ∈ before, (fun b => decide (b < W.heap.size)) p.block = true := fun p hp => by simpa using hlt p hp
  refine ⟨ds, gs, before, [], pa, pv, hW, hres _ _ _, hargs _ hold, hvars _ hold, World.keptBut_mono (fun p hp => ⟨hp, ?_⟩) (hb.frame (· ∈ before)), fun _ => ?_⟩
  · rw [hps, List.mem_append] at hp
    exact Or.inr hp
  · obtain ⟨_, _, _, _, _, hz, hn⟩ := hW
    refine ⟨hok, _, _, ([] ++ pa) ++ pv, ⟨[] ++ pa, pv, trodAll_append (hargs _ (fun _ _ => rfl)) (hres _ _ _), hvars _ (fun _ _ => rfl), rfl, ?_, ?_⟩, ?_⟩
    · intro b off hp
      have hin : MemPlace.cell b off ∈ before := by rw [hps]; simpa using hp
      rw [hb.frozen (hlt _ hin)]
      exact hz b off hin
    · intro ha
      have := hn ha
      rw [hps] at this
      simpa using this
    · intro p hp _
      rw [hps]
      simpa using hp
end
end Go.Proofs.Ytcjcimdembkbkaa
/- A law's row out of its walk, for a row that lists no variables: whatever the arguments' types, if the call returns true and leaves all memory that was there as it was, the row's post holds. -/
namespace Go.Proofs.Ytcjcimdembkbkaa
open Go.ChangeShapes Go.WideShapes Go.ChangeAt Go.RowKit

theorem own : ownKnob Try.prog.godebug = none := by kernel_rfl
theorem laidOut : laidOutB Try.prog = true := by kernel_rfl

section
variable {H : Type} {enc : TypeId × Value → H} {P : Program}
theorem trodAll_below (hl : laidOutB P = true) {W W' : World} (hb : Below W.heap.size W W') {sp : Nat → Bool} : ∀ (ts : List TypeId) (vs : List Value) (ds : List (DataW H)) (p : List MemPlace),
    (∀ t ∈ ts, P.readableRec t = true ∧ t < P.types.size) → (∀ x ∈ p, x.block < W.heap.size) → (∀ x ∈ p, sp x.block = true) →
    DataW.TrodAll enc P W 0 (fun _ => true) true ts vs ds p → DataW.TrodAll enc P W' 0 sp true ts vs ds p := by
  intro ts
  induction ts with
  | nil => intro vs ds p _ _ _ h; cases vs <;> cases ds <;> exact h
  | cons t ts ih =>
    intro vs ds p hr hlt hsp h
    match vs, ds, h with
    | v :: vs, d :: ds, h =>
      obtain ⟨p1, p2, h1, h2, rfl⟩ := h
      have ⟨r1, r2⟩ := hr t (by simp)
      exact ⟨p1, p2, WideElems.Trod_stays hl r1 r2 h1 (fun x hx => hb.same (hlt x (by simp [hx]))) (fun x hx => hsp x (by simp [hx])), ih vs ds p2 (fun t ht => hr t (by simp [ht])) (fun x hx => hlt x (by simp [hx])) (fun x hx => hsp x (by simp [hx])) h2, rfl⟩
end
theorem trodAll_len {H : Type} {enc : TypeId × Value → H} {P : Program} {w : World} {base : Nat} {sp : Nat → Bool} {held : Bool} : ∀ (ts : List TypeId) (vs : List Value) (ds : List (DataW H)) (p : List MemPlace), DataW.TrodAll enc P w base sp held ts vs ds p → ds.length = ts.length := by
  intro ts
  induction ts with
  | nil => intro vs ds p h; cases vs <;> cases ds <;> simp_all [DataW.TrodAll]
  | cons t ts ih =>
    intro vs ds p h
    match vs, ds, h with
    | v :: vs, d :: ds, h =>
      obtain ⟨p1, p2, _, h2, _⟩ := h
      simp [ih vs ds p2 h2]

/-- What the walk owes of a law: called with whatever reads as data, it returns true and leaves what was there. -/
def LawWalkP (H : Type) (enc : TypeId × Value → H) (f : FuncId) (fn : Func) : Prop :=
  ∀ (W : World) (base : Nat) (args : Array Value) (ds : List (DataW H)) (p : List MemPlace),
    (∀ (j : Nat) t v, fn.params[j]? = some t → args[j]? = some v → Value.okWide Try.prog W .any base t v) →
    DataW.TrodAll enc Try.prog W 0 (fun _ => true) true fn.params.toList args.toList ds p →
    Calls Try.prog f args W fun e W' => e = .returned (.bool true) ∧ Below W.heap.size W W'

set_option maxRecDepth 100000 in
theorem law_lifted_p {H : Type} {enc : TypeId × Value → H} {os : Os} (started : os.Started) (s : ChangeSpec) (f : FuncId) (fn : Func) (tb : TypeId)
    (hvars : s.vars = []) (hspec : ∀ (ds : List (DataW H)), ds.length = fn.params.toList.length → s.fn H ds = { results := [.lit (.bool true)], args := ds })
    (hf : Try.checked.prog.funcs[f]? = some fn) (hinit : Try.checked.prog.inits.idxOf? f = none) (hrt : fn.resultTypes = #[tb]) (hub : Try.prog.underlying tb = some .bool)
    (hread : ∀ t ∈ fn.params.toList, Try.prog.readableRec t = true ∧ t < Try.prog.types.size)
    (witness : ∃ (w : World) (tape : Tape) (i : Input), w.os = os ∧ (w.forCall tape i).Shaped Try.checked.prog ∧ i.vars = [] ∧ Input.okWide Try.checked.prog (w.forCall tape i) .any w.heap.size f i ∧
      s.pre6 enc Try.checked.prog fn [] false (w.forCall tape i).memory i.args ∧ ({} : Assume).holds Try.checked.prog (lone (Frame.enter Try.checked.prog f i.args .normal) [] (w.forCall tape i)))
    (walk : LawWalkP H enc f fn) :
    ReturnsInHanded {} Try.checked os f .any (s.pre6 enc Try.checked.prog fn [] false) (s.post enc Try.prog fn false true false false) := by
  refine returnsInHanded_of_change (C := Try.checked) own started hinit hf witness ?_
  intro W base args ds gs before hval hW _ _
  have hW' := hW
  have hlt : ∀ p ∈ before, p.block < W.heap.size := fun p hp => hW.lt p hp
  obtain ⟨p, q, hA, hV, rfl, hfz, hnd⟩ := hW
  rw [hvars] at hV
  obtain ⟨rfl, rfl⟩ := trodVars_none hV
  have hlen := trodAll_len _ _ _ _ hA
  have hsp := hspec ds hlen
  refine (walk W base args ds p hval hA).mono fun e W' ⟨he, hb⟩ => ?_
  subst he
  refine ⟨_, rfl, post_of_below (pa := p) (pv := []) hW' (fun _ _ _ => ?_) (fun sp hs => ?_) (fun sp hs => ?_) (by simp) hb (ok_one hrt ?_ (okWide_bool_mk hub _))⟩
  · rw [List.append_nil, hsp, hrt]
    exact trodAll_mk1 (shut_bool hub _)
  · rw [List.append_nil, hsp]
    exact trodAll_below laidOut hb _ _ _ _ hread (fun x hx => hlt x (by simp [hx])) (fun x hx => hs x (by simp [hx])) hA
  · rw [List.append_nil, hsp, hvars]
    exact rfl
  · rfl
end Go.Proofs.Ytcjcimdembkbkaa
