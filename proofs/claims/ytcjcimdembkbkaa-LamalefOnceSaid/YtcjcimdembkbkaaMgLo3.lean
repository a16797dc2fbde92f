/- Texts of one claim, one behind the other. -/
import Derived.Great.FillDense
import Derived.Great.BuildSlice
import Derived.Maps.Own
import Derived.Maps.OwnSet
import Derived.Maps.Keyed
import Derived.DeepKeys4
import Derived.LaidMore
import Derived.Stop.Joined
import Derived.BigQuiet
import Derived.Test.YtcjcimdembkbkaaMgLo2
/- The project's cutBlock: the block from a code on, and what of the ranges goes on behind it. -/
namespace Go.Proofs.Ytcjcimdembkbkaa
open Go.RowKit

def LayAt (w : World) (z : Int) (i : Value) (wr : World) : Prop := ∃ (k : Nat), k ≤ 128 ∧ i = .int .i64 k ∧ IntBlk wr w.heap.size (List.replicate k z ++ List.replicate (128 - k) 0) ∧ Below w.heap.size w wr
def CutAt (w0 w : World) (n : Nat) (lo : Int) (t : List Int × List Rg) (s : Value) (wq : World) : Prop := ∃ (A' : Option Addr) (n' c' : Nat) (l' : List Rg) (b : List Int), s = .slice A' n' c' ∧ n' ≤ n ∧ n' ≤ c' ∧ b.length = 128 ∧ Rd w0 3 A' n' (cellsG l') ∧ t = cutB lo l' b ∧ IntBlk wq w.heap.size b ∧ Below w.heap.size w wq
def FillAt (w : World) (lo x0 : Int) (r : Rg) (b : List Int) (i : Value) (wq : World) : Prop := ∃ x : Int, x0 ≤ x ∧ x ≤ lo + 128 ∧ (x ≤ r.2.1 + 1 ∨ x = x0) ∧ i = .int .i64 x ∧ IntBlk wq w.heap.size (fillTo lo r x b) ∧ Below w.heap.size w wq
def lenOf (s : Value) : Nat := match s with | .slice _ n' _ => n' | _ => 0
def CutPost (w0 w : World) (n : Nat) (t : List Int × List Rg) (e : Ending) (w' : World) : Prop := (∃ A' n' c', e = .returned (.tuple #[.agg (intsA t.1), .slice A' n' c']) ∧ n' ≤ n ∧ n' ≤ c' ∧ Rd w0 3 A' n' (cellsG t.2)) ∧ t.1.length = 128 ∧ Below w.heap.size w w'
theorem cutAt_next {w0 w wr : World} {n n' c' : Nat} {lo : Int} {t : List Int × List Rg} {ad : Addr} {s : Rg} {l2 : List Rg} {b : List Int} (hz : 0 < n') (hn' : n' ≤ n) (hnc' : n' ≤ c') (hR : Rd w0 3 (some ad) n' (cellsG (s :: l2))) (hb : b.length = 128)
    (hF : t = cutB lo l2 (fillB lo s b)) (hK : IntBlk wr w.heap.size (fillB lo s b)) (hB : Below w.heap.size w wr) :
    (¬ c' = 1 → CutAt w0 w n lo t (.slice (some ⟨ad.block, ad.off + 3, none⟩) (n' - 1) (c' - 1)) wr) ∧ (n' ≤ 1 → CutAt w0 w n lo t (.slice (some ad) (n' - 1) 0) wr) := by
  refine ⟨fun _ => ⟨_, _, _, l2, _, rfl, by omega, by omega, by rw [fillB_len, hb], hR.tail, hF, hK, hB⟩, fun h1 => ?_⟩
  have hl := hR.lenG
  simp only [List.length_cons] at hl
  have h0 : l2 = [] := List.eq_nil_of_length_eq_zero (by omega)
  subst h0
  refine ⟨_, _, _, [], _, rfl, by omega, by omega, by rw [fillB_len, hb], ⟨by simp [cellsG]; omega, fun h => absurd h (by omega)⟩, hF, hK, hB⟩
set_option maxRecDepth 100000 in
set_option maxHeartbeats 4000000 in
theorem prCut_any (A : Option Addr) (n c : Nat) (lo z : Int) (l : List Rg) (t : List Int × List Rg) (ht : t = cutB lo l (List.replicate 128 z)) (w0 w : World) (h0 : Below w0.heap.size w0 w) (hr : Rd w0 3 A n (cellsG l)) (hn : n ≤ maxLen) (hnc : n ≤ c) (hl0 : 0 ≤ lo) (hl1 : lo ≤ 1113984) :
    Calls Try.prog 71 #[.int .i64 lo, .slice A n c, .int .i64 z] w (CutPost w0 w n t) := by
  have HR := Lib.hid hr
  have HT := Lib.hid ht
  clear ht hr
  obtain ⟨Z, hZ, hz⟩ := blkZero
  have HZ := Lib.hid hZ
  clear hZ
  have HI := Lib.hid (show LayAt w z (.int .i64 0) (w.alloc (.cells Z 94)) from ⟨0, Nat.zero_le _, rfl, ⟨94, by rw [HZ.out]; exact heap_alloc_last w _⟩, below_new _ _⟩)
  unfold maxLen at hn
  go_enter Try.func71, Try.ntmps71
  go_wp2
  go_loopw [11] (LayAt w z) (fun i _ => 128 - (intOf i).toNat)
  case atStart => exact HI.out
  case round =>
    obtain ⟨k, hk, rfl, hI, hb⟩ := hrel
    by_cases hlt : k < 128
    · have hJ := hI.store k z
      have hb' := below_set hb (Nat.le_refl _) k (.int .i64 z)
      have h0 := hI.cell (j := k) (x := 0) (by rw [List.getElem?_append_right (by simp), List.getElem?_replicate]; simp; omega)
      have h1 := hI.thaw k
      have hd : (List.replicate k z ++ List.replicate (128 - k) 0).set k z = List.replicate (k + 1) z ++ List.replicate (128 - (k + 1)) 0 := by
        rw [List.set_append_right _ _ (by simp), List.length_replicate, Nat.sub_self, show 128 - k = (128 - (k + 1)) + 1 by omega, List.replicate_succ, List.set_cons_zero, List.replicate_succ', List.append_assoc]
        rfl
      rw [hd] at hJ
      have HJ := Lib.hid hJ
      have HB' := Lib.hid hb'
      clear hd hI hJ hb hb'
      go_wp2
      go_roundw
      case rel => exact ⟨k + 1, by omega, by go_num, HJ.out, HB'.out⟩
      case measure => simp [intOf]; omega
    · obtain rfl : k = 128 := by omega
      have HC := Lib.hid (show CutAt w0 w n lo t (.slice A n c) wr from ⟨A, n, c, l, List.replicate 128 z, rfl, Nat.le_refl _, hnc, by simp, HR.out, HT.out, by simpa using hI, hb⟩)
      clear hI hlt hk hb
      go_wp2
      go_loopw [1] (CutAt w0 w n lo t) (fun s _ => lenOf s)
      case atStart => exact HC.out
      case round =>
        obtain ⟨A', n', c', l', b, rfl, hn', hnc', hbl, hr', hp, hI, hbq⟩ := hrel
        have HB := Lib.hid hbl
        have HP := Lib.hid hp
        have HL' := Lib.hid hr'.lenG
        have HII := Lib.hid hI
        have HBQ := Lib.hid hbq
        have HRR := Lib.hid hr'
        clear hbl hp hI hr'
        by_cases hz0 : 0 < n'
        · obtain ⟨s, l2, rfl⟩ : ∃ s l2, l' = s :: l2 := by
            cases l' with
            | nil => exact absurd HL'.out (by simp; omega)
            | cons t l2 => exact ⟨t, l2, rfl⟩
          obtain ⟨ad, rfl, hab, d1, d2, d3⟩ := HRR.out.rg0
          obtain ⟨slo, shi, sv⟩ := s
          simp only at d1 d2 d3
          replace d1 := cell_below h0 d1
          replace d2 := cell_below h0 d2
          replace d3 := cell_below h0 d3
          have c1 := cell_below hbq d1
          have c2 := cell_below hbq d2
          have c3 := cell_below hbq d3
          clear hbq
          by_cases hg : slo ≤ lo + 128 - 1
          · obtain ⟨x0, hx0, hx1, hx2, hx3⟩ : ∃ x0 : Int, x0 = max lo slo ∧ lo ≤ x0 ∧ slo ≤ x0 ∧ (x0 ≤ lo ∨ x0 ≤ slo) := ⟨_, rfl, by omega, by omega, by omega⟩
            have hx4 : x0 ≤ lo + 127 := by omega
            have HX := Lib.hid (show FillAt w lo x0 (slo, shi, sv) b (.int .i64 (max lo slo)) wr from ⟨x0, Int.le_refl _, by omega, .inr rfl, by rw [hx0], by rw [fillTo_start _ _ _ _ hx3]; exact HII.out, HBQ.out⟩)
            go_wp2
            all_goals (
              go_loopw [10] (FillAt w lo x0 (slo, shi, sv) b) (fun i _ => (lo + 128 - intOf i).toNat)
              case atStart => have := HX.out; first | exact this | (rw [show max lo slo = lo by omega] at this; exact this) | (rw [show max lo slo = slo by omega] at this; exact this)
              case round =>
                obtain ⟨x, hxa, hxb, hxc, rfl, hJ, hbr⟩ := hrel
                clear c1 c2 c3
                simp only at hxc
                have c1 := cell_below hbr d1
                have c2 := cell_below hbr d2
                have c3 := cell_below hbr d3
                by_cases hin : x ≤ lo + 127 ∧ x ≤ shi
                · obtain ⟨g1, g2⟩ := hin
                  have hK := hJ.store (x - lo).toNat sv
                  rw [fillTo_step lo (slo, shi, sv) b x (by omega) (by simp only; omega) (by simp only; omega)] at hK
                  have HN := Lib.hid (show FillAt w lo x0 (slo, shi, sv) b (.int .i64 (x + 1)) _ from ⟨x + 1, by omega, by omega, .inl (by simp only; omega), rfl, hK, below_set hbr (Nat.le_refl _) (x - lo).toNat (.int .i64 sv)⟩)
                  obtain ⟨y, hy⟩ : ∃ y, (fillTo lo (slo, shi, sv) x b)[(x - lo).toNat]? = some y := ⟨_, List.getElem?_eq_getElem (by rw [fillTo_len, HB.out]; omega)⟩
                  have e0 := hJ.cell hy
                  have e1 := hJ.thaw (x - lo).toNat
                  clear hy hK hJ hbr
                  go_wp2
                  go_roundw
                  case rel => exact HN.out
                  case measure => simp [intOf]; omega
                · have hK : IntBlk wr w.heap.size (fillB lo (slo, shi, sv) b) := (fillTo_end lo (slo, shi, sv) b x (by rw [HB.out]; simp only; omega)) ▸ hJ
                  have HK := Lib.hid hK
                  have HBR := Lib.hid hbr
                  have hnin : lo + 128 - 1 < x ∨ shi < x := by omega
                  clear hin hJ hK hbr
                  by_cases hov : lo + 128 - 1 < shi
                  · have HF := Lib.hid (HP.out.trans (cutB_over (by simp only; omega) (by simp only; omega)))
                    obtain ⟨T, hgT⟩ := IntBlk.cells HK.out
                    have hlb := (show (fillB lo (slo, shi, sv) b).length = 128 by rw [fillB_len, HB.out])
                    have hsz := blkSize hlb
                    have hs2 := (intsA_size _).trans hlb
                    have hst := run_storeBlk_same hgT hlb
                    go_wp2_with (first
                      | ((with_reducible refine wpList_load_row rfl 94 _ rfl w.heap.size ?_ _ _ (0, 0) _ hgT Try.underlying94 rfl hsz ?_); rfl)
                      | fail)
                    (try simp only [Exit.inBlock, Exit.then])
                    refine bodyPost_ret (v := .tuple #[.agg (intsA (fillB lo (slo, shi, sv) b)), .slice (some ad) n' c']) ?_ rfl ?_
                    · rw [results_cell_tmp rfl]
                      simp [asAddr, Result.andThen, run_loadVar_row _ _ T 94 _ (0, 0) _ hgT Try.underlying94 rfl hsz]
                    · rw [HF.out]
                      exact ⟨⟨_, _, _, rfl, hn', hnc', HRR.out⟩, by rw [fillB_len, HB.out], HBR.out⟩
                  · have HN := cutAt_next hz0 hn' hnc' HRR.out HB.out (HP.out.trans (cutB_on (by simp only; omega) (by simp only; omega))) HK.out HBR.out
                    have HN1 := Lib.hid HN.1
                    have HN2 := Lib.hid HN.2
                    clear HN
                    go_wp2
                    all_goals first
                      | exact ⟨HN1.out (by assumption), by simp only [lenOf]; omega⟩
                      | exact ⟨HN2.out (by omega), by simp only [lenOf]; omega⟩)
          · have HF := Lib.hid (HP.out.trans (cutB_far (lo := lo) (r := (slo, shi, sv)) (l := l2) (b := b) (by simp only; omega)))
            obtain ⟨T, hgT⟩ := IntBlk.cells HII.out
            have hlb := HB.out
            have hsz := blkSize hlb
            have hs2 := (intsA_size _).trans hlb
            have hst := run_storeBlk_same hgT hlb
            go_wp2_with (first
              | ((with_reducible refine wpList_load_row rfl 94 _ rfl w.heap.size ?_ _ _ (0, 0) _ hgT Try.underlying94 rfl hsz ?_); rfl)
              | fail)
            (try simp only [Exit.inBlock, Exit.then])
            refine bodyPost_ret (v := .tuple #[.agg (intsA b), .slice (some ad) n' c']) ?_ rfl ?_
            · rw [results_cell_tmp rfl]
              simp [asAddr, Result.andThen, run_loadVar_row _ _ T 94 _ (0, 0) _ hgT Try.underlying94 rfl hsz]
            · rw [HF.out]
              exact ⟨⟨_, _, _, rfl, hn', hnc', HRR.out⟩, HB.out, HBQ.out⟩
        · have HF := Lib.hid (HP.out.trans (show cutB lo l' b = (b, []) by cases l' with | nil => rfl | cons _ _ => exact absurd HL'.out (by simp; omega)))
          have HN0 := Lib.hid (show Rd w0 3 A' n' (cellsG []) from ⟨by simp [cellsG]; omega, fun h => absurd h hz0⟩)
          obtain ⟨T, hgT⟩ := IntBlk.cells HII.out
          have hlb := HB.out
          have hsz := blkSize hlb
          have hs2 := (intsA_size _).trans hlb
          have hst := run_storeBlk_same hgT hlb
          go_wp2_with (first
            | ((with_reducible refine wpList_load_row rfl 94 _ rfl w.heap.size ?_ _ _ (0, 0) _ hgT Try.underlying94 rfl hsz ?_); rfl)
            | fail)
          (try simp only [Exit.inBlock, Exit.then])
          refine bodyPost_ret (v := .tuple #[.agg (intsA b), .slice A' n' c']) ?_ rfl ?_
          · rw [results_cell_tmp rfl]
            simp [asAddr, Result.andThen, run_loadVar_row _ _ T 94 _ (0, 0) _ hgT Try.underlying94 rfl hsz]
          · rw [HF.out]
            exact ⟨⟨_, _, _, rfl, hn', hnc', HN0.out⟩, HB.out, HBQ.out⟩
end Go.Proofs.Ytcjcimdembkbkaa
/- Blocks of a table as data: what cutting gives, what is kept while the table is laid. -/
namespace Go.Proofs.Ytcjcimdembkbkaa
open Go.RowKit

theorem getG_below {l : List Rg} {y c : Int} (h : ∀ s ∈ l, c < s.1) : getG l y c = y := by
  induction l with
  | nil => rfl
  | cons s l ih =>
    have := h s (by simp)
    rw [getG, if_neg (by omega)]
    exact ih fun t ht => h t (by simp [ht])
theorem getG_behind {l : List Rg} {y c : Int} {s : Rg} (h : s.2.1 < c) : getG (s :: l) y c = getG l y c := by rw [getG, if_neg (by omega)]
/-- Ranges that rise. -/
def Srt (l : List Rg) : Prop := l.Pairwise (fun s t => s.2.1 < t.1) ∧ ∀ s ∈ l, s.1 ≤ s.2.1
theorem Srt.tail {s : Rg} {l : List Rg} (h : Srt (s :: l)) : Srt l := ⟨(List.pairwise_cons.1 h.1).2, fun t ht => h.2 t (by simp [ht])⟩
theorem srt_of_rise : ∀ {l : List Rg} {x : Int}, riseB x l = true → Srt l ∧ ∀ s ∈ l, x < s.1 ∧ s.2.1 ≤ 1114111
  | [], _, _ => ⟨⟨List.Pairwise.nil, by simp⟩, by simp⟩
  | s :: l, x, h => by
    by_cases hc : s.1 ≤ x ∨ s.2.1 < s.1 ∨ 1114111 < s.2.1
    · rw [riseB_no hc] at h; cases h
    · rw [riseB_yes hc] at h
      obtain ⟨⟨h1, h2⟩, h3⟩ := srt_of_rise h
      refine ⟨⟨List.pairwise_cons.2 ⟨fun t ht => (h3 t ht).1, h1⟩, ?_⟩, ?_⟩
      · intro t ht
        rcases List.mem_cons.1 ht with rfl | ht
        · omega
        · exact h2 t ht
      · intro t ht
        rcases List.mem_cons.1 ht with rfl | ht
        · omega
        · have := h3 t ht; omega
theorem cutB_one (lo : Int) : ∀ (l : List Rg) (b : List Int), Srt l → b.length = 128 → (cutB lo l b).1 = b.mapIdx (fun j y => getG l y (lo + j))
  | [], b, _, _ => by
    apply List.ext_getElem?
    intro j
    simp [cutB, getG, List.getElem?_mapIdx]
  | s :: l, b, h, hb => by
    have hlt : ∀ t ∈ l, s.2.1 < t.1 := (List.pairwise_cons.1 h.1).1
    have hs := h.2 s (by simp)
    by_cases h1 : s.1 ≤ lo + 127
    · by_cases h2 : lo + 127 < s.2.1
      · rw [cutB_over h1 h2]
        apply List.ext_getElem?
        intro j
        simp only [fillB, List.getElem?_mapIdx]
        cases hj : b[j]? with
        | none => rfl
        | some y =>
          have hjl := (List.getElem?_eq_some_iff.1 hj).1
          simp only [Option.map_some, getG]
          by_cases hc : s.1 ≤ lo + j ∧ lo + j ≤ s.2.1
          · rw [if_pos hc, if_pos hc]
          · rw [if_neg hc, if_neg hc, getG_below (fun t ht => by have := hlt t ht; omega)]
      · rw [cutB_on h1 (by omega), cutB_one lo l _ h.tail (by rw [fillB_len, hb])]
        apply List.ext_getElem?
        intro j
        simp only [fillB, List.getElem?_mapIdx]
        cases hj : b[j]? with
        | none => rfl
        | some y =>
          simp only [Option.map_some, getG]
          by_cases hc : s.1 ≤ lo + j ∧ lo + j ≤ s.2.1
          · rw [if_pos hc, if_pos hc, getG_below (fun t ht => by have := hlt t ht; omega)]
          · rw [if_neg hc, if_neg hc]
    · rw [cutB_far (by omega)]
      apply List.ext_getElem?
      intro j
      simp only [List.getElem?_mapIdx]
      cases hj : b[j]? with
      | none => rfl
      | some y =>
        have hjl := (List.getElem?_eq_some_iff.1 hj).1
        simp only [Option.map_some]
        rw [getG_below (fun t ht => by
          rcases List.mem_cons.1 ht with rfl | ht
          · omega
          · have := hlt t ht; omega)]
theorem cutB_two (lo : Int) : ∀ (l : List Rg) (b : List Int), Srt l → Srt (cutB lo l b).2 ∧ (∀ s ∈ (cutB lo l b).2, lo + 127 < s.2.1) ∧ ∀ y c, lo + 128 ≤ c → getG l y c = getG (cutB lo l b).2 y c
  | [], b, _ => ⟨⟨List.Pairwise.nil, by simp [cutB]⟩, by simp [cutB], fun _ _ _ => rfl⟩
  | s :: l, b, h => by
    have hlt : ∀ t ∈ l, s.2.1 < t.1 := (List.pairwise_cons.1 h.1).1
    have hs := h.2 s (by simp)
    by_cases h1 : s.1 ≤ lo + 127
    · by_cases h2 : lo + 127 < s.2.1
      · rw [cutB_over h1 h2]
        refine ⟨h, fun t ht => ?_, fun _ _ _ => rfl⟩
        rcases List.mem_cons.1 ht with rfl | ht
        · exact h2
        · have := hlt t ht; have := h.2 t (by simp [ht]); omega
      · rw [cutB_on h1 (by omega)]
        obtain ⟨a1, a2, a3⟩ := cutB_two lo l (fillB lo s b) h.tail
        exact ⟨a1, a2, fun y c hc => by rw [getG_behind (by omega)]; exact a3 y c hc⟩
    · rw [cutB_far (by omega)]
      refine ⟨h, fun t ht => ?_, fun _ _ _ => rfl⟩
      rcases List.mem_cons.1 ht with rfl | ht
      · omega
      · have := hlt t ht; have := h.2 t (by simp [ht]); omega

/-- The values of the codes of block j. -/
def blkAt (l : List Rg) (z : Int) (j : Nat) : List Int := (List.range 128).map fun (t : Nat) => getG l z (128 * (j : Int) + (t : Int))
theorem blkAt_len (l : List Rg) (z : Int) (j : Nat) : (blkAt l z j).length = 128 := by simp [blkAt]
theorem blkAt_at (l : List Rg) (z : Int) (j t : Nat) (ht : t < 128) : (blkAt l z j)[t]? = some (getG l z (128 * (j : Int) + (t : Int))) := by simp [blkAt, ht]
/-- What is left of the ranges when k blocks are cut. -/
def LeftOf (l0 : List Rg) (z : Int) (k : Nat) (l : List Rg) : Prop := Srt l ∧ ∀ c : Int, 128 * (k : Int) ≤ c → getG l0 z c = getG l z c
theorem left_cut {l0 l : List Rg} {z : Int} {k : Nat} (h : LeftOf l0 z k l) : (cutB (128 * (k : Int)) l (List.replicate 128 z)).1 = blkAt l0 z k ∧ LeftOf l0 z (k + 1) (cutB (128 * (k : Int)) l (List.replicate 128 z)).2 := by
  obtain ⟨h1, h2⟩ := h
  refine ⟨?_, ?_⟩
  · rw [cutB_one _ _ _ h1 (by simp)]
    apply List.ext_getElem?
    intro j
    simp only [List.getElem?_mapIdx, List.getElem?_replicate]
    by_cases hj : j < 128
    · rw [if_pos hj, blkAt_at _ _ _ _ hj]
      simp only [Option.map_some]
      rw [h2 _ (by omega)]
    · rw [if_neg hj, List.getElem?_eq_none (by rw [blkAt_len]; omega)]
      rfl
  · obtain ⟨a1, _, a3⟩ := cutB_two (128 * (k : Int)) l (List.replicate 128 z) h1
    exact ⟨a1, fun c hc => by rw [h2 c (by omega)]; exact a3 z c (by omega)⟩

/-- What is kept while the table is laid: k blocks are told, by their places 'wh' among the unlike ones 'bl'. -/
structure StInv (l0 : List Rg) (z : Int) (k : Nat) (bl : List (List Int)) (wh : List Nat) : Prop where
  len : wh.length = k
  at_ : ∀ j, j < k → ∃ q, wh[j]? = some q ∧ bl[q]? = some (blkAt l0 z j)
  nodup : bl.Nodup
  real : ∀ b ∈ bl, ∃ j, j < k ∧ b = blkAt l0 z j
  few : bl.length ≤ k
theorem StInv.start (l0 : List Rg) (z : Int) : StInv l0 z 0 [] [] := ⟨rfl, fun j h => absurd h (by omega), List.nodup_nil, by simp, Nat.le_refl _⟩
theorem StInv.old {l0 : List Rg} {z : Int} {k q : Nat} {bl : List (List Int)} {wh : List Nat} (h : StInv l0 z k bl wh) (hq : bl[q]? = some (blkAt l0 z k)) : StInv l0 z (k + 1) bl (wh ++ [q]) := by
  refine ⟨by simp [h.len], fun j hj => ?_, h.nodup, fun b hb => ?_, by have := h.few; omega⟩
  · by_cases hjk : j < k
    · obtain ⟨q', h1, h2⟩ := h.at_ j hjk
      exact ⟨q', by rw [List.getElem?_append_left (by rw [h.len]; exact hjk)]; exact h1, h2⟩
    · obtain rfl : j = k := by omega
      exact ⟨q, by rw [List.getElem?_append_right (by rw [h.len]; exact Nat.le_refl _), h.len, Nat.sub_self]; rfl, hq⟩
  · obtain ⟨j, h1, h2⟩ := h.real b hb
    exact ⟨j, by omega, h2⟩
theorem StInv.new_ {l0 : List Rg} {z : Int} {k : Nat} {bl : List (List Int)} {wh : List Nat} (h : StInv l0 z k bl wh) (hn : blkAt l0 z k ∉ bl) : StInv l0 z (k + 1) (bl ++ [blkAt l0 z k]) (wh ++ [bl.length]) := by
  refine ⟨by simp [h.len], fun j hj => ?_, ?_, fun b hb => ?_, by have := h.few; simp; omega⟩
  · by_cases hjk : j < k
    · obtain ⟨q', h1, h2⟩ := h.at_ j hjk
      exact ⟨q', by rw [List.getElem?_append_left (by rw [h.len]; exact hjk)]; exact h1, by rw [List.getElem?_append_left ((List.getElem?_eq_some_iff.1 h2).1)]; exact h2⟩
    · obtain rfl : j = k := by omega
      exact ⟨bl.length, by rw [List.getElem?_append_right (by rw [h.len]; exact Nat.le_refl _), h.len, Nat.sub_self]; rfl, by simp⟩
  · rw [List.nodup_append]
    exact ⟨h.nodup, by simp, fun a ha b hb => by simp at hb; subst hb; exact fun e => hn (e ▸ ha)⟩
  · rcases List.mem_append.1 hb with hb | hb
    · obtain ⟨j, h1, h2⟩ := h.real b hb
      exact ⟨j, by omega, h2⟩
    · simp at hb
      exact ⟨k, by omega, hb⟩
end Go.Proofs.Ytcjcimdembkbkaa
/- The table's struct as it is built; a block as an element of a slice literal, and as a map's key. -/
namespace Go.Proofs.Ytcjcimdembkbkaa
open Go.RowKit Go.ChangeShapes Go.WideShapes Go.ChangeAt

set_option maxRecDepth 100000 in
theorem stZero : ∃ Z : Array Value, Z.size = 8706 ∧ Z[8704]? = some (.slice none 0 0) ∧ Z.toList.all (·.oneCell') = true ∧ (Try.prog.info? 87).map (fun i => (i.zero, i.size)) = some (some (.agg Z), 8706) :=
  ⟨(Try.t87.zero.getD (.bool false)).cells, by kernel_rfl, by kernel_rfl, by kernel_rfl, by kernel_rfl⟩
theorem fill_one (place : Nat → Option (Nat × Nat)) (cells : Array Value) (i : Nat) (v : Value) (off size : Nat) (hp : place i = some (off, size)) (hv : v.cells.size = size) (ho : off + size ≤ cells.size) :
    ∃ r, Instr.fill place cells [(i, v)] = some r ∧ r.size = cells.size ∧ ∀ k, r[k]? = if off ≤ k ∧ k < off + size then v.cells[k - off]? else cells[k]? := by
  obtain ⟨g1, g2⟩ := Great.foldl_set off v.cells.toList 0 cells
  refine ⟨(v.cells.toList.zipIdx 0).foldl (fun cs (x : Value × Nat) => cs.setIfInBounds (off + x.2) x.1) cells, ?_, g1, fun k => ?_⟩
  · rw [Instr.fill, hp]
    simp only [hv]
    rw [if_neg (by simp; omega), Instr.fill]
    congr 1
    rw [← Array.foldl_toList]
    simp
  · rw [g2 k]
    simp only [Nat.add_zero, Array.length_toList, hv]
    by_cases hk : off ≤ k ∧ k < off + size
    · rw [if_pos ⟨hk.1, hk.2, by omega⟩, if_pos hk]
      simp
    · rw [if_neg (by omega), if_neg hk]
set_option maxRecDepth 100000 in
/-- stages{none: z}. -/
theorem stBuilt (z : Int) : ∃ C : Array Value, Try.prog.built 87 [(2, .int .i64 z)] = some C ∧ C.size = 8706 ∧ C[8704]? = some (.slice none 0 0) ∧ C[8705]? = some (.int .i64 z) ∧ C.all (·.oneCell') = true := by
  obtain ⟨Z, h1, h2, h3, h4⟩ := stZero
  cases hq : Try.prog.info? 87 with
  | none => rw [hq] at h4; simp at h4
  | some it =>
    rw [hq] at h4
    simp only [Option.map_some, Option.some.injEq, Prod.mk.injEq] at h4
    have hpl : ∀ fs, Try.prog.underlying 87 = some (.struct fs) → List.mapM (fun f => Option.map (fun i => (f.offset, i.size)) (Try.prog.info? f.type)) fs.toList = some [(0, 8704), (8704, 1), (8705, 1)] := by
      intro fs hfs
      rw [Try.underlying87] at hfs
      injection hfs with hfs
      injection hfs with hfs
      subst hfs
      kernel_rfl
    obtain ⟨r, hr, hs, hk⟩ := fill_one (fun x => (#[(0, 8704), (8704, 1), (8705, 1)] : Array (Nat × Nat))[x]?) Z 2 (.int .i64 z) 8705 1 rfl rfl (by omega)
    refine ⟨r, ?_, by rw [hs, h1], by rw [hk, if_neg (by omega)]; exact h2, by rw [hk, if_pos (by omega)]; rfl, ?_⟩
    · unfold Program.built
      rw [hq]
      have hu := Try.underlying87
      rw [hu]
      simp only
      rw [h4.1, hpl _ hu]
      exact hr
    · rw [Array.all_eq_true_iff_forall_mem]
      intro v hv
      obtain ⟨k, hk1, rfl⟩ := Array.getElem_of_mem hv
      have e := hk k
      rw [Array.getElem?_eq_getElem hk1] at e
      by_cases hc : 8705 ≤ k ∧ k < 8705 + 1
      · rw [if_pos hc] at e
        obtain rfl : k = 8705 := by omega
        have : r[8705] = .int .i64 z := by simpa [Value.cells] using e
        rw [this]; rfl
      · rw [if_neg hc] at e
        have := List.all_eq_true.1 h3 r[k] (by
          have := Array.mem_of_getElem? e.symm
          simpa using this)
        exact this
set_option maxRecDepth 100000 in
/-- Table{s}. -/
theorem tabBuilt (cs : Array Value) (hs : cs.size = 8706) : Try.prog.built 90 [(0, .agg cs)] = some cs := by
  have h4 : ∃ Z : Array Value, Z.size = 8706 ∧ (Try.prog.info? 90).map (fun i => (i.zero, i.size)) = some (some (.agg Z), 8706) :=
    ⟨(Try.t90.zero.getD (.bool false)).cells, by kernel_rfl, by kernel_rfl⟩
  obtain ⟨Z, h1, h4⟩ := h4
  cases hq : Try.prog.info? 90 with
  | none => rw [hq] at h4; simp at h4
  | some it =>
    rw [hq] at h4
    simp only [Option.map_some, Option.some.injEq, Prod.mk.injEq] at h4
    have hpl : ∀ fs, Try.prog.underlying 90 = some (.struct fs) → List.mapM (fun f => Option.map (fun i => (f.offset, i.size)) (Try.prog.info? f.type)) fs.toList = some [(0, 8706)] := by
      intro fs hfs
      rw [Try.underlying90] at hfs
      injection hfs with hfs
      injection hfs with hfs
      subst hfs
      kernel_rfl
    obtain ⟨r, hr, hs', hk⟩ := fill_one (fun x => (#[(0, 8706)] : Array (Nat × Nat))[x]?) Z 0 (.agg cs) 0 8706 rfl hs (by omega)
    have e : r = cs := by
      apply Array.ext_getElem?
      intro k
      rw [hk k]
      by_cases hc : 0 ≤ k ∧ k < 0 + 8706
      · rw [if_pos hc]; rfl
      · rw [if_neg hc, Array.getElem?_eq_none (by omega), Array.getElem?_eq_none (by omega)]
    unfold Program.built
    rw [hq]
    have hu := Try.underlying90
    rw [hu]
    simp only
    rw [h4.1, hpl _ hu]
    rw [e] at hr
    exact hr

/-- A literal of one block. -/
theorem blkFill (b : List Int) (hb : b.length = 128) (cells : Array Value) (hc : cells.size = 128) : Instr.fill (fun i => some (i * 128, 128)) cells [(0, .agg (intsA b))] = some (intsA b) := by
  have hz : (Value.agg (intsA b)).cells.size = 128 := by show (intsA b).size = 128; rw [intsA_size, hb]
  obtain ⟨r, hr, hs, hk⟩ := fill_one (fun i => some (i * 128, 128)) cells 0 (.agg (intsA b)) 0 128 rfl hz (by omega)
  rw [hr]
  congr 1
  apply Array.ext_getElem?
  intro k
  rw [hk k]
  by_cases h : 0 ≤ k ∧ k < 0 + 128
  · rw [if_pos h]; rfl
  · rw [if_neg h, Array.getElem?_eq_none (by omega), Array.getElem?_eq_none (by rw [intsA_size]; omega)]

theorem laidOutT : laidOutB Try.prog = true := by kernel_rfl
theorem blkKeyed : Maps.Keyed Try.prog 94 := Maps.Keyed.of_law (deep_law_laid laidOutT (m := 5) (by decide) (of_decide_eq_true (by kernel_rfl)) (by kernel_rfl) (by rw [Try.underlying94]))
theorem mapM_some {α β : Type} {f : α → Option β} : ∀ {l : List α}, (∀ x ∈ l, ∃ y, f x = some y) → ∃ ys, l.mapM f = some ys
  | [], _ => ⟨[], rfl⟩
  | x :: l, h => by
    obtain ⟨y, hy⟩ := h x (by simp)
    obtain ⟨ys, hys⟩ := mapM_some (l := l) (fun u hu => h u (by simp [hu]))
    exact ⟨y :: ys, by simp [hy, hys]⟩
def FitI (x : Int) : Prop := -9223372036854775808 ≤ x ∧ x ≤ 9223372036854775807
theorem blkKey (b : List Int) (hb : b.length = 128) (hf : ∀ x ∈ b, FitI x) : ∃ kl, keyOf Try.prog 94 (.agg (intsA b)) = some kl := by
  have hu := Try.underlying94
  have hk : Try.prog.keyType 94 = true := by kernel_rfl
  have hc : Try.prog.cellsOf 94 = 128 := by kernel_rfl
  have hc3 : Try.prog.cellsOf 3 = 1 := by kernel_rfl
  have hform : (Value.agg (intsA b)).formed Try.prog 94 = true := by
    unfold Value.formed
    rw [hu]
    simp [hc, intsA_size, hb]
  have hs0 : decide (0 < Try.prog.types.size) = true := by kernel_rfl
  obtain ⟨n, hn⟩ : ∃ n, Try.prog.types.size = n + 1 := ⟨Try.prog.types.size - 1, by have := of_decide_eq_true hs0; omega⟩
  unfold keyOf
  rw [hu]
  simp only [hk, hform, Bool.and_self, if_true]
  rw [hn]
  unfold Program.keyLits
  rw [hu]
  dsimp only
  rw [if_pos (show (Value.agg (intsA b)).cells.toList.length = Try.prog.cellsOf 94 by rw [hc]; show (intsA b).toList.length = 128; simp [intsA, hb])]
  obtain ⟨ys, hys⟩ := mapM_some (f := fun i => Try.prog.keyLits (n + 1) 3 (((intsA b).toList.drop (i * Try.prog.cellsOf 3)).take (Try.prog.cellsOf 3))) (l := List.range 128) (fun i hi => by
    have hi' : i < 128 := by simpa using hi
    have hx : b[i]? = some b[i] := List.getElem?_eq_getElem (by omega)
    have hm : ((intsA b).toList.drop (i * Try.prog.cellsOf 3)).take (Try.prog.cellsOf 3) = [.int .i64 b[i]] := by
      rw [hc3, Nat.mul_one]
      show ((b.map (Value.int .i64)).toArray.toList.drop i).take 1 = _
      rw [List.drop_eq_getElem_cons (by simp; omega)]
      simp
    rw [hm]
    unfold Program.keyLits
    rw [Try.underlying3]
    have hw : (Lit.int .i64 b[i]).wf = true := by
      have := hf b[i] (List.getElem_mem _)
      unfold FitI at this
      simp [Lit.wf, IntKind.min, IntKind.max, IntKind.signed, IntKind.bits]
      omega
    simp [hw])
  rw [show (Value.agg (intsA b)).cells = intsA b from rfl, hys]
  exact ⟨_, rfl⟩
theorem intsA_inj {a b : List Int} (h : Value.agg (intsA a) = Value.agg (intsA b)) : a = b := by
  injection h with h
  unfold intsA at h
  have h' : a.map (Value.int .i64) = b.map (Value.int .i64) := by simpa using h
  have hi : Function.Injective (Value.int .i64) := fun x y e => by injection e
  exact (List.map_inj_right (fun x y e => hi e)).1 h'
end Go.Proofs.Ytcjcimdembkbkaa
/- What is held in memory while the table is laid. -/
namespace Go.Proofs.Ytcjcimdembkbkaa
open Go.RowKit

/-- The cells of blocks. -/
def cellsK (bl : List (List Int)) : List Value := bl.flatMap fun b => b.map (Value.int .i64)
theorem cellsK_snoc (bl : List (List Int)) (b : List Int) : cellsK (bl ++ [b]) = cellsK bl ++ b.map (Value.int .i64) := by simp [cellsK]
theorem cellsK_len {bl : List (List Int)} (h : ∀ b ∈ bl, b.length = 128) : (cellsK bl).length = bl.length * 128 := by
  induction bl with
  | nil => rfl
  | cons b bl ih =>
    show (b.map (Value.int .i64) ++ cellsK bl).length = _
    rw [List.length_append, ih (fun c hc => h c (by simp [hc])), List.length_map, h b (by simp), List.length_cons]
    omega
theorem cellsK_at {bl : List (List Int)} (h : ∀ b ∈ bl, b.length = 128) {q j : Nat} {b : List Int} (hq : bl[q]? = some b) (hj : j < 128) : (cellsK bl)[q * 128 + j]? = (b[j]?).map (Value.int .i64) := by
  induction bl generalizing q with
  | nil => simp at hq
  | cons a bl ih =>
    have ha := h a (by simp)
    have hc : cellsK (a :: bl) = a.map (Value.int .i64) ++ cellsK bl := rfl
    rw [hc]
    cases q with
    | zero =>
      simp at hq
      subst hq
      rw [List.getElem?_append_left (by rw [List.length_map, ha]; omega), List.getElem?_map, Nat.zero_mul, Nat.zero_add]
    | succ q =>
      rw [List.getElem?_append_right (by rw [List.length_map, ha]; omega), List.length_map, ha, show (q + 1) * 128 + j - 128 = q * 128 + j by omega]
      exact ih (fun c hc => h c (by simp [hc])) (by simpa using hq)
/-- The map tells of each block its place. -/
def MapIs (D : DataW Unit) (bl : List (List Int)) : Prop := Maps.IsMap D ∧ ∀ b kl, keyOf Try.prog 94 (.agg (intsA b)) = some kl →
  (Maps.has D kl = true ↔ b ∈ bl) ∧ ∀ q, bl[q]? = some b → D.atKey kl (.lit (.int .u16 0)) = .lit (.int .u16 (q : Nat))
theorem MapIs.start : MapIs (.map []) [] := ⟨Maps.isMap_empty, fun b kl _ => ⟨by simp [Maps.has], fun q hq => by simp at hq⟩⟩
theorem MapIs.put {D : DataW Unit} {bl : List (List Int)} {b : List Int} {kl : Lit} (h : MapIs D bl) (hk : keyOf Try.prog 94 (.agg (intsA b)) = some kl) (hn : b ∉ bl) : MapIs (D.put kl (.lit (.int .u16 (bl.length : Nat)))) (bl ++ [b]) := by
  have hl := blkKeyed.key hk
  refine ⟨h.1.put _ _, fun b' kl' hk' => ?_⟩
  by_cases e : b' = b
  · subst e
    obtain rfl : kl = kl' := Option.some.inj (hk.symm.trans hk')
    refine ⟨?_, fun q hq => ?_⟩
    · rw [Maps.has_put_same h.1 hl]
      simp
    · rw [Maps.atKey_put_same h.1 hl]
      have hlt := (List.getElem?_eq_some_iff.1 hq).1
      have : q = bl.length := by
        simp at hlt
        rcases Nat.lt_or_ge q bl.length with h' | h'
        · rw [List.getElem?_append_left h'] at hq
          exact absurd (List.mem_of_getElem? hq) hn
        · omega
      rw [this]
  · have hne : kl' ≠ kl := fun e' => e (intsA_inj (blkKeyed.inj (e' ▸ hk') hk))
    obtain ⟨h1, h2⟩ := h.2 b' kl' hk'
    refine ⟨?_, fun q hq => ?_⟩
    · rw [Maps.has_put_other hne, h1]
      simp [e]
    · rw [Maps.atKey_put_other hne]
      apply h2
      have hlt := (List.getElem?_eq_some_iff.1 hq).1
      rcases Nat.lt_or_ge q bl.length with h' | h'
      · rwa [List.getElem?_append_left h'] at hq
      · exfalso
        obtain rfl : q = bl.length := by simp at hlt; omega
        simp at hq
        exact e hq.symm
/-- The struct's cells, k places laid. -/
structure StCells (cs : Array Value) (z : Int) (wh : List Nat) (v : Value) : Prop where
  size : cs.size = 8706
  blocks : cs[8704]? = some v
  none_ : cs[8705]? = some (.int .i64 z)
  which : ∀ (j q : Nat), wh[j]? = some q → cs[j]? = some (.int .u16 q)
  one : cs.all (·.oneCell') = true
theorem all_set {cs : Array Value} {j : Nat} {u : Value} (h : cs.all (·.oneCell') = true) (hu : u.oneCell' = true) : (cs.setIfInBounds j u).all (·.oneCell') = true := by
  rw [Array.all_eq_true_iff_forall_mem] at h ⊢
  intro x hx
  rcases Array.mem_or_eq_of_mem_setIfInBounds hx with hx | rfl
  · exact h x hx
  · exact hu
theorem StCells.lay {cs : Array Value} {z : Int} {wh : List Nat} {v : Value} (h : StCells cs z wh v) (hk : wh.length < 8704) (q : Nat) : StCells (cs.setIfInBounds wh.length (.int .u16 q)) z (wh ++ [q]) v := by
  refine ⟨by simp [h.size], ?_, ?_, fun j q' hj => ?_, all_set h.one rfl⟩
  · rw [Array.getElem?_setIfInBounds_ne (by omega)]; exact h.blocks
  · rw [Array.getElem?_setIfInBounds_ne (by omega)]; exact h.none_
  · by_cases e : j = wh.length
    · subst e
      rw [List.getElem?_append_right (Nat.le_refl _), Nat.sub_self] at hj
      simp at hj
      subst hj
      rw [Array.getElem?_setIfInBounds_self_of_lt (by rw [h.size]; omega)]
    · have hl := (List.getElem?_eq_some_iff.1 hj).1
      simp at hl
      rw [List.getElem?_append_left (by omega)] at hj
      rw [Array.getElem?_setIfInBounds_ne (by omega)]
      exact h.which j q' hj
theorem StCells.grow {cs : Array Value} {z : Int} {wh : List Nat} {v : Value} (h : StCells cs z wh v) (hk : wh.length ≤ 8704) (v' : Value) (hv : v'.oneCell' = true) : StCells (cs.setIfInBounds 8704 v') z wh v' := by
  refine ⟨by simp [h.size], ?_, ?_, fun j q' hj => ?_, all_set h.one hv⟩
  · rw [Array.getElem?_setIfInBounds_self_of_lt (by rw [h.size]; omega)]
  · rw [Array.getElem?_setIfInBounds_ne (by omega)]; exact h.none_
  · have hl := (List.getElem?_eq_some_iff.1 hj).1
    rw [Array.getElem?_setIfInBounds_ne (by omega)]
    exact h.which j q' hj
/-- A block of cells, none frozen, known whole. -/
def CellBlk (w : World) (g : Nat) (cs : Array Value) : Prop := ∃ T, w.heap[g]? = some (.cells cs T (0, 0))
theorem CellBlk.lt {w : World} {g : Nat} {cs : Array Value} (h : CellBlk w g cs) : g < w.heap.size := by
  obtain ⟨T, h⟩ := h
  exact (Array.getElem?_eq_some_iff.1 h).1
theorem CellBlk.cell {w : World} {g : Nat} {cs : Array Value} (h : CellBlk w g cs) {j : Nat} {u : Value} (hj : cs[j]? = some u) : w.cell? ⟨g, j, none⟩ = some u := by
  obtain ⟨T, h⟩ := h
  simp [World.cell?, h, hj]
theorem CellBlk.thaw {w : World} {g : Nat} {cs : Array Value} (h : CellBlk w g cs) (j : Nat) : w.frozen? ⟨g, j, none⟩ = false := by
  obtain ⟨T, h⟩ := h
  simp [World.frozen?, h]
theorem CellBlk.store {w : World} {g : Nat} {cs : Array Value} (h : CellBlk w g cs) (j : Nat) (u : Value) : CellBlk (w.setCell ⟨g, j, none⟩ u) g (cs.setIfInBounds j u) := by
  obtain ⟨T, h⟩ := h
  exact ⟨T, by simp [World.setCell, Array.getElem?_modify, h]⟩
theorem CellBlk.far {w : World} {g g' : Nat} {cs : Array Value} (h : CellBlk w g cs) (hne : g ≠ g') (j : Nat) (u : Value) : CellBlk (w.setCell ⟨g', j, none⟩ u) g cs := by
  obtain ⟨T, h⟩ := h
  exact ⟨T, (Below.heap_setCell w ⟨g', j, none⟩ u g hne).trans h⟩
theorem CellBlk.grown {w w' : World} {g : Nat} {cs : Array Value} {row : Option Nat} (h : CellBlk w g cs) (hg : w.grownBy w' row) (hne : row ≠ some g) : CellBlk w' g cs := by
  obtain ⟨T, h⟩ := h
  exact ⟨T, blk_grown h hg hne⟩
theorem CellBlk.below {w w' : World} {g : Nat} {cs : Array Value} (h : CellBlk w g cs) (hb : Below w.heap.size w w') : CellBlk w' g cs := h.grown (grown_of_below' none hb) (fun e => by cases e)

/-- What is held in memory while the table is laid: the result's block, the struct's, the map's, the blocks' row. -/
structure StMem (w0 : World) (z : Int) (bl : List (List Int)) (wh : List Nat) (wr : World) : Prop where
  res : ∃ Z : Array Value, Z.size = 8706 ∧ CellBlk wr w0.heap.size Z
  st : ∃ cs v, CellBlk wr (w0.heap.size + 1) cs ∧ StCells cs z wh v ∧ wr.ownsRow (w0.heap.size + 3) 94 128 v bl.length (cellsK bl)
  map : ∃ D : DataW Unit, wr.ownsMap Try.prog 94 (plainElem Try.prog 83) (w0.heap.size + 2) bl.length D ∧ MapIs D bl
  below : Below w0.heap.size w0 wr
def StAt (w0 : World) (l0 : List Rg) (z : Int) (n0 : Nat) (s i : Value) (wr : World) : Prop :=
  ∃ (k n c : Nat) (A : Option Addr) (l : List Rg) (bl : List (List Int)) (wh : List Nat), i = .int .i64 k ∧ k ≤ 8704 ∧ s = .slice A n c ∧ n ≤ n0 ∧ n ≤ c ∧ Rd w0 3 A n (cellsG l) ∧ LeftOf l0 z k l ∧ StInv l0 z k bl wh ∧ StMem w0 z bl wh wr
end Go.Proofs.Ytcjcimdembkbkaa
/- Steps of what is held in memory while the table is laid. -/
namespace Go.Proofs.Ytcjcimdembkbkaa
open Go.RowKit

theorem own_ne {w : World} {base : Nat} {e : TypeId} {size n g : Nat} {v : Value} {xs : List Value} (h : w.ownsRow base e size v n xs) (hg : g < base) : v.ownBlock ≠ some g := fun e => by
  have := (h.lt g e).1
  omega
theorem StMem.grown {w0 wr w' : World} {z : Int} {bl : List (List Int)} {wh : List Nat} (h : StMem w0 z bl wh wr) (hg : wr.grownBy w' none) : StMem w0 z bl wh w' := by
  obtain ⟨Z, hZ, hr⟩ := h.res
  obtain ⟨cs, v, h1, h2, h3⟩ := h.st
  obtain ⟨D, h4, h5⟩ := h.map
  exact ⟨⟨Z, hZ, hr.grown hg (by simp)⟩, ⟨cs, v, h1.grown hg (by simp), h2, h3.kept (row := none) hg (by rcases hv : v.ownBlock with _ | g; exact .inl rfl; exact .inr (by simp))⟩, ⟨D, h4.kept hg (by simp), h5⟩,
    h.below.grown hg h.below.size (fun k hk => by cases hk)⟩
theorem StMem.later {w0 wr w' : World} {z : Int} {bl : List (List Int)} {wh : List Nat} (h : StMem w0 z bl wh wr) (hb : Below wr.heap.size wr w') : StMem w0 z bl wh w' := h.grown (grown_of_below' none hb)
/-- A block that was made behind, written whole. -/
theorem StMem.far {w0 wr w' : World} {z : Int} {bl : List (List Int)} {wh : List Nat} (h : StMem w0 z bl wh wr) {b : Nat} (hb : wr.heap.size ≤ b) (hg0 : wr.grownBy w' none) (cs' : Array Value) : StMem w0 z bl wh (w'.setRow b cs') := by
  have hg : w'.grownBy (w'.setRow b cs') (some b) := ⟨rfl, rfl, rfl, by simp, fun i hi hne => by
    have : b ≠ i := fun e => hne (by rw [e])
    simp [World.setRow, Array.getElem?_modify, this]⟩
  obtain ⟨Z, hZ, hr⟩ := h.res
  obtain ⟨cs, v, h1, h2, h3⟩ := h.st
  obtain ⟨D, h4, h5⟩ := h.map
  have l4 := h4.lt
  have hv : v.ownBlock ≠ some b := fun e => by have := (h3.lt b e).2; omega
  have k3 := h3.kept (row := none) hg0 (by rcases hv : v.ownBlock with _ | g; exact .inl rfl; exact .inr (by simp))
  refine ⟨⟨Z, hZ, (hr.grown hg0 (by simp)).grown hg (by simp; omega)⟩, ⟨cs, v, (h1.grown hg0 (by simp)).grown hg (by simp; omega), h2, k3.kept hg (.inr (fun e => hv e))⟩, ⟨D, (h4.kept hg0 (by simp)).kept hg (by simp; omega), h5⟩, ?_⟩
  have b0 := h.below.grown hg0 h.below.size (fun k hk => by cases hk)
  exact b0.grown hg b0.size (fun k hk => by injection hk with hk; omega)
theorem StMem.lay {w0 wr : World} {z : Int} {bl : List (List Int)} {wh : List Nat} (h : StMem w0 z bl wh wr) (hk : wh.length < 8704) (q : Nat) : StMem w0 z bl (wh ++ [q]) (wr.setCell ⟨w0.heap.size + 1, wh.length, none⟩ (.int .u16 q)) := by
  obtain ⟨Z, hZ, hr⟩ := h.res
  obtain ⟨cs, v, h1, h2, h3⟩ := h.st
  obtain ⟨D, h4, h5⟩ := h.map
  exact ⟨⟨Z, hZ, hr.far (by omega) _ _⟩, ⟨_, v, h1.store _ _, h2.lay hk q, own_set_far h3 (own_ne h3 (by omega))⟩, ⟨D, h4.setCell (by simp) _, h5⟩, below_set h.below (by omega) _ _⟩
/-- A block that is new among the unlike ones: in the map, in the row, and the row in the struct. -/
theorem StMem.push {w0 wr w1 w2 w3 : World} {z : Int} {bl : List (List Int)} {wh : List Nat} {b : List Int} {kl : Lit} {D : DataW Unit} {v v' : Value} (h : StMem w0 z bl wh wr) (hwh : wh.length ≤ 8704)
    (hD : MapIs D bl) (hk : keyOf Try.prog 94 (.agg (intsA b)) = some kl) (hn : b ∉ bl)
    (h1 : w1.ownsMap Try.prog 94 (plainElem Try.prog 83) (w0.heap.size + 2) (bl.length + 1) (D.put kl (.lit (.int .u16 (bl.length : Nat))))) (g1 : wr.grownBy w1 (some (w0.heap.size + 2)))
    (g2 : w1.grownBy w2 none) (h2 : w2.ownsRow (w0.heap.size + 3) 94 128 v bl.length (cellsK bl))
    (h3 : w3.ownsRow (w0.heap.size + 3) 94 128 v' (bl.length + 1) (cellsK bl ++ b.map (Value.int .i64))) (g3 : w2.grownBy w3 v.ownBlock) :
    StMem w0 z (bl ++ [b]) wh (w3.setCell ⟨w0.heap.size + 1, 8704, none⟩ v') := by
  obtain ⟨Z, hZ, hr⟩ := h.res
  obtain ⟨cs, _, c1, c2, _⟩ := h.st
  have hv0 : ∀ g, g < w0.heap.size + 3 → v.ownBlock ≠ some g := fun g hg => own_ne h2 hg
  have hrow : ∀ g, g < w0.heap.size + 3 → v'.ownBlock ≠ some g := fun g hg => own_ne h3 hg
  have c1' := ((c1.grown g1 (by simp)).grown g2 (by simp)).grown g3 (hv0 _ (by omega))
  have hone : v'.oneCell' = true := by
    obtain ⟨_, _, rfl, _⟩ := own_form h3
    rfl
  have hlen : (bl ++ [b]).length = bl.length + 1 := by simp
  refine ⟨⟨Z, hZ, (((hr.grown g1 (by simp)).grown g2 (by simp)).grown g3 (hv0 _ (by omega))).far (by omega) _ _⟩, ⟨_, v', c1'.store _ _, c2.grow hwh v' hone, ?_⟩, ⟨_, ?_, hD.put hk hn⟩, ?_⟩
  · rw [hlen, cellsK_snoc]
    exact own_set_far h3 (hrow _ (by omega))
  · rw [hlen]
    exact ((h1.kept g2 (by simp)).kept g3 (fun e => hv0 _ (by omega) e.symm)).setCell (by simp) _
  · refine below_set ?_ (by omega) _ _
    have b1 := h.below.grown g1 h.below.size (fun k hk => by injection hk with hk; omega)
    have b2 := b1.grown g2 b1.size (fun k hk => by cases hk)
    exact b2.grown g3 b2.size (fun k hk => by have := h2.lt k hk; omega)
end Go.Proofs.Ytcjcimdembkbkaa
/- Whole blocks loaded from wherever they stand, and compared. -/
namespace Go.Proofs.Ytcjcimdembkbkaa
open Go.RowKit

theorem grown_onT {a b c : World} {r : Option Nat} (h : a.grownBy b r) (h' : b.grownBy c none) : a.grownBy c r :=
  ⟨h'.os.trans h.os, h'.tape.trans h.tape, h'.output.trans h.output, Nat.le_trans h.size h'.size, fun i hi hne => (h'.block i (Nat.lt_of_lt_of_le hi h.size) (by simp)).trans (h.block i hi hne)⟩
theorem loadBlkAt {w : World} {a : Addr} {xs : List Int} (h : xs.length = 128) (hc : ∀ j x, xs[j]? = some x → w.cell? (a.add j) = some (.int .i64 x)) :
    (loadVar 94 a).run Try.prog w = .ok (.agg (intsA xs)) w ∧ (loadCellsFrom a 0 128 #[]).run Try.prog w = .ok (intsA xs) w := by
  have hl : (loadCells a (xs.map (Value.int .i64)).length).run Try.prog w = .ok (xs.map (Value.int .i64)).toArray w :=
    run_loadCells_list (P := Try.prog) w a (xs.map (Value.int .i64)) (fun j v hv => by
      rw [List.getElem?_map] at hv
      cases hx : xs[j]? with
      | none => rw [hx] at hv; cases hv
      | some x => rw [hx] at hv; cases hv; exact hc j x hx)
  rw [List.length_map, h] at hl
  refine ⟨?_, by simpa [loadCells, intsA] using hl⟩
  have ha := Try.isAgg94 w
  simp [loadVar, Sem.run_bind, ha, hl, intsA]
theorem IntBlk.load {w : World} {b : Nat} {xs : List Int} (h : IntBlk w b xs) (hl : xs.length = 128) : (loadVar 94 ⟨b, 0, none⟩).run Try.prog w = .ok (.agg (intsA xs)) w ∧ (loadCellsFrom ⟨b, 0, none⟩ 0 128 #[]).run Try.prog w = .ok (intsA xs) w :=
  loadBlkAt hl (fun j x hx => by rw [addNew]; exact h.cell hx)
theorem equalBlk {b d : List Int} {kb kd : Lit} (hb : keyOf Try.prog 94 (.agg (intsA b)) = some kb) (hd : keyOf Try.prog 94 (.agg (intsA d)) = some kd) (w : World) :
    (Op.equal 94 (.agg (intsA b)) (.agg (intsA d))).run Try.prog w = .ok (decide (b = d)) w := by
  obtain ⟨r, hr, hi⟩ := run_equal_deep (P := Try.prog) w (m := 5) (by decide) (k := 94) (by kernel_rfl) (by rw [Try.underlying94]) hb hd
  rw [hr]
  congr 1
  rw [Bool.eq_iff_iff, hi]
  simp only [decide_eq_true_eq]
  exact ⟨fun e => intsA_inj (blkKeyed.inj hb (e ▸ hd)), fun e => by subst e; exact Option.some.inj (hb.symm.trans hd)⟩
theorem eqlBlk {b d : List Int} {kb kd : Lit} (hb : keyOf Try.prog 94 (.agg (intsA b)) = some kb) (hd : keyOf Try.prog 94 (.agg (intsA d)) = some kd) (w : World) :
    (binOp .eql 94 (.agg (intsA b)) (.agg (intsA d))).run Try.prog w = .ok (.bool (decide (b = d))) w ∧ (Op.equalIn 10000 94 (.agg (intsA b)) (.agg (intsA d))).run Try.prog w = .ok (decide (b = d)) w := by
  have h := equalBlk hb hd w
  refine ⟨?_, ?_⟩
  · simp only [binOp]
    simp [h]
  · simpa [Op.equal, Op.maxDepth] using h
/-- The place of a block in the row. -/
theorem own_blk {w : World} {base g n cap q : Nat} {bl : List (List Int)} {b : List Int} (h : w.ownsRow base 94 128 (.slice (some ⟨g, 0, none⟩) n cap) n (cellsK bl)) (hl : ∀ b ∈ bl, b.length = 128) (hq : bl[q]? = some b) :
    ∀ j x, b[j]? = some x → w.cell? ((⟨g, 0, none⟩ : Addr).add (q * 128 + j)) = some (.int .i64 x) := by
  intro j x hx
  have hj := (List.getElem?_eq_some_iff.1 hx).1
  have hb := hl b (List.mem_of_getElem? hq)
  have := h.cells (g := g) rfl (q * 128 + j) (.int .i64 x) (by rw [cellsK_at hl hq (by omega), hx]; rfl)
  exact this
theorem own_some {w : World} {base : Nat} {e : TypeId} {size n : Nat} {v : Value} {xs : List Value} (h : w.ownsRow base e size v n xs) (hn : 0 < n) : ∃ g cap, v = .slice (some ⟨g, 0, none⟩) n cap ∧ n ≤ cap := by
  obtain ⟨g, cap, hv, _, _⟩ := h.form hn
  obtain ⟨A, c, e, hc⟩ := own_form h
  rw [hv] at e
  injection e with e1 e2 e3
  exact ⟨g, cap, hv, by omega⟩
/-- A load of a whole block at a step of a region that only reads. -/
theorem quiet_loadT {C : World → Prop} {a : Act} {o : Oper} {K : Act → Prop} (ty : TypeId) (x : Operand) (ho : o.op = .load ty x) (ad : Addr) (v : Value) (hx : a.eval x = .pointer (some ad)) (hl : ∀ w, C w → (loadVar ty ad).run Try.prog w = .ok v w) (hk : K (a.put o.dst v)) : o.quiet Try.prog a C K :=
  ⟨v, fun w hw => by
    have : (execOp a.eval o).run Try.prog w = .ok (.value v) w := by
      unfold execOp
      simp only [ho, hx, Instr.loadAt, Instr.sureAddr, Sem.run_bind, Sem.run_pure, Result.andThen_ok, hl w hw]
    unfold Oper.quietAt
    rw [this]
    exact ⟨rfl, rfl⟩, hk⟩
/-- == of two blocks at such a step. -/
theorem quiet_eqlT {C : World → Prop} {a : Act} {o : Oper} {K : Act → Prop} (t ty : TypeId) (x y : Operand) (ho : o.op = .binOp .eql t x y ty) (u v : Value) (r : Bool) (hx : a.eval x = u) (hy : a.eval y = v) (hg : ∀ w, (eqGuard .eql t x y u v).run Try.prog w = .ok () w) (hl : ∀ w, (binOp .eql t u v).run Try.prog w = .ok (.bool r) w) (hk : K (a.put o.dst (.bool r))) : o.quiet Try.prog a C K :=
  ⟨.bool r, fun w hw => by
    have : (execOp a.eval o).run Try.prog w = .ok (.value (.bool r)) w := by
      unfold execOp
      simp only [ho, hx, hy, Sem.run_bind, Sem.run_pure]
      rw [hg w]
      simp only [Result.andThen_ok, hl w]
    unfold Oper.quietAt
    rw [this]
    exact ⟨rfl, rfl⟩, hk⟩
end Go.Proofs.Ytcjcimdembkbkaa
/- The round's two ends: a block that is known, and one that is new. -/
namespace Go.Proofs.Ytcjcimdembkbkaa
open Go.RowKit

theorem getG_fit {l : List Rg} {z : Int} (hz : FitI z) (hl : ∀ s ∈ l, FitI s.2.2) (c : Int) : FitI (getG l z c) := by
  induction l with
  | nil => exact hz
  | cons s l ih =>
    rw [getG]
    split
    · exact hl s (by simp)
    · exact ih (fun t ht => hl t (by simp [ht]))
theorem blkAt_fit (l : List Rg) (z : Int) (hz : FitI z) (hl : ∀ s ∈ l, FitI s.2.2) (j : Nat) : ∀ x ∈ blkAt l z j, FitI x := by
  intro x hx
  simp only [blkAt, List.mem_map] at hx
  obtain ⟨t, _, rfl⟩ := hx
  exact getG_fit hz hl _
theorem addOff (g o j : Nat) : (⟨g, o, none⟩ : Addr).add j = ⟨g, o + j, none⟩ := by
  unfold Addr.add
  split
  · rename_i h; subst h; rfl
  · rfl
section
variable {w w2 : World} {l0 rest : List Rg} {z c i : Int} {k n0 n2 c2 : Nat} {A2 : Option Addr} {bl : List (List Int)} {wh : List Nat}
theorem StMem.drewN (h : StMem w z bl wh w2) (nq : Nat) : StMem w z bl wh (w2.drewN nq) := h.grown ⟨rfl, rfl, rfl, Nat.le_refl _, fun _ _ _ => rfl⟩
theorem stAt_old (hL : LeftOf l0 z (k + 1) rest) (hI : StInv l0 z k bl wh) (hk : k < 8704) (hn2 : n2 ≤ n0) (hnc : n2 ≤ c2) (hr : Rd w 3 A2 n2 (cellsG rest)) (hm : StMem w z bl wh w2) {q : Nat} (hq : bl[q]? = some (blkAt l0 z k)) (hc : c = (q : Nat)) (hi : i = (k : Int) + 1) :
    StAt w l0 z n0 (.slice A2 n2 c2) (.int .i64 i) (w2.setCell ⟨w.heap.size + 1, k, none⟩ (.int .u16 c)) := by
  subst hc hi
  have h := hm.lay (by rw [hI.len]; exact hk) q
  rw [hI.len] at h
  exact ⟨k + 1, n2, c2, A2, rest, bl, wh ++ [q], by simp, by omega, rfl, hn2, hnc, hr, hL, hI.old hq, h⟩
theorem stAt_new {w1 w3 w4 : World} {b : List Int} {kl : Lit} {D : DataW Unit} {v v' : Value} (hL : LeftOf l0 z (k + 1) rest) (hI : StInv l0 z k bl wh) (hk : k < 8704) (hn2 : n2 ≤ n0) (hnc : n2 ≤ c2) (hr : Rd w 3 A2 n2 (cellsG rest)) (hm : StMem w z bl wh w2) (hb : b = blkAt l0 z k) (hn : b ∉ bl)
    (hD : MapIs D bl) (hkl : keyOf Try.prog 94 (.agg (intsA b)) = some kl)
    (h1 : w1.ownsMap Try.prog 94 (plainElem Try.prog 83) (w.heap.size + 2) (bl.length + 1) (D.put kl (.lit (.int .u16 (bl.length : Nat))))) (g1 : w2.grownBy w1 (some (w.heap.size + 2)))
    (g2 : w1.grownBy w3 none) (h2 : w3.ownsRow (w.heap.size + 3) 94 128 v bl.length (cellsK bl))
    (h3 : w4.ownsRow (w.heap.size + 3) 94 128 v' (bl.length + 1) (cellsK bl ++ b.map (Value.int .i64))) (g3 : w3.grownBy w4 v.ownBlock) (hc : c = (bl.length : Nat)) (hi : i = (k : Int) + 1) :
    StAt w l0 z n0 (.slice A2 n2 c2) (.int .i64 i) ((w4.setCell ⟨w.heap.size + 1, 8704, none⟩ v').setCell ⟨w.heap.size + 1, k, none⟩ (.int .u16 c)) := by
  have h := StMem.push hm (by rw [hI.len]; omega) hD hkl hn h1 g1 g2 h2 h3 g3
  subst hb hc hi
  have h' := h.lay (by rw [hI.len]; exact hk) bl.length
  rw [hI.len] at h'
  exact ⟨k + 1, n2, c2, A2, rest, bl ++ [blkAt l0 z k], wh ++ [bl.length], by simp, by omega, rfl, hn2, hnc, hr, hL, hI.new_ hn, h'⟩
/-- The cells of the struct that are read and written in a round. -/
theorem StMem.reads (hm : StMem w z bl wh w2) : ∃ (cs : Array Value) (Av : Option Addr) (cv : Nat), CellBlk w2 (w.heap.size + 1) cs ∧ StCells cs z wh (.slice Av bl.length cv) ∧ w2.ownsRow (w.heap.size + 3) 94 128 (.slice Av bl.length cv) bl.length (cellsK bl) := by
  obtain ⟨cs, v, h1, h2, h3⟩ := hm.st
  obtain ⟨A, c, rfl, _⟩ := own_form h3
  exact ⟨cs, A, c, h1, h2, h3⟩
end
theorem blkSlice : SliceOf Try.prog 85 94 128 1024 := by
  obtain ⟨Z, hZ, _⟩ := blkZero
  exact .mk_ (z := .agg (intsA (List.replicate 128 0))) Try.underlying85 (by kernel_rfl) (by show (intsA _).size = 128; simp [intsA])
end Go.Proofs.Ytcjcimdembkbkaa
