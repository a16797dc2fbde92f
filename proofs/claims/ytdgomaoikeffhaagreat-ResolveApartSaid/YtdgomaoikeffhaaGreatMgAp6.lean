/- Texts of one claim, one behind the other. -/
import Derived.Deep.WholeRow
import Derived.Laws.ResultCell
import Derived.KernelRfl
import Derived.Test.YtdgomaoikeffhaaGreatMgAp2
/- Blocks of 128 whole numbers and the table's struct: their zeros; whole blocks loaded and stored. -/
namespace Go.Proofs.YtdgomaoikeffhaaGreat
open Go.RowKit

/-- The cells of whole numbers. -/
def intsA (xs : List Int) : Array Value := (xs.map (Value.int .i64)).toArray
theorem intsA_size (xs : List Int) : (intsA xs).size = xs.length := by simp [intsA]
theorem intsA_one (xs : List Int) : (intsA xs).all (·.oneCell') = true := by
  rw [Array.all_eq_true_iff_forall_mem]
  intro v hv
  simp [intsA] at hv
  obtain ⟨x, _, rfl⟩ := hv
  rfl
theorem IntBlk.cells {w : World} {b : Nat} {xs : List Int} (h : IntBlk w b xs) : ∃ t, w.heap[b]? = some (.cells (intsA xs) t (0, 0)) := h
theorem blkZero : ∃ Z : Array Value, Z = intsA (List.replicate 128 0) ∧ ∀ w, (zeroValue 100).run Tryz.prog w = .ok (.agg Z) w :=
  ⟨_, rfl, (zero_of_info (n := 128) (by kernel_rfl)).1⟩
theorem blkSize {xs : List Int} (h : xs.length = 128) : (Tryz.prog.info? 100).map (·.size) = some (intsA xs).size := by
  rw [intsA_size, h]
  kernel_rfl
theorem modify_same {α : Type} {h : Array α} {g : Nat} {o : α} {f : α → α} (hg : h[g]? = some o) (hf : f o = o) : h.modify g f = h := by
  apply Array.ext_getElem?
  intro i
  rw [Array.getElem?_modify]
  by_cases hi : g = i
  · subst hi
    rw [if_pos rfl, hg]
    simp [hf]
  · rw [if_neg hi]
theorem setRow_same {w : World} {g : Nat} {cs : Array Value} {t : TypeId} (h : w.heap[g]? = some (.cells cs t (0, 0))) : w.setRow g cs = w := by
  unfold World.setRow
  rw [modify_same h rfl]
/-- A whole block stored. -/
theorem run_storeBlk {w : World} {g : Nat} {xs ys : List Int} {T : TypeId} (h : w.heap[g]? = some (.cells (intsA xs) T (0, 0))) (hx : xs.length = 128) (hy : ys.length = 128) :
    (storeCells ⟨g, 0, none⟩ (intsA ys).toList 0).run Tryz.prog w = .ok () (w.setRow g (intsA ys)) := by
  have hi := blkSize hy
  have := run_storeVar_row (P := Tryz.prog) w g T 100 _ (intsA ys) h hi (by rw [intsA_size, intsA_size, hx, hy]) (intsA_one ys)
  cases hq : Tryz.prog.info? 100 with
  | none => simp [hq] at hi
  | some i =>
    have hs : (intsA ys).size = i.size := by simp [hq] at hi; omega
    simpa [storeVar, sizeOf, typeInfo, hq, Value.cells, hs] using this
theorem run_storeBlk_same {w : World} {g : Nat} {xs : List Int} {T : TypeId} (h : w.heap[g]? = some (.cells (intsA xs) T (0, 0))) (hx : xs.length = 128) :
    (storeCells ⟨g, 0, none⟩ (intsA xs).toList 0).run Tryz.prog w = .ok () w := by
  rw [run_storeBlk h hx hx, setRow_same h]
end Go.Proofs.YtdgomaoikeffhaaGreat
/- The project's cutBlock: the block from a code on, and what of the ranges goes on behind it. -/
namespace Go.Proofs.YtdgomaoikeffhaaGreat
open Go.RowKit

def LayAt (w : World) (z : Int) (i : Value) (wr : World) : Prop := ∃ (k : Nat), k ≤ 128 ∧ i = .int .i64 k ∧ IntBlk wr w.heap.size (List.replicate k z ++ List.replicate (128 - k) 0) ∧ Below w.heap.size w wr
def CutAt (w0 w : World) (n : Nat) (lo : Int) (t : List Int × List Rg) (s : Value) (wq : World) : Prop := ∃ (A' : Option Addr) (n' c' : Nat) (l' : List Rg) (b : List Int), s = .slice A' n' c' ∧ n' ≤ n ∧ n' ≤ c' ∧ b.length = 128 ∧ Rd w0 3 A' n' (cellsG l') ∧ t = cutB lo l' b ∧ IntBlk wq w.heap.size b ∧ Below w.heap.size w wq
def FillAt (w : World) (lo x0 : Int) (r : Rg) (b : List Int) (i : Value) (wq : World) : Prop := ∃ x : Int, x0 ≤ x ∧ x ≤ lo + 128 ∧ (x ≤ r.2.1 + 1 ∨ x = x0) ∧ i = .int .i64 x ∧ IntBlk wq w.heap.size (fillTo lo r x b) ∧ Below w.heap.size w wq
def lenOf (s : Value) : Nat := match s with | .slice _ n' _ => n' | _ => 0
def CutPost (w0 w : World) (n : Nat) (t : List Int × List Rg) (e : Ending) (w' : World) : Prop := (∃ A' n' c', e = .returned (.tuple #[.agg (intsA t.1), .slice A' n' c']) ∧ n' ≤ n ∧ n' ≤ c' ∧ Rd w0 3 A' n' (cellsG t.2)) ∧ t.1.length = 128 ∧ Below w.heap.size w w'
theorem cutAt_next {w0 w wr : World} {n n' c' : Nat} {lo : Int} {t : List Int × List Rg} {ad : Addr} {s : Rg} {l2 : List Rg} {b : List Int} (hz : 0 < n') (hn' : n' ≤ n) (hnc' : n' ≤ c') (hR : Rd w0 3 (some ad) n' (cellsG (s :: l2))) (hb : b.length = 128)
    (hF : t = cutB lo l2 (fillTB lo s b)) (hK : IntBlk wr w.heap.size (fillTB lo s b)) (hB : Below w.heap.size w wr) :
    (¬ c' = 1 → CutAt w0 w n lo t (.slice (some ⟨ad.block, ad.off + 3, none⟩) (n' - 1) (c' - 1)) wr) ∧ (n' ≤ 1 → CutAt w0 w n lo t (.slice (some ad) (n' - 1) 0) wr) := by
  refine ⟨fun _ => ⟨_, _, _, l2, _, rfl, by omega, by omega, by rw [fillTB_len, hb], hR.tail, hF, hK, hB⟩, fun h1 => ?_⟩
  have hl := hR.lenG
  simp only [List.length_cons] at hl
  have h0 : l2 = [] := List.eq_nil_of_length_eq_zero (by omega)
  subst h0
  refine ⟨_, _, _, [], _, rfl, by omega, by omega, by rw [fillTB_len, hb], ⟨by simp [cellsG]; omega, fun h => absurd h (by omega)⟩, hF, hK, hB⟩
set_option maxRecDepth 100000 in
set_option maxHeartbeats 4000000 in
theorem prCut_any (A : Option Addr) (n c : Nat) (lo z : Int) (l : List Rg) (t : List Int × List Rg) (ht : t = cutB lo l (List.replicate 128 z)) (w0 w : World) (h0 : Below w0.heap.size w0 w) (hr : Rd w0 3 A n (cellsG l)) (hn : n ≤ maxLen) (hnc : n ≤ c) (hl0 : 0 ≤ lo) (hl1 : lo ≤ 1113984) :
    Calls Tryz.prog 48 #[.int .i64 lo, .slice A n c, .int .i64 z] w (CutPost w0 w n t) := by
  have HR := Lib.hid hr
  have HT := Lib.hid ht
  clear ht hr
  obtain ⟨Z, hZ, hz⟩ := blkZero
  have HZ := Lib.hid hZ
  clear hZ
  have HI := Lib.hid (show LayAt w z (.int .i64 0) (w.alloc (.cells Z 100)) from ⟨0, Nat.zero_le _, rfl, ⟨100, by rw [HZ.out]; exact heap_alloc_last w _⟩, below_new _ _⟩)
  unfold maxLen at hn
  go_enter Tryz.func48, Tryz.ntmps48
  go_wp2
  go_loopw [11] (LayAt w z) (fun i _ => 128 - (intOf i).toNat)
  case atStart => exact HI.out
  case round =>
    obtain ⟨k, hk, rfl, hI, hb⟩ := hrel
    by_cases hlt : k < 128
    · have hJ := hI.store k z
      have hb' := below_set hb (Nat.le_refl _) k (.int .i64 z)
      have h0 := hI.cell (j := k) (x := 0) (by rw [List.getElem?_append_right (by simp), List.getElem?_replicate]; simp; omega)
      have h1 := hI.thaw k
      have hd : (List.replicate k z ++ List.replicate (128 - k) 0).set k z = List.replicate (k + 1) z ++ List.replicate (128 - (k + 1)) 0 := by
        rw [List.set_append_right _ _ (by simp), List.length_replicate, Nat.sub_self, show 128 - k = (128 - (k + 1)) + 1 by omega, List.replicate_succ, List.set_cons_zero, List.replicate_succ', List.append_assoc]
        rfl
      rw [hd] at hJ
      have HJ := Lib.hid hJ
      have HB' := Lib.hid hb'
      clear hd hI hJ hb hb'
      go_wp2
      go_roundw
      case rel => exact ⟨k + 1, by omega, by go_num, HJ.out, HB'.out⟩
      case measure => simp [intOf]; omega
    · obtain rfl : k = 128 := by omega
      have HC := Lib.hid (show CutAt w0 w n lo t (.slice A n c) wr from ⟨A, n, c, l, List.replicate 128 z, rfl, Nat.le_refl _, hnc, by simp, HR.out, HT.out, by simpa using hI, hb⟩)
      clear hI hlt hk hb
      go_wp2
      go_loopw [1] (CutAt w0 w n lo t) (fun s _ => lenOf s)
      case atStart => exact HC.out
      case round =>
        obtain ⟨A', n', c', l', b, rfl, hn', hnc', hbl, hr', hp, hI, hbq⟩ := hrel
        have HB := Lib.hid hbl
        have HP := Lib.hid hp
        have HL' := Lib.hid hr'.lenG
        have HII := Lib.hid hI
        have HBQ := Lib.hid hbq
        have HRR := Lib.hid hr'
        clear hbl hp hI hr'
        by_cases hz0 : 0 < n'
        · obtain ⟨s, l2, rfl⟩ : ∃ s l2, l' = s :: l2 := by
            cases l' with
            | nil => exact absurd HL'.out (by simp; omega)
            | cons t l2 => exact ⟨t, l2, rfl⟩
          obtain ⟨ad, rfl, hab, d1, d2, d3⟩ := HRR.out.rg0
          obtain ⟨slo, shi, sv⟩ := s
          simp only at d1 d2 d3
          replace d1 := cell_below h0 d1
          replace d2 := cell_below h0 d2
          replace d3 := cell_below h0 d3
          have c1 := cell_below hbq d1
          have c2 := cell_below hbq d2
          have c3 := cell_below hbq d3
          clear hbq
          by_cases hg : slo ≤ lo + 128 - 1
          · obtain ⟨x0, hx0, hx1, hx2, hx3⟩ : ∃ x0 : Int, x0 = max lo slo ∧ lo ≤ x0 ∧ slo ≤ x0 ∧ (x0 ≤ lo ∨ x0 ≤ slo) := ⟨_, rfl, by omega, by omega, by omega⟩
            have hx4 : x0 ≤ lo + 127 := by omega
            have HX := Lib.hid (show FillAt w lo x0 (slo, shi, sv) b (.int .i64 (max lo slo)) wr from ⟨x0, Int.le_refl _, by omega, .inr rfl, by rw [hx0], by rw [fillTo_start _ _ _ _ hx3]; exact HII.out, HBQ.out⟩)
            go_wp2
            all_goals (
              go_loopw [10] (FillAt w lo x0 (slo, shi, sv) b) (fun i _ => (lo + 128 - intOf i).toNat)
              case atStart => have := HX.out; first | exact this | (rw [show max lo slo = lo by omega] at this; exact this) | (rw [show max lo slo = slo by omega] at this; exact this)
              case round =>
                obtain ⟨x, hxa, hxb, hxc, rfl, hJ, hbr⟩ := hrel
                clear c1 c2 c3
                simp only at hxc
                have c1 := cell_below hbr d1
                have c2 := cell_below hbr d2
                have c3 := cell_below hbr d3
                by_cases hin : x ≤ lo + 127 ∧ x ≤ shi
                · obtain ⟨g1, g2⟩ := hin
                  have hK := hJ.store (x - lo).toNat sv
                  rw [fillTo_step lo (slo, shi, sv) b x (by omega) (by simp only; omega) (by simp only; omega)] at hK
                  have HN := Lib.hid (show FillAt w lo x0 (slo, shi, sv) b (.int .i64 (x + 1)) _ from ⟨x + 1, by omega, by omega, .inl (by simp only; omega), rfl, hK, below_set hbr (Nat.le_refl _) (x - lo).toNat (.int .i64 sv)⟩)
                  obtain ⟨y, hy⟩ : ∃ y, (fillTo lo (slo, shi, sv) x b)[(x - lo).toNat]? = some y := ⟨_, List.getElem?_eq_getElem (by rw [fillTo_len, HB.out]; omega)⟩
                  have e0 := hJ.cell hy
                  have e1 := hJ.thaw (x - lo).toNat
                  clear hy hK hJ hbr
                  go_wp2
                  go_roundw
                  case rel => exact HN.out
                  case measure => simp [intOf]; omega
                · have hK : IntBlk wr w.heap.size (fillTB lo (slo, shi, sv) b) := (fillTo_end lo (slo, shi, sv) b x (by rw [HB.out]; simp only; omega)) ▸ hJ
                  have HK := Lib.hid hK
                  have HBR := Lib.hid hbr
                  have hnin : lo + 128 - 1 < x ∨ shi < x := by omega
                  clear hin hJ hK hbr
                  by_cases hov : lo + 128 - 1 < shi
                  · have HF := Lib.hid (HP.out.trans (cutB_over (by simp only; omega) (by simp only; omega)))
                    obtain ⟨T, hgT⟩ := IntBlk.cells HK.out
                    have hlb := (show (fillTB lo (slo, shi, sv) b).length = 128 by rw [fillTB_len, HB.out])
                    have hsz := blkSize hlb
                    have hs2 := (intsA_size _).trans hlb
                    have hst := run_storeBlk_same hgT hlb
                    go_wp2_with (first
                      | ((with_reducible refine wpList_load_row rfl 100 _ rfl w.heap.size ?_ _ _ (0, 0) _ hgT Tryz.underlying100 rfl hsz ?_); rfl)
                      | fail)
                    (try simp only [Exit.inBlock, Exit.then])
                    refine bodyPost_ret (v := .tuple #[.agg (intsA (fillTB lo (slo, shi, sv) b)), .slice (some ad) n' c']) ?_ rfl ?_
                    · rw [results_cell_tmp rfl]
                      simp [asAddr, Result.andThen, run_loadVar_row _ _ T 100 _ (0, 0) _ hgT Tryz.underlying100 rfl hsz]
                    · rw [HF.out]
                      exact ⟨⟨_, _, _, rfl, hn', hnc', HRR.out⟩, by rw [fillTB_len, HB.out], HBR.out⟩
                  · have HN := cutAt_next hz0 hn' hnc' HRR.out HB.out (HP.out.trans (cutB_on (by simp only; omega) (by simp only; omega))) HK.out HBR.out
                    have HN1 := Lib.hid HN.1
                    have HN2 := Lib.hid HN.2
                    clear HN
                    go_wp2
                    all_goals first
                      | exact ⟨HN1.out (by assumption), by simp only [lenOf]; omega⟩
                      | exact ⟨HN2.out (by omega), by simp only [lenOf]; omega⟩)
          · have HF := Lib.hid (HP.out.trans (cutB_far (lo := lo) (r := (slo, shi, sv)) (l := l2) (b := b) (by simp only; omega)))
            obtain ⟨T, hgT⟩ := IntBlk.cells HII.out
            have hlb := HB.out
            have hsz := blkSize hlb
            have hs2 := (intsA_size _).trans hlb
            have hst := run_storeBlk_same hgT hlb
            go_wp2_with (first
              | ((with_reducible refine wpList_load_row rfl 100 _ rfl w.heap.size ?_ _ _ (0, 0) _ hgT Tryz.underlying100 rfl hsz ?_); rfl)
              | fail)
            (try simp only [Exit.inBlock, Exit.then])
            refine bodyPost_ret (v := .tuple #[.agg (intsA b), .slice (some ad) n' c']) ?_ rfl ?_
            · rw [results_cell_tmp rfl]
              simp [asAddr, Result.andThen, run_loadVar_row _ _ T 100 _ (0, 0) _ hgT Tryz.underlying100 rfl hsz]
            · rw [HF.out]
              exact ⟨⟨_, _, _, rfl, hn', hnc', HRR.out⟩, HB.out, HBQ.out⟩
        · have HF := Lib.hid (HP.out.trans (show cutB lo l' b = (b, []) by cases l' with | nil => rfl | cons _ _ => exact absurd HL'.out (by simp; omega)))
          have HN0 := Lib.hid (show Rd w0 3 A' n' (cellsG []) from ⟨by simp [cellsG]; omega, fun h => absurd h hz0⟩)
          obtain ⟨T, hgT⟩ := IntBlk.cells HII.out
          have hlb := HB.out
          have hsz := blkSize hlb
          have hs2 := (intsA_size _).trans hlb
          have hst := run_storeBlk_same hgT hlb
          go_wp2_with (first
            | ((with_reducible refine wpList_load_row rfl 100 _ rfl w.heap.size ?_ _ _ (0, 0) _ hgT Tryz.underlying100 rfl hsz ?_); rfl)
            | fail)
          (try simp only [Exit.inBlock, Exit.then])
          refine bodyPost_ret (v := .tuple #[.agg (intsA b), .slice A' n' c']) ?_ rfl ?_
          · rw [results_cell_tmp rfl]
            simp [asAddr, Result.andThen, run_loadVar_row _ _ T 100 _ (0, 0) _ hgT Tryz.underlying100 rfl hsz]
          · rw [HF.out]
            exact ⟨⟨_, _, _, rfl, hn', hnc', HN0.out⟩, HB.out, HBQ.out⟩
end Go.Proofs.YtdgomaoikeffhaaGreat
