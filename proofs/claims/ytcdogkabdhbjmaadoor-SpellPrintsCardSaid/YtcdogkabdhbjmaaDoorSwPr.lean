/- Options as words: the project's Print. -/
import Derived.Test.YtcdogkabdhbjmaaDoorSwW
import Derived.Test.YtcdogkabdhbjmaaDoorSwB
import Derived.Test.YtcdogkabdhbjmaaDoorLayFF
import Derived.Test.YtcdogkabdhbjmaaDoorOpP2
import Derived.BigQuiet
import Derived.Deep.QuietTactic
/- Options as words: strings.Join at a blank; the words so far. -/
namespace Go.Proofs.YtcdogkabdhbjmaaDoor
open Go.RowKit Go.Shelf

theorem jn_extra : Builder.Extra Tryd.prog jn_lays_ren where
  sizeBuilder := by kernel_rfl
  liesBuilder := by kernel_rfl
  t5 := Tryd.underlying5
  a5 := Tryd.isAgg5
  z5 := Tryd.sizeOf5
  v5 := Tryd.zeroValue5
  infoByte := by kernel_rfl
  cellsByte := by kernel_rfl
  sizeByte := by kernel_rfl
  neB5 := by decide
theorem tail_same : ∀ L : List ByteArray, Lib.joinTail [32] (L.map (·.data.toList)) = if L = [] then [] else 32 :: joinB L
  | [] => rfl
  | [w] => by simp [Lib.joinTail, joinB]
  | w :: y :: l => by
    have ih := tail_same (y :: l)
    rw [if_neg (by simp)] at ih
    have e1 : joinB (w :: y :: l) = w.data.toList ++ 32 :: joinB (y :: l) := rfl
    rw [if_neg (by simp), e1]
    show ([32] ++ w.data.toList) ++ Lib.joinTail [32] ((y :: l).map (·.data.toList)) = _
    rw [ih]
    simp
theorem join_same (L : List ByteArray) : Lib.join (L.map (·.data.toList)) [32] = joinB L := by
  cases L with
  | nil => rfl
  | cons w l =>
    rw [List.map_cons, Lib.join_cons, tail_same]
    cases l with
    | nil => simp [joinB]
    | cons y l =>
      have e1 : joinB (w :: y :: l) = w.data.toList ++ 32 :: joinB (y :: l) := rfl
      rw [if_neg (by simp), e1]
/-- The words so far. -/
def wordsTo (o : Opt) (k : Nat) : List ByteArray := (termsL.take k).filterMap fun t => if o.fields.getD t.2.1 0 = t.2.2 then some t.1 else none
theorem wordsTo_all (o : Opt) : wordsTo o 26 = wordsL o := by
  unfold wordsTo wordsL
  rw [List.take_of_length_le (by rw [terms_len]; exact Nat.le_refl _)]
theorem wordsTo_next {o : Opt} {k : Nat} {t : ByteArray × Nat × Int} (h : termsL[k]? = some t) : wordsTo o (k + 1) = wordsTo o k ++ (if o.fields.getD t.2.1 0 = t.2.2 then [t.1] else []) := by
  unfold wordsTo
  rw [List.take_add_one, h]
  rw [List.filterMap_append]
  congr 1
  show List.filterMap _ [t] = _
  rw [List.filterMap_cons, List.filterMap_nil]
  by_cases hc : o.fields.getD t.2.1 0 = t.2.2
  · rw [if_pos hc, if_pos hc]
  · rw [if_neg hc, if_neg hc]
theorem wordsTo_len (o : Opt) (k : Nat) : (wordsTo o k).length ≤ k :=
  Nat.le_trans (List.length_filterMap_le _ _) (List.length_take_le _ _)
theorem printed_len (o : Opt) : (joinB (wordsL o)).length ≤ 390 := by
  have h1 := join_len (wordsL o) (wordsL_ok o)
  have h2 := wordsL_few o
  omega
theorem joined_any (o : Opt) (A : Option Addr) (c : Nat) (w : World) {B : Nat} (hown : w.ownsRow B 9 1 (.slice A (wordsL o).length c) (wordsL o).length ((wordsL o).map Value.string)) :
    Calls Tryd.prog 41 #[.slice A (wordsL o).length c, .string ⟨#[32]⟩] w fun e w' => e = .returned (.string ⟨(joinB (wordsL o)).toArray⟩) ∧ Below w.heap.size w w' := by
  rcases Nat.eq_zero_or_pos (wordsL o).length with h0 | h0
  · have hn := List.eq_nil_of_length_eq_zero h0
    rw [hn]
    exact (Any.strings_Join_none jn_lays jn_extra A c ⟨#[32]⟩ w).mono fun e w' ⟨he, hw⟩ => ⟨he, hw ▸ Below.refl _ _⟩
  · obtain ⟨g, c', hv, hnc, hg, _, hc⟩ := own_at hown h0
    injection hv with h1 _ h3
    subst h1 h3
    have hj := Any.strings_Join jn_lays jn_extra g 0 c (wordsL o) ⟨#[32]⟩ w (fun j x hx => by
      rw [Nat.zero_add]
      exact hc j _ (by rw [List.getElem?_map, hx]; rfl)) hg (by have := wordsL_few o; omega) hnc (by
      show (Lib.join _ [32]).length ≤ _
      rw [join_same]
      have := printed_len o
      omega)
    rw [show Lib.join ((wordsL o).map (·.data.toList)) (⟨#[32]⟩ : ByteArray).data.toList = joinB (wordsL o) from join_same _] at hj
    exact hj
end Go.Proofs.YtcdogkabdhbjmaaDoor
namespace Go.Proofs.YtcdogkabdhbjmaaDoor
open Go.RowKit

set_option maxRecDepth 100000 in
set_option maxHeartbeats 4000000 in
theorem swPrint_any (d l t g : Int) (b0 b1 b2 b3 b4 b5 b6 b7 b8 b9 : Bool) (S : ByteArray) (E : Int) (hR : printF ⟨d, l, t, g, b0, b1, b2, b3, b4, b5, b6, b7, b8, b9⟩ = (S, E)) (w : World) (hT : TermsAt w) (hK : KindsAt w) :
    Calls Tryd.prog 20 #[.agg #[.int .i64 d, .int .i64 l, .int .i64 t, .int .i64 g, .bool b0, .bool b1, .bool b2, .bool b3, .bool b4, .bool b5, .bool b6, .bool b7, .bool b8, .bool b9]] w fun e w' => e = .returned (.tuple #[.string S, .int .i64 E]) ∧ Below w.heap.size w w' := by
  obtain ⟨X, hX⟩ : ∃ X, Opt.err ⟨d, l, t, g, b0, b1, b2, b3, b4, b5, b6, b7, b8, b9⟩ = X := ⟨_, rfl⟩
  have HE := Lib.hid hX
  have HR := Lib.hid (show (S, E) = if X = 0 then (⟨(joinB (wordsL ⟨d, l, t, g, b0, b1, b2, b3, b4, b5, b6, b7, b8, b9⟩)).toArray⟩, 0) else (⟨#[]⟩, X) by rw [← hR, ← hX]; rfl)
  obtain ⟨W1, hW1⟩ : ∃ W1, w.alloc (.cells #[.int .i64 d, .int .i64 l, .int .i64 t, .int .i64 g, .bool b0, .bool b1, .bool b2, .bool b3, .bool b4, .bool b5, .bool b6, .bool b7, .bool b8, .bool b9] 23) = W1 := ⟨_, rfl⟩
  have hO1 : OptAt W1 w.heap.size ⟨d, l, t, g, b0, b1, b2, b3, b4, b5, b6, b7, b8, b9⟩ := by rw [← hW1]; exact OptAt.new_ w ⟨d, l, t, g, b0, b1, b2, b3, b4, b5, b6, b7, b8, b9⟩ 23
  have hb1 : Below w.heap.size w W1 := by rw [← hW1]; exact below_new _ _
  have HT1 := Lib.hid (hT.below hb1)
  have HK1 := Lib.hid (hK.below hb1)
  have HO1 := Lib.hid hO1
  have HB1 := Lib.hid hb1
  have c0 : W1.cell? ⟨w.heap.size, 0, none⟩ = some (.int .i64 d) := hO1.1 0 _ rfl
  have c1 : W1.cell? ⟨w.heap.size, 1, none⟩ = some (.int .i64 l) := hO1.1 1 _ rfl
  have c2 : W1.cell? ⟨w.heap.size, 2, none⟩ = some (.int .i64 t) := hO1.1 2 _ rfl
  have c3 : W1.cell? ⟨w.heap.size, 3, none⟩ = some (.int .i64 g) := hO1.1 3 _ rfl
  have c4 : W1.cell? ⟨w.heap.size, 4, none⟩ = some (.bool b0) := hO1.1 4 _ rfl
  have c5 : W1.cell? ⟨w.heap.size, 5, none⟩ = some (.bool b1) := hO1.1 5 _ rfl
  have c6 : W1.cell? ⟨w.heap.size, 6, none⟩ = some (.bool b2) := hO1.1 6 _ rfl
  have c7 : W1.cell? ⟨w.heap.size, 7, none⟩ = some (.bool b3) := hO1.1 7 _ rfl
  have c8 : W1.cell? ⟨w.heap.size, 8, none⟩ = some (.bool b4) := hO1.1 8 _ rfl
  have c9 : W1.cell? ⟨w.heap.size, 9, none⟩ = some (.bool b5) := hO1.1 9 _ rfl
  have c10 : W1.cell? ⟨w.heap.size, 10, none⟩ = some (.bool b6) := hO1.1 10 _ rfl
  have c11 : W1.cell? ⟨w.heap.size, 11, none⟩ = some (.bool b7) := hO1.1 11 _ rfl
  have c12 : W1.cell? ⟨w.heap.size, 12, none⟩ = some (.bool b8) := hO1.1 12 _ rfl
  have c13 : W1.cell? ⟨w.heap.size, 13, none⟩ = some (.bool b9) := hO1.1 13 _ rfl
  clear hR hX hT hK hO1 hb1
  go_enter Tryd.func20, Tryd.ntmps20
  go_wp2_with fail
  refine (opCheck_any d l t g b0 b1 b2 b3 b4 b5 b6 b7 b8 b9 X HE.out _ HK1.out).mono ?_
  rintro e w2 ⟨rfl, hb2⟩
  have hO2 := HO1.out.below hb2
  have HT2 := Lib.hid (HT1.out.below hb2)
  have HB2 := Lib.hid (below_self HB1.out hb2)
  clear hb2 HK1 HT1 HB1 HO1 c0 c1 c2 c3 c4 c5 c6 c7 c8 c9 c10 c11 c12 c13 hW1
  by_cases hX0 : X = 0
  · subst hX0
    have HY := Lib.hid (show S = ⟨(joinB (wordsL ⟨d, l, t, g, b0, b1, b2, b3, b4, b5, b6, b7, b8, b9⟩)).toArray⟩ ∧ E = 0 by
      have := HR.out
      rw [if_pos rfl] at this
      injection this with e1 e2
      exact ⟨e1, e2⟩)
    have c0 : w2.cell? ⟨w.heap.size, 0, none⟩ = some (.int .i64 d) := hO2.1 0 _ rfl
    have c1 : w2.cell? ⟨w.heap.size, 1, none⟩ = some (.int .i64 l) := hO2.1 1 _ rfl
    have c2 : w2.cell? ⟨w.heap.size, 2, none⟩ = some (.int .i64 t) := hO2.1 2 _ rfl
    have c3 : w2.cell? ⟨w.heap.size, 3, none⟩ = some (.int .i64 g) := hO2.1 3 _ rfl
    have c4 : w2.cell? ⟨w.heap.size, 4, none⟩ = some (.bool b0) := hO2.1 4 _ rfl
    have c5 : w2.cell? ⟨w.heap.size, 5, none⟩ = some (.bool b1) := hO2.1 5 _ rfl
    have c6 : w2.cell? ⟨w.heap.size, 6, none⟩ = some (.bool b2) := hO2.1 6 _ rfl
    have c7 : w2.cell? ⟨w.heap.size, 7, none⟩ = some (.bool b3) := hO2.1 7 _ rfl
    have c8 : w2.cell? ⟨w.heap.size, 8, none⟩ = some (.bool b4) := hO2.1 8 _ rfl
    have c9 : w2.cell? ⟨w.heap.size, 9, none⟩ = some (.bool b5) := hO2.1 9 _ rfl
    have c10 : w2.cell? ⟨w.heap.size, 10, none⟩ = some (.bool b6) := hO2.1 10 _ rfl
    have c11 : w2.cell? ⟨w.heap.size, 11, none⟩ = some (.bool b7) := hO2.1 11 _ rfl
    have c12 : w2.cell? ⟨w.heap.size, 12, none⟩ = some (.bool b8) := hO2.1 12 _ rfl
    have c13 : w2.cell? ⟨w.heap.size, 13, none⟩ = some (.bool b9) := hO2.1 13 _ rfl
    clear hO2
    go_wp2_with fail
    refine (swFields_any d l t g b0 b1 b2 b3 b4 b5 b6 b7 b8 b9 _).mono ?_
    rintro e w3 ⟨rfl, hb3⟩
    have HT3 := Lib.hid (HT2.out.below hb3)
    have HB3 := Lib.hid (below_self HB2.out hb3)
    clear hb3 HT2 HB2 c0 c1 c2 c3 c4 c5 c6 c7 c8 c9 c10 c11 c12 c13
    simp only [Opt.fields, List.map_cons, List.map_nil]
    obtain ⟨W4, hW4⟩ : ∃ W4, w3.alloc (.cells #[.int .i64 d, .int .i64 l, .int .i64 t, .int .i64 g, .int .i64 (Opt.bi b0), .int .i64 (Opt.bi b1), .int .i64 (Opt.bi b2), .int .i64 (Opt.bi b3), .int .i64 (Opt.bi b4), .int .i64 (Opt.bi b5), .int .i64 (Opt.bi b6), .int .i64 (Opt.bi b7), .int .i64 (Opt.bi b8), .int .i64 (Opt.bi b9)] 62) = W4 := ⟨_, rfl⟩
    have hF4 : CellsAt W4 w3.heap.size [.int .i64 d, .int .i64 l, .int .i64 t, .int .i64 g, .int .i64 (Opt.bi b0), .int .i64 (Opt.bi b1), .int .i64 (Opt.bi b2), .int .i64 (Opt.bi b3), .int .i64 (Opt.bi b4), .int .i64 (Opt.bi b5), .int .i64 (Opt.bi b6), .int .i64 (Opt.bi b7), .int .i64 (Opt.bi b8), .int .i64 (Opt.bi b9)] := by rw [← hW4]; exact CellsAt.new_ w3 _ _
    have hb4 : Below w3.heap.size w3 W4 := by rw [← hW4]; exact below_new _ _
    have hl4 : w3.heap.size < W4.heap.size := by rw [← hW4]; simp
    have hls : w.heap.size ≤ w3.heap.size := HB3.out.size
    have HLT := Lib.hid (loadTerms (HT3.out.below hb4))
    have HF4 := Lib.hid hF4
    have HB4 := Lib.hid (below_self HB3.out hb4)
    clear hF4 hb4 HT3 HB3
    go_wp2_with ((with_reducible refine wpList_loadV rfl 66 _ rfl ⟨0, 0, none⟩ (.agg termsA) ?_ HLT.out ?_); rfl)
    clear hW4
    generalize hfb : w3.heap.size = fb at *
    have HFB := Lib.hid (show fb < W4.heap.size ∧ w.heap.size ≤ fb from ⟨hl4, hls⟩)
    obtain ⟨o, ho⟩ : ∃ o : Opt, ⟨d, l, t, g, b0, b1, b2, b3, b4, b5, b6, b7, b8, b9⟩ = o := ⟨_, rfl⟩
    have HFO := Lib.hid (show ([.int .i64 d, .int .i64 l, .int .i64 t, .int .i64 g, .int .i64 (Opt.bi b0), .int .i64 (Opt.bi b1), .int .i64 (Opt.bi b2), .int .i64 (Opt.bi b3), .int .i64 (Opt.bi b4), .int .i64 (Opt.bi b5), .int .i64 (Opt.bi b6), .int .i64 (Opt.bi b7), .int .i64 (Opt.bi b8), .int .i64 (Opt.bi b9)] : List Value) = o.fields.map (Value.int .i64) by rw [← ho]; rfl)
    rw [ho] at HY
    rw [HFO.out] at HF4
    clear hfb ho hl4 hls HR HE
    go_loopw [6, 17] (fun v i wr => ∃ (k : Nat), k ≤ 26 ∧ i = .int .i64 k ∧ wr.ownsRow (fb + 1) 9 1 v (wordsTo o k).length ((wordsTo o k).map Value.string) ∧ CellsAt wr fb (o.fields.map (Value.int .i64)) ∧ Below w.heap.size w wr) (fun _ i _ => 26 - (intOf i).toNat)
    case atStart => exact ⟨0, Nat.zero_le _, rfl, World.ownsRow_nil _ _ _ _, HF4.out, HB4.out⟩
    case round =>
      obtain ⟨k, hk, rfl, hown, hF, hb⟩ := hrel
      obtain ⟨A, c, rfl, hnc⟩ := own_form hown
      have hwl := wordsTo_len o k
      by_cases hlt : k < 26
      · obtain ⟨⟨wd, f, m⟩, ht⟩ : ∃ t, termsL[k]? = some t := ⟨_, List.getElem?_eq_getElem (by rw [terms_len]; exact hlt)⟩
        obtain ⟨hf, _⟩ := terms_ok _ (List.mem_of_getElem? ht)
        simp only at hf
        have hidx : ∀ w, (Instr.index 66 (.agg termsA) (.int .i64 (k : Int))).run Tryd.prog w = .ok (.agg #[.string wd, .int .i64 (f : Int), .int .i64 m]) w := fun w => idxTerms ht w
        obtain ⟨z, hz⟩ : ∃ z, o.fields[f]? = some z := ⟨_, List.getElem?_eq_getElem hf⟩
        have HN := Lib.hid (show wordsTo o (k + 1) = wordsTo o k ++ (if z = m then [wd] else []) by
          rw [wordsTo_next ht]
          simp only
          rw [List.getD_eq_getElem?_getD, hz]
          rfl)
        have hlf : fb < wr.heap.size := cell_lt (hF.1 f _ (by rw [List.getElem?_map, hz]; rfl))
        obtain ⟨W5, hW5⟩ : ∃ W5, wr.alloc (.cells #[.string wd, .int .i64 (f : Int), .int .i64 m] 65) = W5 := ⟨_, rfl⟩
        have hC5 : CellsAt W5 wr.heap.size [.string wd, .int .i64 (f : Int), .int .i64 m] := by rw [← hW5]; exact CellsAt.new_ wr _ _
        have hb5 : Below wr.heap.size wr W5 := by rw [← hW5]; exact below_new _ _
        have t0 : W5.cell? ⟨wr.heap.size, 0, none⟩ = some (.string wd) := hC5.1 0 _ rfl
        have t1 : W5.cell? ⟨wr.heap.size, 1, none⟩ = some (.int .i64 (f : Int)) := hC5.1 1 _ rfl
        have t2 : W5.cell? ⟨wr.heap.size, 2, none⟩ = some (.int .i64 m) := hC5.1 2 _ rfl
        have hF5 := hF.below hb5 hlf
        have cz : W5.cell? ⟨fb, f, none⟩ = some (.int .i64 z) := hF5.1 f _ (by rw [List.getElem?_map, hz]; rfl)
        have HO5 := Lib.hid (own_below hown hb5)
        have HF5 := Lib.hid hF5
        have hB5 := hb.trans (hb5.mono hb.size)
        have HB5 := Lib.hid hB5
        have hf0 : (f : Int) < 14 := by omega
        clear ht hz hC5 hb5 hF5 hown hF hb hB5
        by_cases hzm : z = m
        · subst hzm
          have HM := Lib.hid (show wordsTo o (k + 1) = wordsTo o k ++ [wd] by rw [HN.out, if_pos rfl])
          clear HN
          go_wp2
          go_quiet (fail)
          have HO6 := Lib.hid (show (W5.drewN nq).ownsRow (fb + 1) 9 1 (.slice A (wordsTo o k).length c) (wordsTo o k).length ((wordsTo o k).map Value.string) from HO5.out)
          have HF6 := Lib.hid (show CellsAt (W5.drewN nq) fb (o.fields.map (Value.int .i64)) from HF5.out)
          have HB6 := Lib.hid (below_drewN HB5.out nq)
          have t0' : (W5.drewN nq).cell? ⟨wr.heap.size, 0, none⟩ = some (.string wd) := t0
          clear t0 t1 t2 cz HO5 HF5 HB5 hW5
          generalize W5.drewN nq = W6 at *
          have hs6 := HB6.out.size
          have hf6 : fb < W6.heap.size := cell_lt (HF6.out.1 0 _ rfl)
          go_wp2_with (at_builtin; refine wpList_app rfl _ _ _ rfl strSlice (by decide) _ (wordsTo o k).length _ rfl (HO6.out.alloc _) ⟨W6.heap.size, 0, none⟩ 1 1 [.string wd] rfl rfl (cells_new W6 [_] _) (oneStr _) (by omega) (by unfold maxLen; omega) (by simp; omega) ?_; intro v1 w1 hown1 hg1 hat1)
          have hbX : Below (fb + 1) W6 w1 := below_app ((Below.refl (fb + 1) W6).alloc (by omega) _) hg1 (HO6.out.alloc _) (by simp; omega)
          have HW := Lib.hid (show w1.ownsRow (fb + 1) 9 1 v1 (wordsTo o (k + 1)).length ((wordsTo o (k + 1)).map Value.string) by
            rw [HM.out]
            simpa using hown1)
          have HX := Lib.hid (show CellsAt w1 fb (o.fields.map (Value.int .i64)) from ⟨fun j v hv => (cell_upto hbX (by show fb < fb + 1; omega)).trans (HF6.out.1 j v hv), fun j => (hbX.frozen (by show fb < fb + 1; omega)).trans (HF6.out.2 j)⟩)
          have HB7 := Lib.hid (HB6.out.trans (hbX.mono (by have := HFB.out.2; omega)))
          clear hown1 hg1 hat1 hbX
          go_wp2
          go_roundw
          case rel => exact ⟨k + 1, by omega, by go_num, HW.out, HX.out, HB7.out⟩
          case measure => simp [intOf]; omega
        · have HM := Lib.hid (show wordsTo o (k + 1) = wordsTo o k by rw [HN.out, if_neg hzm, List.append_nil])
          have g1 : (z == m) = false := by simp [hzm]
          clear HN hzm
          go_wp2
          go_quiet (fail)
          have HO6 := Lib.hid (show (W5.drewN nq).ownsRow (fb + 1) 9 1 (.slice A (wordsTo o k).length c) (wordsTo o k).length ((wordsTo o k).map Value.string) from HO5.out)
          have HF6 := Lib.hid (show CellsAt (W5.drewN nq) fb (o.fields.map (Value.int .i64)) from HF5.out)
          have HB6 := Lib.hid (below_drewN HB5.out nq)
          clear t0 t1 t2 cz HO5 HF5 HB5 hW5
          generalize W5.drewN nq = W6 at *
          go_wp2
          go_roundw
          case rel => exact ⟨k + 1, by omega, by go_num, by rw [HM.out]; exact HO6.out, HF6.out, HB6.out⟩
          case measure => simp [intOf]; omega
      · obtain rfl : k = 26 := by omega
        rw [wordsTo_all] at hown
        have HJ := Lib.hid (joined_any o A c wr hown)
        have HB := Lib.hid hb
        rw [wordsTo_all]
        clear hown hF hb
        go_wp2_with fail
        refine HJ.out.mono ?_
        rintro e w9 ⟨rfl, hb9⟩
        have HB9 := Lib.hid (below_self HB.out hb9)
        clear hb9
        go_wp2_with fail
        go_ret2
        exact ⟨by rw [HY.out.1, HY.out.2]; rfl, HB9.out⟩
  · have HY := Lib.hid (show S = ⟨#[]⟩ ∧ E = X by
      have := HR.out
      rw [if_neg hX0] at this
      injection this with e1 e2
      exact ⟨e1, e2⟩)
    have g1 : (X != 0) = true := by simp [hX0]
    clear hX0 hO2
    go_wp2_with fail
    go_ret2
    exact ⟨by rw [HY.out.1, HY.out.2]; rfl, HB2.out⟩
end Go.Proofs.YtcdogkabdhbjmaaDoor
