/- Texts of one claim, one behind the other. -/
import Derived.Deep.RegionLaw
import Derived.Deep.RegionHeld3
import Derived.Deep.DeepCutAuto
import Derived.Deep.CutBlock
import Derived.Test.YtmgoakfnmgngoaaMgCm2
import Derived.Test.YtmgoakfnmgngoaaMgCm3
/- Cells that there are none of: Set, At, Text, Clusters, Join. -/
namespace Go.Proofs.Ytmgoakfnmgngoaa
open Go.RowKit
/-- Cells of which there is none. -/
def NoCells (w0 : World) (p : Value) : Prop := ∀ W, Below w0.heap.size w0 W → Calls Try.prog 68 #[p] W fun e w' => e = .returned (.agg #[.int .i64 0, .int .i64 0]) ∧ Below W.heap.size W w'
theorem NoCells.low {w0 w : World} {p : Value} (h : NoCells w0 p) (hb : Below w0.heap.size w0 w) : NoCells w p := fun W hW => h W (below_self hb hW)
theorem none_blk {w0 : World} {b : Nat} (hc : w0.cell? ⟨b, 0, none⟩ = some (.slice none 0 0)) : NoCells w0 (.pointer (some ⟨b, 0, none⟩)) := fun W hW => all_any b none 0 0 W (cell_below hW hc)
set_option maxRecDepth 100000 in
set_option maxHeartbeats 1000000 in
theorem none_nil (w0 : World) : NoCells w0 (.pointer none) := fun w _ => by
  have s1 := SpanBlk.new_ w 0 0 31
  obtain ⟨c0, c1, f0, f1⟩ := s1
  go_enter Try.func68, Try.ntmps68
  go_wp2_with fail
  refine bodyPost_ret (v := .agg #[.int .i64 0, .int .i64 0]) (results_cell_row rfl _ _ w.heap.size 31 #[.int .i64 0, .int .i64 0] (0, 0) _ rfl (heap_alloc_new w _) Try.underlying31 rfl (by kernel_rfl)) rfl ?_
  exact ⟨rfl, below_new w _⟩
theorem right00 : rightB ((0 : Int), (0 : Int)) = false := rfl
set_option maxRecDepth 100000 in
set_option maxHeartbeats 1000000 in
theorem set_none (p : Value) (i : Int) (A : Option Addr) (q c : Nat) (w : World) (h : NoCells w p) :
    Calls Try.prog 36 #[p, .int .i64 i, .slice A q c] w fun e w' => e = .returned (.int .i64 1) ∧ Below w.heap.size w w' := by
  have H := Lib.hid (h w (Below.refl _ _))
  clear h
  go_enter Try.func36, Try.ntmps36
  go_wp2_with fail
  refine H.out.mono ?_
  rintro e w1 ⟨rfl, hb1⟩
  go_wp2_with fail
  refine (prHas_any 0 0 i w1).mono ?_
  rintro e w2 ⟨rfl, hb2⟩
  rw [show hasB ((0 : Int), (0 : Int)) i = false by unfold hasB; exact decide_eq_false (by simp only; omega)]
  have hb3 := below_self hb1 hb2
  go_wp2_with fail
  go_ret
  exact ⟨rfl, hb3⟩
set_option maxRecDepth 100000 in
set_option maxHeartbeats 1000000 in
theorem at_none (p : Value) (i : Int) (w : World) (h : NoCells w p) :
    Calls Try.prog 32 #[p, .int .i64 i] w fun e w' => e = .returned (.slice none 0 0) ∧ Below w.heap.size w w' := by
  have H := Lib.hid (h w (Below.refl _ _))
  clear h
  go_enter Try.func32, Try.ntmps32
  go_wp2_with fail
  refine H.out.mono ?_
  rintro e w1 ⟨rfl, hb1⟩
  go_wp2_with fail
  refine (prHas_any 0 0 i w1).mono ?_
  rintro e w2 ⟨rfl, hb2⟩
  rw [show hasB ((0 : Int), (0 : Int)) i = false by unfold hasB; exact decide_eq_false (by simp only; omega)]
  have hb3 := below_self hb1 hb2
  go_wp2_with fail
  go_ret
  exact ⟨rfl, hb3⟩
set_option maxRecDepth 100000 in
set_option maxHeartbeats 1000000 in
theorem text_none (p : Value) (w : World) (h : NoCells w p) :
    Calls Try.prog 30 #[p] w fun e w' => e = .returned (.slice none 0 0) ∧ Below w.heap.size w w' := by
  have H := Lib.hid (h w (Below.refl _ _))
  clear h
  go_enter Try.func30, Try.ntmps30
  go_wp2_with fail
  refine H.out.mono ?_
  rintro e w1 ⟨rfl, hb1⟩
  have hb2 := below_new w1 (.cells #[.int .i64 0, .int .i64 0] 31)
  have s2 := SpanBlk.new_ w1 0 0 31
  obtain ⟨p0, p1, f0, f1⟩ := s2
  have hbw := below_self hb1 hb2
  clear f0 f1 hb1 hb2
  go_wp2_with fail
  refine (prRight_any 0 0 _).mono ?_
  rintro e w3 ⟨rfl, hb3⟩
  rw [right00]
  have hb4 := below_self hbw hb3
  clear p0 p1
  go_wp2_with fail
  go_ret
  exact ⟨rfl, hb4⟩
set_option maxRecDepth 100000 in
set_option maxHeartbeats 1000000 in
theorem clusters_none (p : Value) (w : World) (h : NoCells w p) :
    Calls Try.prog 34 #[p] w fun e w' => e = .returned (.tuple #[.slice none 0 0, .int .i64 0]) ∧ Below w.heap.size w w' := by
  have H := Lib.hid (h w (Below.refl _ _))
  clear h
  go_enter Try.func34, Try.ntmps34
  go_wp2_with fail
  refine H.out.mono ?_
  rintro e w1 ⟨rfl, hb1⟩
  have hb2 := below_new w1 (.cells #[.int .i64 0, .int .i64 0] 31)
  have s2 := SpanBlk.new_ w1 0 0 31
  obtain ⟨p0, p1, f0, f1⟩ := s2
  have hbw := below_self hb1 hb2
  clear f0 f1 hb1 hb2
  go_wp2_with fail
  refine (prRight_any 0 0 _).mono ?_
  rintro e w3 ⟨rfl, hb3⟩
  rw [right00]
  have hb4 := below_self hbw hb3
  clear p0 p1
  go_wp2_with fail
  exact bodyPost_ret (v := .tuple #[.slice none 0 0, .int .i64 0]) (by simp [results, go_sem]) rfl ⟨rfl, hb4⟩
set_option maxRecDepth 100000 in
set_option maxHeartbeats 2000000 in
theorem join_none (p : Value) (lo hi : Int) (w : World) (h : NoCells w p) :
    Calls Try.prog 38 #[p, .agg #[.int .i64 lo, .int .i64 hi]] w fun e w' => e = .returned (.int .i64 1) ∧ Below w.heap.size w w' := by
  have hbn := below_new w (.cells #[.int .i64 lo, .int .i64 hi] 31)
  have s1 := SpanBlk.new_ w lo hi 31
  have h1 := h.low hbn
  obtain ⟨W1, hW1⟩ : ∃ W1, w.alloc (.cells #[.int .i64 lo, .int .i64 hi] 31) = W1 := ⟨_, rfl⟩
  rw [hW1] at hbn s1 h1
  obtain ⟨d0, d1, f0, f1⟩ := s1
  simp only at d0 d1
  obtain ⟨bs, hbs⟩ : ∃ bs, w.heap.size = bs := ⟨_, rfl⟩
  rw [hbs] at d0 d1
  have HB := Lib.hid hbn
  have HA := Lib.hid (fun W (k : Below W1.heap.size W1 W) => h1 W k)
  have hfd : ∀ w : World, (Instr.field 31 (.agg #[.int .i64 0, .int .i64 0]) 1).run Try.prog w = .ok (.int .i64 0) w := fun _ => by kernel_rfl
  clear h h1 hbn f0 f1
  go_enter Try.func38, Try.ntmps38
  go_upto_region 1 with fail
  try simp only [hW1, hbs]
  go_cut [16] (fun s wx => s = .bool true ∧ Below W1.heap.size W1 wx)
  case first =>
    cases hrb : rightB (lo, hi) with
    | false =>
      first
        | (go_region_law (first
            | (go_simp; go_at_call 69; refine (prRight_any lo hi _).mono ?_; rintro e' w4 ⟨rfl, hb4⟩; rw [hrb]; have hz4 : Below W1.heap.size W1 w4 := (by first | exact below_self (Below.refl _ _).drew hb4 | exact hb4); have y0 := cell_below hz4 d0; have y1 := cell_below hz4 d1)
            | fail))
        | fail
      all_goals (
        have HZ := Lib.hid hz4
        clear hz4 hb4 y0 y1
        go_wp2_with fail
        rename_i hJ
        refine Met.intro (hJ _ _ ?_)
        (repeat apply Exists.intro)
        refine ⟨?_, rfl⟩)
      all_goals exact ⟨rfl, HZ.out⟩
    | true =>
      have hpos : 0 < hi := by have := of_decide_eq_true hrb; simp only at this; omega
      go_region_held3 (fun w' => w'.cell? ⟨bs, 0, none⟩ = some (.int .i64 lo) ∧ w'.cell? ⟨bs, 1, none⟩ = some (.int .i64 hi) ∧ Below W1.heap.size W1 w')
        (first
          | exact ⟨d0, d1, Below.refl _ _⟩
          | exact ⟨d0, d1, (Below.refl _ _).drew⟩
          | exact ⟨cell_below hz4 d0, cell_below hz4 d1, hz4⟩
          | exact ⟨cell_below hz5 d0, cell_below hz5 d1, hz5⟩
          | fail)
        (first
          | (go_at_call 69; refine (prRight_any lo hi _).mono ?_; rintro e' w4 ⟨rfl, hb4⟩; rw [hrb]; have hz4 : Below W1.heap.size W1 w4 := (by first | exact below_self (Below.refl _ _).drew hb4 | exact hb4))
          | (go_at_call 68; refine (HA.out _ hz4).mono ?_; rintro e' w5 ⟨rfl, hb5⟩; have hz5 : Below W1.heap.size W1 w5 := below_self hz4 hb5)
          | fail)
      have HZ := Lib.hid hz5
      clear hz4 hb4 hz5 hb5
      go_wp2_with fail
      go_meet
      case rel => exact ⟨rfl, HZ.out⟩
  case rest =>
    obtain ⟨rfl, hb⟩ := hcut
    clear hbs hW1
    have hb2 := below_self HB.out hb
    go_wp2_with fail
    go_ret
    exact ⟨rfl, hb2⟩
end Go.Proofs.Ytmgoakfnmgngoaa
