/- Texts of one claim, one behind the other. -/
import Derived.Shelf.Abstract
import Derived.Test.YtmgoakfnmgngoaaMgCm1
import Derived.Test.YtmgoakfnmgngoaaMgCm2
/- slices.ContainsFunc at clusters, CellsMap's closure. -/
namespace Go.Proofs.Ytmgoakfnmgngoaa
open Go.RowKit

/-- A cluster as a value. -/
def clV (x : Cl) : Value := .agg #[.int .i64 x.1.1, .int .i64 x.1.2, .int .i64 x.2.1, .int .i64 x.2.2]
def holdB (s : Sp) (x : Cl) : Bool := decide (x.1.1 ≤ s.1) && decide (s.2 ≤ x.1.2)
set_option maxRecDepth 100000 in
set_option maxHeartbeats 1000000 in
theorem holdLit_any (s1 s2 : Int) (g : Nat) (x : Cl) (w : World) (h1 : w.cell? ⟨g, 0, none⟩ = some (.int .i64 s1)) (h2 : w.cell? ⟨g, 1, none⟩ = some (.int .i64 s2)) :
    Calls Try.prog 40 #[clV x, .pointer (some ⟨g, 0, none⟩)] w fun e w' => e = .returned (.bool (holdB (s1, s2) x)) ∧ Below w.heap.size w w' := by
  obtain ⟨⟨a, b⟩, ⟨c, d⟩⟩ := x
  unfold clV holdB
  simp only
  have hbn := below_new w (.cells #[.int .i64 a, .int .i64 b, .int .i64 c, .int .i64 d] 33)
  have hnw := cells_new w [.int .i64 a, .int .i64 b, .int .i64 c, .int .i64 d] 33
  have e0 := hnw 0 _ rfl
  have e1 := hnw 1 _ rfl
  rw [addNew] at e0 e1
  have k1 := cell_below hbn h1
  have k2 := cell_below hbn h2
  clear hnw h1 h2
  by_cases c1 : a ≤ s1
  · have g1 : decide (a ≤ s1) = true := decide_eq_true c1
    rw [g1]
    go_enter Try.func40, Try.ntmps40
    go_wp2_with fail
    go_ret
    exact ⟨by simp, hbn⟩
  · have g1 : decide (a ≤ s1) = false := decide_eq_false c1
    rw [g1]
    go_enter Try.func40, Try.ntmps40
    go_wp2_with fail
    go_ret
    exact ⟨by simp, hbn⟩
set_option maxRecDepth 100000 in
set_option maxHeartbeats 1000000 in
theorem indexFuncC_any (g : FuncId) (lb : Array Value) (eg : ∀ args w, (callFunc g args).run Try.prog w = .ok (.enter g args) w) (p : Cl → Bool) (A : Option Addr) (n c : Nat) (l : List Cl) (w : World)
    (hr : Rd w 4 A n (cellsC l)) (hn : n ≤ 16777216)
    (hcl : ∀ x W, Below w.heap.size w W → Calls Try.prog g (#[clV x] ++ lb) W fun e W' => e = .returned (.bool (p x)) ∧ Below W.heap.size W W') :
    Calls Try.prog 77 #[.slice A n c, .func (.func g) #[] lb] w fun e w' => (∃ i : Int, e = .returned (.int .i64 i) ∧ decide (0 ≤ i) = l.any p) ∧ Below w.heap.size w w' := by
  have hlen : l.length = n := by have := hr.1; rw [cellsC_len] at this; omega
  have HL := Lib.hid hlen
  have HC := Lib.hid hcl
  clear hlen hcl
  go_enter Try.func77, Try.ntmps77
  go_wp2
  go_loopw [8] (fun i wr => ∃ k : Nat, k ≤ n ∧ i = .int .i64 k ∧ (∀ s ∈ l.take k, p s = false) ∧ Below w.heap.size w wr) (fun i _ => n - (intOf i).toNat)
  case atStart => exact ⟨0, Nat.zero_le _, rfl, by simp, Below.refl _ _⟩
  case round =>
    obtain ⟨k, hk, rfl, hno, hb⟩ := hrel
    have HN := Lib.hid hno
    clear hno
    by_cases hlt : k < n
    · obtain ⟨s, hsk⟩ : ∃ s, l[k]? = some s := ⟨_, List.getElem?_eq_getElem (by rw [HL.out]; exact hlt)⟩
      obtain ⟨ad, rfl, hab, c1, c2, c3, c4⟩ := (hr.below hb).clus hsk
      have HS := Lib.hid hsk
      clear hsk
      have hcall := HC.out s wr hb
      unfold clV at hcall
      cases hh : p s with
      | true =>
        have HF := Lib.hid (show l.any p = true from List.any_eq_true.2 ⟨s, List.mem_of_getElem? HS.out, hh⟩)
        rw [hh] at hcall
        go_wp2_with (go_at_fn g; refine hcall.mono ?_; rintro e w1 ⟨rfl, hb1⟩; have hb2 := hb.trans (hb1.mono hb.size))
        go_ret
        exact ⟨⟨(k : Int), rfl, by rw [HF.out]; exact decide_eq_true (by omega)⟩, hb2⟩
      | false =>
        have HX := Lib.hid (show ∀ s ∈ l.take (k + 1), p s = false from fun y hy => by
          rw [List.take_add_one, HS.out] at hy
          rcases List.mem_append.1 hy with hy | hy
          · exact HN.out y hy
          · simp at hy; subst hy; exact hh)
        rw [hh] at hcall
        go_wp2_with (go_at_fn g; refine hcall.mono ?_; rintro e w1 ⟨rfl, hb1⟩; have hb2 := hb.trans (hb1.mono hb.size))
        go_roundw
        case rel => exact ⟨k + 1, by omega, by go_num, HX.out, hb2⟩
        case measure => simp [intOf]; omega
    · have HF := Lib.hid (show l.any p = false from by
        have := HN.out
        rw [List.take_of_length_le (by rw [HL.out]; omega)] at this
        rw [List.any_eq_false]
        intro y hy
        rw [this y hy]
        simp)
      go_wp2
      go_ret
      exact ⟨⟨-1, rfl, by rw [HF.out]; rfl⟩, hb⟩
set_option maxRecDepth 100000 in
set_option maxHeartbeats 1000000 in
theorem containsC_any (g : FuncId) (lb : Array Value) (eg : ∀ args w, (callFunc g args).run Try.prog w = .ok (.enter g args) w) (p : Cl → Bool) (A : Option Addr) (n c : Nat) (l : List Cl) (w : World)
    (hr : Rd w 4 A n (cellsC l)) (hn : n ≤ 16777216)
    (hcl : ∀ x W, Below w.heap.size w W → Calls Try.prog g (#[clV x] ++ lb) W fun e W' => e = .returned (.bool (p x)) ∧ Below W.heap.size W W') :
    Calls Try.prog 39 #[.slice A n c, .func (.func g) #[] lb] w fun e w' => e = .returned (.bool (l.any p)) ∧ Below w.heap.size w w' := by
  have H := Lib.hid (indexFuncC_any g lb eg p A n c l w hr hn hcl)
  clear hr hcl
  go_enter Try.func39, Try.ntmps39
  go_wp2_with fail
  refine H.out.mono ?_
  rintro e w1 ⟨⟨i, rfl, hi⟩, hb⟩
  have HI := Lib.hid hi
  clear hi
  go_wp2_with fail
  go_ret
  exact ⟨by rw [← HI.out]; rfl, hb⟩
end Go.Proofs.Ytmgoakfnmgngoaa
