/- slices.Equal at []api.Span: whether the two slices read alike. -/
import Derived.Test.YtbnjflkafdkcpaaSpD
import Derived.Laws.StructEq
namespace Go.Proofs.Ytbnjflkafdkcpaa
open Go.RowKit

theorem neqS (a b : Sp) (w : World) : (binOp .neq 31 (.agg #[.int .i64 a.1, .int .i64 a.2]) (.agg #[.int .i64 b.1, .int .i64 b.2])).run Try.prog w = .ok (.bool (!(decide (a = b)))) w := by
  have u3 := Try.underlying3
  have a3 := Try.isAgg3
  have z3 := Try.sizeOf3
  have hS : Try.prog.underlying 31 = some (.struct (Try.prog.fieldsOf 31)) := by kernel_rfl
  have hp : Try.prog.stoodInHeld 31 = false := by kernel_rfl
  rw [run_neq_struct, show (10000 : Nat) = 9999 + 1 from rfl, run_equalIn_agg w 9999 31 _ _ hS hp]
  simp only [Program.fieldsOf, Try.underlying31]
  go_simp
  obtain ⟨a1, a2⟩ := a
  obtain ⟨b1, b2⟩ := b
  by_cases h1 : a1 = b1 <;> by_cases h2 : a2 = b2 <;> simp [h1, h2]
theorem guardS : Try.prog.eqGuardType Try.prog.depth 31 = false := by kernel_rfl

theorem take_eq_succS {xs ys : List Sp} {k : Nat} (h : xs.take k = ys.take k) {x : Sp} (h1 : xs[k]? = some x) (h2 : ys[k]? = some x) : xs.take (k + 1) = ys.take (k + 1) := by
  rw [List.take_add_one, List.take_add_one, h, h1, h2]

set_option maxRecDepth 100000 in
set_option maxHeartbeats 1000000 in
theorem equalS_same (n : Nat) (A B : Option Addr) (c d : Nat) (xs ys : List Sp) (w : World) (hxn : xs.length = n) (hyn : ys.length = n)
    (hx : Rd w 2 A n (cellsS xs)) (hy : Rd w 2 B n (cellsS ys)) (hn : n ≤ maxLen) :
    Calls Try.prog 11 #[.slice A n c, .slice B n d] w fun e w' => e = .returned (.bool (decide (xs = ys))) ∧ ∃ q, w' = w.drewN q := by
  unfold maxLen at hn
  have HX := Lib.hid hxn
  have HY := Lib.hid hyn
  clear hxn hyn
  have hg := guardS
  go_enter Try.func11, Try.ntmps11
  go_wp2
  go_loopw [13] (fun i wr => ∃ k q : Nat, k ≤ n ∧ i = .int .i64 k ∧ wr = w.drewN q ∧ xs.take k = ys.take k) (fun i _ => n - (intOf i).toNat)
  case atStart => exact ⟨0, 0, Nat.zero_le _, rfl, rfl, rfl⟩
  case round =>
    obtain ⟨k, q, hk, rfl, rfl, ht⟩ := hrel
    have HT := Lib.hid ht
    clear ht
    by_cases hlt : k < n
    · obtain ⟨x, hxk⟩ : ∃ x, xs[k]? = some x := ⟨_, List.getElem?_eq_getElem (by rw [HX.out]; exact hlt)⟩
      obtain ⟨y, hyk⟩ : ∃ y, ys[k]? = some y := ⟨_, List.getElem?_eq_getElem (by rw [HY.out]; exact hlt)⟩
      obtain ⟨a, rfl, _, a1, a2⟩ := hx.span hxk
      obtain ⟨b, rfl, _, b1, b2⟩ := hy.span hyk
      have hq := neqS x y
      have HXK := Lib.hid hxk
      have HYK := Lib.hid hyk
      clear hxk hyk
      by_cases he : x = y
      · subst he
        simp only [decide_true, Bool.not_true] at hq
        obtain ⟨x1, x2⟩ := x
        simp only at a1 a2 b1 b2 hq
        go_wp2
        go_quiet (fail)
        go_wp2
        go_roundw
        case rel => exact ⟨k + 1, _, by omega, by go_num, rfl, take_eq_succS HT.out HXK.out HYK.out⟩
        case measure => simp [intOf]; omega
      · have hf : decide (xs = ys) = false := decide_eq_false (fun e => he (by have h1 := HXK.out; rw [e, HYK.out] at h1; injection h1 with h1; exact h1.symm))
        rw [decide_eq_false he] at hq
        simp only [Bool.not_false] at hq
        clear he
        obtain ⟨x1, x2⟩ := x
        obtain ⟨y1, y2⟩ := y
        simp only at a1 a2 b1 b2 hq
        go_wp2
        go_quiet (fail)
        go_wp2
        go_ret
        exact ⟨retB (by simp [hf]), _, World.drewN_drewN _ _ _⟩
    · have htr : decide (xs = ys) = true := decide_eq_true (by
        have h := HT.out
        rwa [List.take_of_length_le (by rw [HX.out]; omega), List.take_of_length_le (by rw [HY.out]; omega)] at h)
      go_wp2
      go_ret
      exact ⟨retB (by simp [htr]), _, rfl⟩

theorem equalS_b (A B : Option Addr) (n m c d : Nat) (xs ys : List Sp) (w : World) (hx : Rd w 2 A n (cellsS xs)) (hy : Rd w 2 B m (cellsS ys)) (hn : n ≤ maxLen) (hm : m ≤ maxLen) :
    Calls Try.prog 11 #[.slice A n c, .slice B m d] w fun e w' => e = .returned (.bool (decide (xs = ys))) ∧ Below w.heap.size w w' := by
  have hxl : xs.length = n := by have := hx.1; rw [cellsS_len] at this; omega
  have hyl : ys.length = m := by have := hy.1; rw [cellsS_len] at this; omega
  by_cases h : n = m
  · subst h
    exact (equalS_same n A B c d xs ys w hxl hyl hx hy hn).mono fun _ _ ⟨he, q, hq⟩ => ⟨he, hq ▸ drewBelow q⟩
  · have hne : decide (xs = ys) = false := decide_eq_false (fun e => h (by rw [← hxl, ← hyl, e]))
    have h1 : ((n : Int) == m) = false := by simp; omega
    have h2 : ((n : Int) != m) = true := by simp; omega
    clear hxl hyl
    go_enter Try.func11, Try.ntmps11
    go_wp2
    go_ret
    exact ⟨retB (by simp [hne]), Below.refl _ _⟩
end Go.Proofs.Ytbnjflkafdkcpaa
