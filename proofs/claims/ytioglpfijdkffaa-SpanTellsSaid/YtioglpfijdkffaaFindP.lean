/- The project's Find of spans, by slices.IndexFunc. -/
import Derived.Test.YtioglpfijdkffaaSpanR2
import Derived.Test.YtioglpfijdkffaaSpanP
import Derived.Shelf.Abstract
namespace Go.Proofs.Ytioglpfijdkffaa
open Go.RowKit

set_option maxRecDepth 100000 in
set_option maxHeartbeats 1000000 in
theorem findLit_any (lo hi p : Int) (b : Nat) (w : World) (hc : w.cell? ⟨b, 0, none⟩ = some (.int .i64 p)) :
    Calls Try.prog 47 #[.agg #[.int .i64 lo, .int .i64 hi], .pointer (some ⟨b, 0, none⟩)] w fun e w' => e = .returned (.bool (hasB (lo, hi) p)) ∧ Below w.heap.size w w' := by
  have hc' := cell_below (below_new w (.cells #[.int .i64 lo, .int .i64 hi] 23)) hc
  go_enter Try.func47, Try.ntmps47
  go_wp2_with fail
  refine (prHas_any lo hi p _).mono ?_
  rintro e w1 ⟨rfl, hb⟩
  have hb1 := below_self (below_new w _) hb
  go_wp2
  go_ret
  exact ⟨rfl, hb1⟩

set_option maxRecDepth 100000 in
set_option maxHeartbeats 1000000 in
theorem indexFuncS_any (g : FuncId) (lb : Array Value) (eg : ∀ args w, (callFunc g args).run Try.prog w = .ok (.enter g args) w) (A : Option Addr) (n c : Nat) (l : List Sp) (p : Int) (w : World)
    (hr : Rd w 2 A n (cellsS l)) (hn : n ≤ maxLen)
    (hcl : ∀ lo hi W, Below w.heap.size w W → Calls Try.prog g (#[.agg #[.int .i64 lo, .int .i64 hi]] ++ lb) W fun e W' => e = .returned (.bool (hasB (lo, hi) p)) ∧ Below W.heap.size W W') :
    Calls Try.prog 46 #[.slice A n c, .func (.func g) #[] lb] w fun e w' => e = .returned (.int .i64 (findS l p)) ∧ Below w.heap.size w w' := by
  have hlen : l.length = n := by have := hr.1; rw [cellsS_len] at this; omega
  have HL := Lib.hid hlen
  have HC := Lib.hid hcl
  clear hlen hcl
  unfold maxLen at hn
  go_enter Try.func46, Try.ntmps46
  go_wp2
  go_loopw [8] (fun i wr => ∃ k : Nat, k ≤ n ∧ i = .int .i64 k ∧ (∀ s ∈ l.take k, hasB s p = false) ∧ Below w.heap.size w wr) (fun i _ => n - (intOf i).toNat)
  case atStart => exact ⟨0, Nat.zero_le _, rfl, by simp, Below.refl _ _⟩
  case round =>
    obtain ⟨k, hk, rfl, hno, hb⟩ := hrel
    have HN := Lib.hid hno
    clear hno
    by_cases hlt : k < n
    · obtain ⟨s, hsk⟩ : ∃ s, l[k]? = some s := ⟨_, List.getElem?_eq_getElem (by rw [HL.out]; exact hlt)⟩
      obtain ⟨ad, rfl, hab, c1, c2⟩ := (hr.below hb).span hsk
      obtain ⟨lo, hi⟩ := s
      simp only at c1 c2
      have HS := Lib.hid hsk
      clear hsk
      have hcall := HC.out lo hi wr hb
      cases hh : hasB (lo, hi) p with
      | true =>
        have HF := Lib.hid (findS_hit HN.out HS.out hh)
        rw [hh] at hcall
        go_wp2_with (go_at_fn g; refine hcall.mono ?_; rintro e w1 ⟨rfl, hb1⟩; have hb2 := hb.trans (hb1.mono hb.size))
        go_ret
        exact ⟨retI HF.out.symm, hb2⟩
      | false =>
        have HX := Lib.hid (no_more HN.out HS.out hh)
        rw [hh] at hcall
        go_wp2_with (go_at_fn g; refine hcall.mono ?_; rintro e w1 ⟨rfl, hb1⟩; have hb2 := hb.trans (hb1.mono hb.size))
        go_roundw
        case rel => exact ⟨k + 1, by omega, by go_num, HX.out, hb2⟩
        case measure => simp [intOf]; omega
    · have HF := Lib.hid (findS_none (l := l) (p := p) (by have := HN.out; rwa [List.take_of_length_le (by rw [HL.out]; omega)] at this))
      go_wp2
      go_ret
      exact ⟨retI HF.out.symm, hb⟩

set_option maxRecDepth 100000 in
set_option maxHeartbeats 1000000 in
theorem prFind_any (A : Option Addr) (n c : Nat) (l : List Sp) (p : Int) (w : World) (hr : Rd w 2 A n (cellsS l)) (hn : n ≤ maxLen) :
    Calls Try.prog 20 #[.slice A n c, .int .i64 p] w fun e w' => e = .returned (.int .i64 (findS l p)) ∧ Below w.heap.size w w' := by
  have eg : ∀ args w, (callFunc 47 args).run Try.prog w = .ok (.enter 47 args) w := enters_of Try.func47 (by kernel_rfl) rfl
  have C := Lib.hid (indexFuncS_any 47 #[.pointer (some ⟨w.heap.size, 0, none⟩)] eg A n c l p (w.alloc (.cells #[.int .i64 p] 3)) (hr.alloc _) hn
    (fun lo hi W hb => findLit_any lo hi p w.heap.size W (cell_below hb (by rw [World.cell?_alloc_at _ _ _ _ rfl]; rfl))))
  go_enter Try.func20, Try.ntmps20
  go_wp2_with fail
  refine C.out.mono ?_
  rintro e w1 ⟨rfl, hb⟩
  have hb1 := below_self (below_new w _) hb
  go_wp2
  go_ret
  exact ⟨rfl, hb1⟩
end Go.Proofs.Ytioglpfijdkffaa
