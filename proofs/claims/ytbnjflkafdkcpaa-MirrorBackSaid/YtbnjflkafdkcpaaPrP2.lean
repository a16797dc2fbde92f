/- The project's find of pairs. -/
import Derived.Test.YtbnjflkafdkcpaaPrP1
import Derived.Laws.ResultCell
namespace Go.Proofs.Ytbnjflkafdkcpaa
open Go.RowKit

theorem below_setQ {w wr : World} {b : Nat} (h : Below w.heap.size w wr) (hb : w.heap.size ≤ b) (j : Nat) (u : Value) : Below w.heap.size w (wr.setCell ⟨b, j, none⟩ u) :=
  ⟨h.os, h.tape, h.output, by simpa [World.setCell] using h.size, fun i hi => (Below.heap_setCell wr ⟨b, j, none⟩ u i (by simp only; omega)).trans (h.block i hi)⟩
set_option maxRecDepth 100000 in
set_option maxHeartbeats 1000000 in
theorem find_any (P : Sp → Bool) (x y : Int) (ok : Bool) (g : FuncId) (lb : Array Value) (eg : ∀ args w, (callFunc g args).run Try.prog w = .ok (.enter g args) w) (A : Option Addr) (n c : Nat) (l : List Sp) (w : World)
    (ht : hitP P l = (x, y, ok)) (hr : Rd w 2 A n (cellsS l)) (hn : n ≤ maxLen)
    (hcl : ∀ lo hi W, Below w.heap.size w W → Calls Try.prog g (#[.agg #[.int .i64 lo, .int .i64 hi]] ++ lb) W fun e W' => e = .returned (.bool (P (lo, hi))) ∧ Below W.heap.size W W') :
    Calls Try.prog 44 #[.slice A n c, .func (.func g) #[] lb] w fun e w' => e = .returned (.tuple #[.agg #[.int .i64 x, .int .i64 y], .bool ok]) ∧ Below w.heap.size w w' := by
  have hlen : l.length = n := by have := hr.1; rw [cellsS_len] at this; omega
  have HL := Lib.hid hlen
  have HT := Lib.hid ht
  have hb0 := below_new w (.cells #[.int .i64 0, .int .i64 0] 57)
  have HC := Lib.hid (indexFuncQ_any P g lb eg A n c l (w.alloc (.cells #[.int .i64 0, .int .i64 0] 57)) (hr.below hb0) hn (fun lo hi W hb => hcl lo hi W (below_self hb0 hb)))
  clear hlen ht hcl
  unfold maxLen at hn
  go_enter Try.func44, Try.ntmps44
  go_wp2_with fail
  refine HC.out.mono ?_
  rintro e w1 ⟨⟨r, rfl, hf⟩, hb⟩
  have d0 : w1.cell? ⟨w.heap.size, 0, none⟩ = some (.int .i64 0) := cell_below hb (by rw [World.cell?_alloc_at _ _ _ _ rfl]; rfl)
  have d1 : w1.cell? ⟨w.heap.size, 1, none⟩ = some (.int .i64 0) := cell_below hb (by rw [World.cell?_alloc_at _ _ _ _ rfl]; rfl)
  have hnf : ∀ i, w1.frozen? ⟨w.heap.size, i, none⟩ = false := fun i => (hb.frozen (by simp)).trans (by simp [go_sem])
  have f0 := hnf 0
  have f1 := hnf 1
  have hb1 := below_self hb0 hb
  have hlt : w.heap.size < w1.heap.size := cell_lt d0
  obtain ⟨b, hbe⟩ : ∃ b, w.heap.size = b := ⟨_, rfl⟩
  rcases hf with ⟨rfl, hh⟩ | ⟨k, s, rfl, hk, hh⟩
  · have HH := hh.symm.trans HT.out
    simp only [Prod.mk.injEq] at HH
    obtain ⟨rfl, rfl, rfl⟩ := HH
    clear hh HT HC hbe
    go_wp2
    (try simp only [Exit.inBlock, Exit.then])
    refine bodyPost_ret (v := .tuple #[.agg #[.int .i64 0, .int .i64 0], .bool false]) ?_ rfl ⟨rfl, ?_⟩
    · rw [results_cell_tmp rfl]
      go_simp
    · exact below_setQ (below_setQ hb1 (Nat.le_refl _) _ _) (Nat.le_refl _) _ _
  · have HH := hh.symm.trans HT.out
    have hkn : k < n := by have := (List.getElem?_eq_some_iff.1 hk).1; rw [HL.out] at this; exact this
    obtain ⟨ad, rfl, hab, c1, c2⟩ := (hr.below hb1).span hk
    obtain ⟨lo, hi⟩ := s
    simp only at c1 c2 HH
    simp only [Prod.mk.injEq] at HH
    obtain ⟨rfl, rfl, rfl⟩ := HH
    clear hh hk HT HC hbe
    go_wp2
    (try simp only [Exit.inBlock, Exit.then])
    refine bodyPost_ret (v := .tuple #[.agg #[.int .i64 lo, .int .i64 hi], .bool true]) ?_ rfl ⟨rfl, ?_⟩
    · rw [results_cell_tmp rfl]
      go_simp
    · exact below_setQ (below_setQ hb1 (Nat.le_refl _) _ _) (Nat.le_refl _) _ _
end Go.Proofs.Ytbnjflkafdkcpaa
