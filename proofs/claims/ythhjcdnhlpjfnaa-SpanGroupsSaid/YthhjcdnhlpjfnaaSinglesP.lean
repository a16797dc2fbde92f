/- The project's appendSingles. -/
import Derived.Test.YthhjcdnhlpjfnaaGrpM
import Derived.Test.YthhjcdnhlpjfnaaSpSlice
import Derived.Test.YthhjcdnhlpjfnaaMem3
import Derived.Test.YthhjcdnhlpjfnaaSpBlk
namespace Go.Proofs.Ythhjcdnhlpjfnaa
open Go.RowKit

theorem grown_step {a b c : World} {r r' : Option Nat} (h : a.grownBy b r) (h' : b.grownBy c r') (hr : r' = r ∨ ∀ k, r' = some k → a.heap.size ≤ k) : a.grownBy c r :=
  ⟨h'.os.trans h.os, h'.tape.trans h.tape, h'.output.trans h.output, Nat.le_trans h.size h'.size, fun i hi hne =>
    (h'.block i (Nat.lt_of_lt_of_le hi h.size) (fun e => by
      rcases hr with hr | hr
      · exact hne (by rw [e, hr])
      · have := hr i e.symm
        omega)).trans (h.block i hi hne)⟩

set_option maxRecDepth 100000 in
set_option maxHeartbeats 2000000 in
theorem prSingles_any (base k : Nat) (v : Value) (acc : List Sp) (lo hi : Int) (w : World) (hown : w.ownsRow base 27 2 v k (cellsS acc)) (h0 : 0 ≤ lo) (hh : hi ≤ 100000) (hk : k ≤ 100000) (hbase : base ≤ w.heap.size) :
    Calls Try.prog 42 #[v, .int .i64 lo, .int .i64 hi] w fun e w' => ∃ v', e = .returned v' ∧ w'.ownsRow base 27 2 v' (k + (hi - lo).toNat) (cellsS (acc ++ singles (hi - lo).toNat lo)) ∧ w.grownBy w' v.ownBlock ∧ (v'.ownBlock = v.ownBlock ∨ ∀ b, v'.ownBlock = some b → w.heap.size ≤ b) := by
  go_enter Try.func42, Try.ntmps42
  go_wp2
  go_loopw [0, 7] (fun v' i wr => ∃ t : Nat, t ≤ (hi - lo).toNat ∧ i = .int .i64 (lo + t) ∧ wr.ownsRow base 27 2 v' (k + t) (cellsS (acc ++ singles t lo)) ∧ w.grownBy wr v.ownBlock ∧ (v'.ownBlock = v.ownBlock ∨ ∀ b, v'.ownBlock = some b → w.heap.size ≤ b)) (fun _ i _ => (hi - intOf i).toNat)
  case atStart => exact ⟨0, Nat.zero_le _, by simp, by simpa [singles] using hown, World.grownBy.refl w _, .inl rfl⟩
  case round =>
    obtain ⟨t, ht, rfl, ho, hg, hb⟩ := hrel
    by_cases hlt : lo + (t : Int) < hi
    · have hsz := hg.size
      have HT := Lib.hid (show cellsS (acc ++ singles (t + 1) lo) = cellsS (acc ++ singles t lo) ++ [.int .i64 (lo + t), .int .i64 (lo + t + 1)] by rw [singles_snoc]; simp [cellsS, encS])
      have ha := ho.alloc (.cells #[.int .i64 (lo + t), .int .i64 (lo + t + 1)] 27)
      have HN := Lib.hid (rd_blk (m := 1) (cs := [.int .i64 (lo + t), .int .i64 (lo + t + 1)]) 2 (heap_alloc_new wr (.cells #[.int .i64 (lo + t), .int .i64 (lo + t + 1)] 27)) rfl)
      have HB := Lib.hid hb
      clear hb
      go_wp2_with (at_builtin; refine wpList_appR rfl _ _ _ rfl spanSlice (by decide) u0 (k + t) _ rfl ha _ 1 1 _ rfl HN.out (oneInt2 _ _ _) (by omega) (by unfold maxLen; omega) (by simp; omega) ?_; intro v1 w1 hown1 hg1 hat1)
      have hgr : w.grownBy w1 v.ownBlock := grown_step (grown_step hg (World.grownBy_alloc wr _ none) (.inr (fun k h => by cases h))) hg1 HB.out
      have HB1 := Lib.hid (show v1.ownBlock = v.ownBlock ∨ ∀ b, v1.ownBlock = some b → w.heap.size ≤ b by
        rcases hat1 with h | h
        · rw [h]; exact HB.out
        · right
          intro b hb
          rw [h] at hb
          injection hb with hb
          simp at hb
          omega)
      clear hat1
      go_roundw
      case rel => exact ⟨t + 1, by omega, by go_num, by rw [HT.out]; exact hown1, hgr, HB1.out⟩
      case measure => simp [intOf]; omega
    · have hte : t = (hi - lo).toNat := by omega
      subst hte
      have HO := Lib.hid ho
      have HB := Lib.hid hb
      clear ho hb
      go_wp2
      go_ret
      exact ⟨_, rfl, HO.out, hg, HB.out⟩
end Go.Proofs.Ythhjcdnhlpjfnaa
