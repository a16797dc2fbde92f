/- cluster's link: what it keeps. -/
import Derived.Test.YtnmefomipldalaaFinTk
import Derived.Test.YtnmefomipldalaaFinI
import Derived.Laws.StructEq
namespace Go.Proofs.Ytnmefomipldalaa
open Go.RowKit

theorem eqlS_any (a1 a2 b1 b2 : Int) (w : World) : (binOp .eql 31 (.agg #[.int .i64 a1, .int .i64 a2]) (.agg #[.int .i64 b1, .int .i64 b2])).run Try.prog w = .ok (.bool (decide (a1 = b1 ∧ a2 = b2))) w := by
  have u3 := Try.underlying3
  have a3 := Try.isAgg3
  have z3 := Try.sizeOf3
  have hS : Try.prog.underlying 31 = some (.struct (Try.prog.fieldsOf 31)) := by kernel_rfl
  have hp : Try.prog.stoodInHeld 31 = false := by kernel_rfl
  rw [run_eql_struct, show (10000 : Nat) = 9999 + 1 from rfl, run_equalIn_agg w 9999 31 _ _ hS hp]
  simp only [Program.fieldsOf, Try.underlying31]
  go_simp
  by_cases h1 : a1 = b1 <;> by_cases h2 : a2 = b2 <;> simp [h1, h2]
theorem guardSp : Try.prog.eqGuardType Try.prog.depth 31 = false := by kernel_rfl
/-- The blocks of a side. -/
structure Blk where
  b : Nat
  gA : Nat
  gE : Nat
  mB : Nat
def Blk.wr (B : Blk) : List Nat := [B.gA, B.gE, B.mB]
def SdAt (W : World) (B : Blk) (n : Nat) (S : Sd) : Prop := SideAt W B.b B.gA B.gE B.mB n S.r S.e S.M
/-- The blocks of two sides are apart. -/
structure BlkApart (B C : Blk) : Prop where
  bc : C.b ∉ B.wr ∧ C.gA ∉ B.wr ∧ C.gE ∉ B.wr ∧ C.mB ∉ B.wr
  cb : B.b ∉ C.wr ∧ B.gA ∉ C.wr ∧ B.gE ∉ C.wr ∧ B.mB ∉ C.wr
theorem BlkApart.turn {B C : Blk} (h : BlkApart B C) : BlkApart C B := ⟨h.cb, h.bc⟩
theorem SdAt.lt {W : World} {B : Blk} {n : Nat} {S : Sd} (h : SdAt W B n S) : B.b < W.heap.size ∧ B.gA < W.heap.size ∧ B.gE < W.heap.size ∧ B.mB < W.heap.size := by
  obtain ⟨ah, en, hA, _, _⟩ := h.ex
  exact ⟨cell_lt hA.c0, heap_lt hA.hA, heap_lt hA.hE, h.map.lt⟩
theorem SdAt.kept {W W' : World} {B : Blk} {n : Nat} {S : Sd} (h : SdAt W B n S) {L : List Nat} (hk : Kept W W' L) (hb : B.b ∉ L ∧ B.gA ∉ L ∧ B.gE ∉ L ∧ B.mB ∉ L) : SdAt W' B n S :=
  SideAt.kept h hk hb.1 hb.2.1 hb.2.2.1 hb.2.2.2
theorem SdAt.old {W W' : World} {B : Blk} {n : Nat} {S : Sd} (h : SdAt W B n S) (hk : Kept W W' []) : SdAt W' B n S := h.kept hk (by simp)
theorem Kept.more {a b : World} {S T : List Nat} (h : Kept a b S) (hs : ∀ x ∈ S, x ∈ T) : Kept a b T := ⟨h.os, h.tape, h.output, h.size, fun i hi hn => h.block i hi (fun hm => hn (hs i hm))⟩
/-- A span taken at a side. -/
theorem take_sd (B : Blk) (n m lo hi a b : Nat) (S : Sd) (hO : Ok n m S) (h1 : lo < hi) (h2 : hi ≤ n) (h3 : a < b) (h4 : b ≤ m) (hn : n ≤ 100000000) : ∃ c d : Nat, Took n m S (S.r lo) (S.e (S.r (hi - 1))) a b c d ∧ S.r lo ≤ lo ∧ hi ≤ S.e (S.r (hi - 1)) ∧ ∀ w, SdAt w B n S →
    Calls Try.prog 82 #[.pointer (some ⟨B.b, 0, none⟩), .agg #[.int .i64 (lo : Int), .int .i64 (hi : Int)], .agg #[.int .i64 (a : Int), .int .i64 (b : Int)]] w fun e' w' => e' = .returned (.tuple #[.agg #[.int .i64 (S.r lo : Int), .int .i64 (S.e (S.r (hi - 1)) : Int)], .agg #[.int .i64 (c : Int), .int .i64 (d : Int)]]) ∧
      SdAt w' B n (takeS S (S.r lo) (S.e (S.r (hi - 1))) ((c : Int), (d : Int))) ∧ Kept w w' B.wr := by
  obtain ⟨c, d, e1, e2, e3, e4⟩ := took hO h1 h2 h3 h4
  refine ⟨c, d, e2, e3, e4, fun w hS => ?_⟩
  refine (take_any B.b B.gA B.gE B.mB n lo hi S.r S.e S.M ((a : Int), (b : Int)) h1 h2 (by unfold rightB; simp; omega) hn w hS hO.doms).mono ?_
  rintro e' w' ⟨rfl, hs, hk⟩
  rw [e1] at hs ⊢
  exact ⟨rfl, hs, hk⟩
/-- What holds at each turn. -/
structure LkAt (L : List NC) (w W : World) (B1 B2 : Blk) (n m : Nat) (X : Nat → Nat → Nat → Nat → Prop) (g : Nat) (s : Bool) (BN BF : Blk) (nn nf : Nat) (N F : Sd) (p y z : Nat) : Prop where
  which : (s = false ∧ BN = B1 ∧ BF = B2 ∧ nn = n ∧ nf = m) ∨ (s = true ∧ BN = B2 ∧ BF = B1 ∧ nn = m ∧ nf = n)
  atN : SdAt W BN nn N
  atF : SdAt W BF nf F
  fro : Fro nn nf N F p y z
  sN : Sound L s nn N
  sF : Sound L (!s) nf F
  lies : ∀ a b c d, X a b c d → Lies (if s = true then F else N) a b c d
  c8 : SpanBlk W g ((p : Int), (N.e p : Int))
  c9 : SpanBlk W (g + 1) ((y : Int), (z : Int))
  kept : Kept w W (B1.wr ++ B2.wr)
  low : w.heap.size ≤ g ∧ B1.b < w.heap.size ∧ B1.gA < w.heap.size ∧ B1.gE < w.heap.size ∧ B1.mB < w.heap.size ∧ B2.b < w.heap.size ∧ B2.gA < w.heap.size ∧ B2.gE < w.heap.size ∧ B2.mB < w.heap.size
  apart : BlkApart B1 B2
section
variable {L : List NC} {w W W' : World} {B1 B2 : Blk} {n m : Nat} {X : Nat → Nat → Nat → Nat → Prop} {g : Nat} {s : Bool} {BN BF : Blk} {nn nf : Nat} {N F : Sd} {p y z c d : Nat}
theorem LkAt.size (h : LkAt L w W B1 B2 n m X g s BN BF nn nf N F p y z) : nn ≤ max n m ∧ nf ≤ max n m := by
  rcases h.which with ⟨_, _, _, e1, e2⟩ | ⟨_, _, _, e1, e2⟩ <;> omega
theorem LkAt.nums (h : LkAt L w W B1 B2 n m X g s BN BF nn nf N F p y z) : y < z ∧ z ≤ nf ∧ p < N.e p ∧ N.e p ≤ nn := by
  obtain ⟨a, b, e1, e2, e3⟩ := h.fro.okN.val _ _ h.fro.at_
  injection e1 with e4 e5
  obtain ⟨q1, q2, q3⟩ := matched_key h.fro.okN h.fro.at_
  have := h.fro.okN.part.top p q2
  rw [q1] at this
  omega
theorem LkAt.sides (h : LkAt L w W B1 B2 n m X g s BN BF nn nf N F p y z) : (BN.b ∉ BF.wr ∧ BN.gA ∉ BF.wr ∧ BN.gE ∉ BF.wr ∧ BN.mB ∉ BF.wr) ∧ (∀ x ∈ BF.wr, x ∈ B1.wr ++ B2.wr) ∧ (∀ x ∈ BF.wr, x < w.heap.size) := by
  obtain ⟨l0, l1, l2, l3, l4, l5, l6, l7, l8⟩ := h.low
  rcases h.which with ⟨_, rfl, rfl, _, _⟩ | ⟨_, rfl, rfl, _, _⟩
  · exact ⟨h.apart.cb, fun x hx => List.mem_append_right _ hx, fun x hx => by simp [Blk.wr] at hx; omega⟩
  · exact ⟨h.apart.bc, fun x hx => List.mem_append_left _ hx, fun x hx => by simp [Blk.wr] at hx; omega⟩
/-- The far side took it: its set and what belongs to it are the next to go on from. -/
theorem LkAt.turn {P E' : Nat} (h : LkAt L w W B1 B2 n m X g s BN BF nn nf N F p y z) (hPe : P = F.r y) (hEe : E' = F.e (F.r (z - 1))) (hP : P ≤ y) (hE : z ≤ E') (ht : Took nf nn F P E' p (N.e p) c d) (hn1 : SdAt W' BF nf (takeS F P E' ((c : Int), (d : Int)))) (hn2 : SdAt W' BN nn N) (hk : Kept w W' (B1.wr ++ B2.wr)) (h8 : SpanBlk W' g ((P : Int), (E' : Int))) (h9 : SpanBlk W' (g + 1) ((c : Int), (d : Int))) :
    LkAt L w W' B1 B2 n m X g (!s) BF BN nf nn (takeS F P E' ((c : Int), (d : Int))) N P c d := by
  obtain ⟨t1, t2⟩ := sound_set h.fro.okN h.sN h.fro.at_
  obtain ⟨k1, k2, k3, k4⟩ := h.nums
  subst hPe hEe
  have hs := take_sound h.fro.okF h.sF k1 k2 ht t1 (by rw [Bool.not_not]; exact t2) k3 (h.sN.keys _ _ _ h.fro.at_).2 (by rw [Bool.not_not]; exact (h.sN.keys _ _ _ h.fro.at_).1)
  refine ⟨?_, hn1, hn2, h.fro.turn hP hE ht, hs, by rw [Bool.not_not]; exact h.sN, fun a b c' d' hx => ?_, ?_, h9, hk, h.low, h.apart⟩
  · rcases h.which with ⟨rfl, rfl, rfl, rfl, rfl⟩ | ⟨rfl, rfl, rfl, rfl, rfl⟩
    · exact .inr ⟨rfl, rfl, rfl, rfl, rfl⟩
    · exact .inl ⟨rfl, rfl, rfl, rfl, rfl⟩
  · have hl := h.lies a b c' d' hx
    cases s with
    | false => exact hl
    | true => exact take_lies h.fro.okF ht hl
  · rw [(take_at _).2]; exact h8
end
/-- What a link leaves. -/
structure LkDone (L : List NC) (w W : World) (B1 B2 : Blk) (n m : Nat) (X : Nat → Nat → Nat → Nat → Prop) (A B : Sd) : Prop where
  both : Both n m A B
  sA : Sound L false n A
  sB : Sound L true m B
  lies : ∀ a b c d, X a b c d → Lies A a b c d
  atA : SdAt W B1 n A
  atB : SdAt W B2 m B
  kept : Kept w W (B1.wr ++ B2.wr)
theorem LkAt.done {L : List NC} {w W W' : World} {B1 B2 : Blk} {n m : Nat} {X : Nat → Nat → Nat → Nat → Prop} {g : Nat} {s : Bool} {BN BF : Blk} {nn nf : Nat} {N F : Sd} {p y z : Nat} (h : LkAt L w W B1 B2 n m X g s BN BF nn nf N F p y z) (hPe : y = F.r y) (hEe : z = F.e (F.r (z - 1))) (ht : Took nf nn F y z p (N.e p) p (N.e p)) (hn1 : SdAt W' BF nf (takeS F y z ((p : Int), (N.e p : Int)))) (hn2 : SdAt W' BN nn N) (hk : Kept w W' (B1.wr ++ B2.wr)) : ∃ A B, LkDone L w W' B1 B2 n m X A B := by
  obtain ⟨t1, t2⟩ := sound_set h.fro.okN h.sN h.fro.at_
  obtain ⟨k1, k2, k3, k4⟩ := h.nums
  have hs := take_sound h.fro.okF h.sF k1 k2 (by rw [← hEe, ← hPe]; exact ht) t1 (by rw [Bool.not_not]; exact t2) k3 (h.sN.keys _ _ _ h.fro.at_).2 (by rw [Bool.not_not]; exact (h.sN.keys _ _ _ h.fro.at_).1)
  rw [← hEe, ← hPe] at hs
  have hb := h.fro.done ht
  rcases h.which with ⟨rfl, rfl, rfl, rfl, rfl⟩ | ⟨rfl, rfl, rfl, rfl, rfl⟩
  · exact ⟨N, _, hb, h.sN, hs, fun a b c d hx => h.lies a b c d hx, hn2, hn1, hk⟩
  · exact ⟨_, N, hb.turn, hs, h.sN, fun a b c d hx => take_lies h.fro.okF ht (h.lies a b c d hx), hn1, hn2, hk⟩
end Go.Proofs.Ytnmefomipldalaa
