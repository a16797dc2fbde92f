/- The letters that are given, as the project hands them out; a letter in a slice. -/
import Derived.Test.YtapdfnffpikeeaaLitG
import Derived.Test.YtapdfnffpikeeaaFmD
namespace Go.Proofs.Ytapdfnffpikeeaa
open Go.RowKit
theorem letABuilt (a b c d : Int) : Try.prog.built 40 [(0, .int .i64 a), (1, .int .i64 b), (2, .int .i64 c), (3, .int .i64 d)] = some #[.int .i64 a, .int .i64 b, .int .i64 c, .int .i64 d] := by kernel_rfl
theorem letBuilt (x a b c d : Int) : Try.prog.built 42 [(0, .int .i64 x), (1, .agg #[.int .i64 a, .int .i64 b, .int .i64 c, .int .i64 d])] = some #[.int .i64 x, .int .i64 a, .int .i64 b, .int .i64 c, .int .i64 d] := by kernel_rfl
theorem letSlice : SliceOf Try.prog 37 42 5 40 := .mk_ (z := .agg #[.int .i64 0, .int .i64 0, .int .i64 0, .int .i64 0, .int .i64 0]) Try.underlying37 (by kernel_rfl) rfl
set_option maxRecDepth 1000000 in
set_option maxHeartbeats 4000000 in
theorem letters_any (w : World) : Calls Try.prog 21 #[] w fun e w' => e = .returned (.slice (some ⟨w.heap.size, 0, none⟩) 76 76) ∧ w' = w.alloc (.cells (cellsL letL).toArray 42) := by
  refine calls_of_wp Try.func21 rfl ?_
  apply wp_seq_k
  intro K hK
  apply wp_region_lit
  refine Great.wpList_readTo rfl (some 0) rfl (.slice none 0 0) (by rw [BigFrame.run_assign _ rfl]; rfl) ?_
  refine wpList_nil (hK _ _ ?_)
  apply wp_seq_k
  intro K2 hK2
  apply wp_region_lit
  refine wpList_litL 76 letABuilt letBuilt letSlice letL (by kernel_rfl) (by kernel_rfl) rfl (by decide) (by decide) (by simp [Act.put, Try.ntmps21]) ?_
  intro a' hd h0
  refine hK2 _ _ ?_
  apply wp_ret
  refine bodyPost_ret (results_tmp rfl _ _ _) hd ⟨?_, rfl⟩
  rw [Array.getD_eq_getD_getElem?, h0]
  rfl
theorem rd_newL (w : World) (l : List Lt) (T : TypeId) : Rd (w.alloc (.cells (cellsL l).toArray T)) 5 (some ⟨w.heap.size, 0, none⟩) l.length (cellsL l) :=
  ⟨cellsL_len l, fun _ => ⟨_, rfl, by simp, cells_new w _ T⟩⟩
/-- A letter in a slice of letters, as the walk spells it; its forms as a slice. -/
theorem Rd.lt_ {w : World} {A : Option Addr} {n k : Nat} {l : List Lt} {t : Lt} (hr : Rd w 5 A n (cellsL l)) (h : l[k]? = some t) : ∃ ad, A = some ad ∧ ad.block < w.heap.size ∧ w.cell? (ad.add (k * 5)) = some (.int .i64 t.1) ∧
    w.cell? ⟨(ad.add (k * 5)).block, (ad.add (k * 5)).off + 1, none⟩ = some (.int .i64 t.2.1) ∧ w.cell? ⟨(ad.add (k * 5)).block, (ad.add (k * 5)).off + 2, none⟩ = some (.int .i64 t.2.2.1) ∧
    w.cell? ⟨(ad.add (k * 5)).block, (ad.add (k * 5)).off + 3, none⟩ = some (.int .i64 t.2.2.2.1) ∧ w.cell? ⟨(ad.add (k * 5)).block, (ad.add (k * 5)).off + 4, none⟩ = some (.int .i64 t.2.2.2.2) := by
  have hlen : l.length * 5 = n * 5 := by rw [← cellsL_len]; exact hr.1
  have hk := (List.getElem?_eq_some_iff.1 h).1
  obtain ⟨ad, rfl, hb, hc⟩ := hr.2 (by omega)
  have e : ∀ j, j < 5 → ∀ u, (encL t)[j]? = some u → w.cell? (ad.add (k * 5 + j)) = some u := fun j hj u hu => hc _ _ (by
    have := flat_at (enc := encL) (s := 5) (fun _ => rfl) h hj
    exact this.trans hu)
  have h0 := e 0 (by omega) _ rfl
  have h1 := e 1 (by omega) _ rfl
  have h2 := e 2 (by omega) _ rfl
  have h3 := e 3 (by omega) _ rfl
  have h4 := e 4 (by omega) _ rfl
  rw [addNext ad (k * 5) 0] at h1
  rw [addNext ad (k * 5) 1] at h2
  rw [addNext ad (k * 5) 2] at h3
  rw [addNext ad (k * 5) 3] at h4
  exact ⟨ad, rfl, hb, h0, h1, h2, h3, h4⟩
theorem Rd.forms {w : World} {n k : Nat} {ad : Addr} {l : List Lt} {t : Lt} (hr : Rd w 5 (some ad) n (cellsL l)) (h : l[k]? = some t) : Rd w 1 (some ⟨(ad.add (k * 5)).block, (ad.add (k * 5)).off + 1, none⟩) 4 ((formsOf t).map (Value.int .i64)) := by
  obtain ⟨ad', e, hb, h0, h1, h2, h3, h4⟩ := hr.lt_ h
  injection e with e
  subst e
  refine ⟨rfl, fun _ => ⟨_, rfl, by rw [blockAdd]; exact hb, fun j u hu => ?_⟩⟩
  have hj : j = 0 ∨ j = 1 ∨ j = 2 ∨ j = 3 := by
    have := (List.getElem?_eq_some_iff.1 hu).1
    simp [formsOf] at this
    omega
  rcases hj with rfl | rfl | rfl | rfl
  · rw [← h1.trans hu]; rfl
  · rw [← h2.trans hu]; rfl
  · rw [← h3.trans hu]; rfl
  · rw [← h4.trans hu]; rfl
end Go.Proofs.Ytapdfnffpikeeaa
