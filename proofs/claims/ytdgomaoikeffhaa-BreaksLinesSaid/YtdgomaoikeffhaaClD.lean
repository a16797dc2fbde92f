/- Clusters as data: the cells of a slice of clusters. -/
import Derived.Test.YtdgomaoikeffhaaSpBlk
namespace Go.Proofs.Ytdgomaoikeffhaa
open Go.RowKit

/-- A cluster: In, Out. -/
abbrev Cl := Sp × Sp
def encC (c : Cl) : List Value := [.int .i64 c.1.1, .int .i64 c.1.2, .int .i64 c.2.1, .int .i64 c.2.2]
def cellsC (l : List Cl) : List Value := l.flatMap encC
theorem cellsC_snoc (l : List Cl) (c : Cl) : cellsC (l ++ [c]) = cellsC l ++ [.int .i64 c.1.1, .int .i64 c.1.2, .int .i64 c.2.1, .int .i64 c.2.2] := by simp [cellsC, encC]
theorem cellsC_len (l : List Cl) : (cellsC l).length = l.length * 4 := by
  induction l with
  | nil => rfl
  | cons s l ih =>
    show (encC s ++ cellsC l).length = _
    rw [List.length_append, ih, List.length_cons]
    simp only [encC, List.length_cons, List.length_nil]
    omega
theorem cellsC_at {l : List Cl} {k : Nat} {s : Cl} (h : l[k]? = some s) : (cellsC l)[k * 4]? = some (.int .i64 s.1.1) ∧ (cellsC l)[k * 4 + 1]? = some (.int .i64 s.1.2) ∧ (cellsC l)[k * 4 + 2]? = some (.int .i64 s.2.1) ∧ (cellsC l)[k * 4 + 3]? = some (.int .i64 s.2.2) := by
  induction l generalizing k with
  | nil => simp at h
  | cons t l ih =>
    have hc : cellsC (t :: l) = .int .i64 t.1.1 :: .int .i64 t.1.2 :: .int .i64 t.2.1 :: .int .i64 t.2.2 :: cellsC l := rfl
    cases k with
    | zero =>
      simp at h
      subst h
      exact ⟨rfl, rfl, rfl, rfl⟩
    | succ k =>
      have := ih (k := k) (by simpa using h)
      rw [hc]
      have e0 : (k + 1) * 4 = k * 4 + 1 + 1 + 1 + 1 := by omega
      have e1 : (k + 1) * 4 + 1 = (k * 4 + 1) + 1 + 1 + 1 + 1 := by omega
      have e2 : (k + 1) * 4 + 2 = (k * 4 + 2) + 1 + 1 + 1 + 1 := by omega
      have e3 : (k + 1) * 4 + 3 = (k * 4 + 3) + 1 + 1 + 1 + 1 := by omega
      rw [e3, e2, e1, e0]
      simpa using this
/-- The four cells of a cluster in a slice, as the walk spells them. -/
theorem Rd.clus {w : World} {A : Option Addr} {n k : Nat} {l : List Cl} {s : Cl} (hr : Rd w 4 A n (cellsC l)) (h : l[k]? = some s) : ∃ ad, A = some ad ∧ ad.block < w.heap.size ∧ w.cell? (ad.add (k * 4)) = some (.int .i64 s.1.1) ∧
    w.cell? ⟨(ad.add (k * 4)).block, (ad.add (k * 4)).off + 1, none⟩ = some (.int .i64 s.1.2) ∧ w.cell? ⟨(ad.add (k * 4)).block, (ad.add (k * 4)).off + 2, none⟩ = some (.int .i64 s.2.1) ∧ w.cell? ⟨(ad.add (k * 4)).block, (ad.add (k * 4)).off + 3, none⟩ = some (.int .i64 s.2.2) := by
  have hlen : l.length * 4 = n * 4 := by rw [← cellsC_len]; exact hr.1
  have hk := (List.getElem?_eq_some_iff.1 h).1
  obtain ⟨ad, rfl, hb, hc⟩ := hr.2 (by omega)
  obtain ⟨e0, e1, e2, e3⟩ := cellsC_at h
  have h1 := hc _ _ e1
  have h2 := hc _ _ e2
  have h3 := hc _ _ e3
  rw [addNext ad (k * 4) 0] at h1
  rw [addNext ad (k * 4) 1] at h2
  rw [addNext ad (k * 4) 2] at h3
  exact ⟨ad, rfl, hb, hc _ _ e0, h1, h2, h3⟩
theorem oneInt4 (k : IntKind) (a b c d : Int) : ∀ u ∈ [Value.int k a, .int k b, .int k c, .int k d], u.oneCell' = true := by
  intro u hu
  simp at hu
  rcases hu with rfl | rfl | rfl | rfl <;> rfl
theorem clusSlice : SliceOf Try.prog 51 63 4 32 := .mk_ (z := .agg #[.int .i64 0, .int .i64 0, .int .i64 0, .int .i64 0]) Try.underlying51 (by kernel_rfl) rfl


theorem clusInfo : (Try.prog.info? 63).map (fun i => (i.zero, i.size, i.bytes)) = some (some (.agg #[.int .i64 0, .int .i64 0, .int .i64 0, .int .i64 0]), 4, 32) := by kernel_rfl
/-- A row of clusters while its first k elements are filled. -/
def fillC (l : List Cl) (k : Nat) : List Value := cellsC (l.take k) ++ List.replicate ((l.length - k) * 4) (.int .i64 0)
theorem fillC_start (l : List Cl) : fillC l 0 = List.replicate (l.length * 4) (.int .i64 0) := by simp [fillC, cellsC]
theorem fillC_end (l : List Cl) : fillC l l.length = cellsC l := by simp [fillC]
theorem fillC_step {l : List Cl} {k : Nat} {s : Cl} (h : l[k]? = some s) : ((((fillC l k).set (k * 4) (.int .i64 s.1.1)).set (k * 4 + 1) (.int .i64 s.1.2)).set (k * 4 + 2) (.int .i64 s.2.1)).set (k * 4 + 3) (.int .i64 s.2.2) = fillC l (k + 1) := by
  have hlt := (List.getElem?_eq_some_iff.1 h).1
  have hc : (cellsC (l.take k)).length = k * 4 := by rw [cellsC_len, List.length_take]; omega
  have hs : cellsC (l.take (k + 1)) = cellsC (l.take k) ++ [.int .i64 s.1.1, .int .i64 s.1.2, .int .i64 s.2.1, .int .i64 s.2.2] := by rw [List.take_add_one, h]; simp [cellsC, encC]
  unfold fillC
  obtain ⟨m, hm⟩ : ∃ m, l.length - k = m + 1 := ⟨l.length - k - 1, by omega⟩
  have hm2 : l.length - (k + 1) = m := by omega
  rw [hm, hm2, hs, show (m + 1) * 4 = m * 4 + 1 + 1 + 1 + 1 by omega, List.replicate_succ, List.replicate_succ, List.replicate_succ, List.replicate_succ,
    List.set_append_right _ _ (by omega), hc, Nat.sub_self, List.set_cons_zero, List.set_append_right _ _ (by omega), hc, show k * 4 + 1 - k * 4 = 1 by omega, List.set_append_right _ _ (by omega), hc, show k * 4 + 2 - k * 4 = 2 by omega, List.set_append_right _ _ (by omega), hc, show k * 4 + 3 - k * 4 = 3 by omega]
  simp
end Go.Proofs.Ytdgomaoikeffhaa
