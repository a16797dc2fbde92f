/- A row of runs of the call's own: its cells, an exchange. -/
import Derived.Test.YtaiefneimjdmhaaRgD
import Derived.Test.YtaiefneimjdmhaaMem3
namespace Go.Proofs.Ytaiefneimjdmhaa
open Go.RowKit

theorem cellsG_set {l : List Rg} {k : Nat} (h : k < l.length) (s : Rg) : (((cellsG l).set (k * 3) (.int .i64 s.1)).set (k * 3 + 1) (.int .i64 s.2.1)).set (k * 3 + 2) (.int .i64 s.2.2) = cellsG (l.set k s) := by
  induction l generalizing k with
  | nil => simp at h
  | cons t l ih =>
    have hc : ∀ (u : Rg) (m : List Rg), cellsG (u :: m) = .int .i64 u.1 :: .int .i64 u.2.1 :: .int .i64 u.2.2 :: cellsG m := fun _ _ => rfl
    cases k with
    | zero => simp [hc]
    | succ k =>
      have e0 : (k + 1) * 3 = k * 3 + 1 + 1 + 1 := by omega
      have e1 : (k + 1) * 3 + 1 = (k * 3 + 1) + 1 + 1 + 1 := by omega
      have e2 : (k + 1) * 3 + 2 = (k * 3 + 2) + 1 + 1 + 1 := by omega
      rw [e2, e1, e0, hc, List.set_cons_succ, List.set_cons_succ, List.set_cons_succ, List.set_cons_succ, List.set_cons_succ, List.set_cons_succ, List.set_cons_succ, List.set_cons_succ,
        List.set_cons_succ, ih (by simpa using h), List.set_cons_succ, hc]
/-- A row of runs of the call's own. -/
def RuW (w : World) (base g n cap : Nat) (ys : List Rg) : Prop := w.ownsRow base 38 3 (.slice (some ⟨g, 0, none⟩) n cap) n (cellsG ys)
theorem RuW.len {w : World} {base g n cap : Nat} {ys : List Rg} (h : RuW w base g n cap ys) : ys.length = n := by
  have := h.1
  rw [cellsG_len] at this
  omega
theorem RuW.at_ {w : World} {base g n cap k : Nat} {ys : List Rg} {s : Rg} (h : RuW w base g n cap ys) (hk : ys[k]? = some s) :
    w.cell? ⟨g, k * 3, none⟩ = some (.int .i64 s.1) ∧ w.cell? ⟨g, k * 3 + 1, none⟩ = some (.int .i64 s.2.1) ∧ w.cell? ⟨g, k * 3 + 2, none⟩ = some (.int .i64 s.2.2) ∧
    w.frozen? ⟨g, k * 3, none⟩ = false ∧ w.frozen? ⟨g, k * 3 + 1, none⟩ = false ∧ w.frozen? ⟨g, k * 3 + 2, none⟩ = false := by
  have hl := (List.getElem?_eq_some_iff.1 hk).1
  have hn := h.len
  obtain ⟨e0, e1, e2⟩ := cellsG_at hk
  have h' := h
  unfold RuW at h'
  exact ⟨by rw [h'.cellAt (k * 3) (by omega)]; exact e0, by rw [h'.cellAt (k * 3 + 1) (by omega)]; exact e1, by rw [h'.cellAt (k * 3 + 2) (by omega)]; exact e2, h'.frozenAt _, h'.frozenAt _, h'.frozenAt _⟩
def putG (w : World) (g k : Nat) (s : Rg) : World := ((w.setCell ⟨g, k * 3, none⟩ (.int .i64 s.1)).setCell ⟨g, k * 3 + 1, none⟩ (.int .i64 s.2.1)).setCell ⟨g, k * 3 + 2, none⟩ (.int .i64 s.2.2)
theorem RuW.put {w : World} {base g n cap k : Nat} {ys : List Rg} (h : RuW w base g n cap ys) (hk : k < n) (s : Rg) : RuW (putG w g k s) base g n cap (ys.set k s) := by
  have := (((h.stored (k * 3) (.int .i64 s.1)).1.stored (k * 3 + 1) (.int .i64 s.2.1)).1.stored (k * 3 + 2) (.int .i64 s.2.2)).1
  rw [cellsG_set (by rw [h.len]; exact hk)] at this
  exact this
theorem RuW.low {w w' : World} {base g n cap : Nat} {ys : List Rg} (h : RuW w base g n cap ys) (hb : Below w.heap.size w w') : RuW w' base g n cap ys := own_below h hb
theorem RuW.base {w : World} {base g n cap : Nat} {ys : List Rg} (h : RuW w base g n cap ys) : base ≤ g := (h.lt g rfl).1
theorem below_putG {w0 w : World} {base g k : Nat} (h : Below base w0 w) (hg : base ≤ g) (s : Rg) : Below base w0 (putG w g k s) :=
  ((h.setCell (p := ⟨g, k * 3, none⟩) hg _).setCell (p := ⟨g, k * 3 + 1, none⟩) hg _).setCell (p := ⟨g, k * 3 + 2, none⟩) hg _
theorem swap_list (a mm r : List Rg) (x y : Rg) : ((a ++ (x :: mm ++ [y]) ++ r).set a.length y).set (a.length + (mm.length + 1)) x = (a ++ [y]) ++ mm ++ (x :: r) := by
  have e1 : (a ++ (x :: mm ++ [y]) ++ r).set a.length y = (a ++ [y]) ++ mm ++ (y :: r) := by
    rw [List.append_assoc, List.set_append_right _ _ (Nat.le_refl _), Nat.sub_self]
    simp
  rw [e1, List.set_append_right _ _ (by simp)]
  simp
theorem two_endsG {m : List Rg} (h : 1 < m.length) : ∃ x mm y, m = x :: mm ++ [y] := by
  cases m with
  | nil => simp at h
  | cons x l =>
    refine ⟨x, l.dropLast, l.getLast (by intro e; subst e; simp at h), ?_⟩
    rw [List.cons_append, List.dropLast_concat_getLast]
end Go.Proofs.Ytaiefneimjdmhaa
