/- Texts of one claim, one behind the other. -/
import Derived.Deep.Slices
import Derived.ProofKit
import Derived.OpenShut
import Derived.Lib.SmallJoins
import Derived.Test.YtbnjflkafdkcpaaMgAo1
/- Arguments that came in: slices of rows (structs of integers), integers, opened to lists (XOpenR without its spans). -/
namespace Go.Proofs.Ytbnjflkafdkcpaa
open Go.ChangeShapes Go.WideShapes Go.ChangeAt Go.RowKit Go.Deep

theorem flatMap_len {α : Type} (f : α → List Value) (size : Nat) (hs : ∀ s, (f s).length = size) (l : List α) : (l.flatMap f).length = l.length * size := by
  induction l with
  | nil => simp
  | cons s l ih => rw [List.flatMap_cons, List.length_append, hs, ih, List.length_cons, Nat.succ_mul]; omega
theorem flatMap_at {α : Type} (f : α → List Value) (size : Nat) (hs : ∀ s, (f s).length = size) {l : List α} {j : Nat} {u : Value} (h : (l.flatMap f)[j]? = some u) :
    ∃ i k s, j = i * size + k ∧ k < size ∧ l[i]? = some s ∧ (f s)[k]? = some u := by
  induction l generalizing j with
  | nil => simp at h
  | cons s l ih =>
    rw [List.flatMap_cons] at h
    by_cases hj : j < size
    · rw [List.getElem?_append_left (by rw [hs]; exact hj)] at h
      exact ⟨0, j, s, by omega, hj, rfl, h⟩
    · rw [List.getElem?_append_right (by rw [hs]; omega), hs] at h
      obtain ⟨i, k, s', e, hk, hl, hf⟩ := ih h
      exact ⟨i + 1, k, s', by rw [Nat.succ_mul]; omega, hk, by simpa using hl, hf⟩

/-- A list chosen element by element. -/
theorem list_of {α : Type} {R : Nat → α → Prop} : ∀ (n : Nat), (∀ i, i < n → ∃ s, R i s) → ∃ l : List α, l.length = n ∧ ∀ i s, l[i]? = some s → R i s
  | 0, _ => ⟨[], rfl, fun i s h => by simp at h⟩
  | n + 1, h => by
    obtain ⟨l, hl, hR⟩ := list_of n (fun i hi => h i (by omega))
    obtain ⟨s, hs⟩ := h n (by omega)
    refine ⟨l ++ [s], by simp [hl], fun i t ht => ?_⟩
    by_cases hi : i < n
    · rw [List.getElem?_append_left (by omega)] at ht
      exact hR i t ht
    · rw [List.getElem?_append_right (by omega)] at ht
      have h0 : i - l.length = 0 := by
        have := (List.getElem?_eq_some_iff.1 ht).1
        simp at this; omega
      rw [h0] at ht
      simp at ht
      subst ht
      rwa [show i = n by omega]

section
variable {H : Type} {enc : TypeId × Value → H} {P : Program} {W : World} {base : Nat}
theorem open_rows {α : Type} (f : α → List Value) (size : Nat) (h0 : 0 < size) (hs : ∀ s, (f s).length = size) (good : α → Prop) {t e : TypeId} {v : Value} {d : DataW H} {p : List MemPlace} (ht : P.underlying t = some (.slice e)) (hc : P.cellsOf e = size)
    (hel : ∀ fuel cs x, DataW.trod enc P W 0 (fun _ => true) true fuel e cs = some x → ∃ s, cs = f s ∧ good s)
    (hval : Value.okWide P W .any base t v) (h : DataW.Trod enc P W 0 (fun _ => true) true t v d p) :
    ∃ (A : Option Addr) (n c : Nat) (l : List α), v = .slice A n c ∧ n ≤ c ∧ c ≤ maxLen ∧ Rd W size A n (l.flatMap f) ∧ l.length = n ∧ ∀ s ∈ l, good s := by
  obtain ⟨A, n, c, rfl⟩ := okWide_slice ht hval
  obtain ⟨fuel, hf⟩ := h
  rcases open_slice ht hf with ⟨hcs, _⟩ | ⟨a, len, cap, m, n', D, Pl, hcs, _, hle, hm, hmm, _, hi⟩
  · simp [Value.cells] at hcs
    obtain ⟨rfl, rfl, rfl⟩ := hcs
    exact ⟨none, 0, 0, [], rfl, Nat.le_refl _, by simp, Rd.nil_, rfl, by simp⟩
  · simp [Value.cells] at hcs
    obtain ⟨rfl, rfl, rfl⟩ := hcs
    have hmn : n ≤ m := by rw [hmm]; split <;> omega
    rw [hc] at hi
    obtain ⟨l, hl, hR⟩ := list_of (R := fun i (s : α) => (∀ k u, (f s)[k]? = some u → W.cell? ((a.add (i * size)).add k) = some u) ∧ good s) n (fun i hin => by
      obtain ⟨cs', hc', ht'⟩ := hi i (by omega)
      obtain ⟨s, rfl, hg⟩ := hel _ _ _ ht'
      obtain ⟨_, _, hat⟩ := World.cells?_some hc'
      exact ⟨s, fun k u hk => by
        have hkl := (List.getElem?_eq_some_iff.1 hk).1
        rw [hs] at hkl
        rw [hat k hkl, hk], hg⟩)
    refine ⟨some a, n, c, l, rfl, hle, hm, ⟨by rw [flatMap_len f size hs, hl], fun hn => ?_⟩, hl, fun s hsl => ?_⟩
    · have hcell : ∀ j u, (l.flatMap f)[j]? = some u → W.cell? (a.add j) = some u := fun j u hj => by
        obtain ⟨i, k, s, rfl, hk, hli, hfu⟩ := flatMap_at f size hs hj
        rw [← addAdd]
        exact (hR i s hli).1 k u hfu
      have hlen : 0 < (l.flatMap f).length := by rw [flatMap_len f size hs, hl]; exact Nat.mul_pos hn h0
      have := cell_lt (hcell 0 _ (List.getElem?_eq_getElem hlen))
      rw [blockAdd] at this
      exact ⟨a, rfl, this, hcell⟩
    · obtain ⟨i, hi', rfl⟩ := List.getElem_of_mem hsl
      exact (hR i _ (List.getElem?_eq_getElem hi')).2
end

def FitS (s : Sp) : Prop := Fit s.1 ∧ Fit s.2
theorem fit_of_wf {x : Int} (h : (Lit.int .i64 x).wf = true) : Fit x := by
  unfold Fit
  simp [Lit.wf, IntKind.min, IntKind.max, IntKind.signed, IntKind.bits] at h
  omega

section
variable {H : Type} {enc : TypeId × Value → H} {W : World} {base : Nat}
set_option maxRecDepth 100000 in
/-- A slice of integers that came in. -/
theorem open_ints_ {v : Value} {d : DataW H} {p : List MemPlace} (hval : Value.okWide Try.prog W .any base 22 v) (h : DataW.Trod enc Try.prog W 0 (fun _ => true) true 22 v d p) :
    ∃ (A : Option Addr) (n c : Nat) (l : List Int), v = .slice A n c ∧ n ≤ c ∧ c ≤ maxLen ∧ Rd W 1 A n (l.map (Value.int .i64)) ∧ l.length = n ∧ ∀ s ∈ l, Fit s := by
  have := open_rows (fun x : Int => [Value.int .i64 x]) 1 (by decide) (fun _ => rfl) Fit Try.underlying22 (by kernel_rfl) (fun fuel cs x h => by
    obtain ⟨a, rfl, _, w0⟩ := DataW.trod_int Try.underlying3 h
    exact ⟨a, rfl, fit_of_wf w0⟩) hval h
  simpa [List.flatMap_singleton', ← List.map_eq_flatMap] using this
end
end Go.Proofs.Ytbnjflkafdkcpaa
/- A byte that came in. -/
namespace Go.Proofs.Ytbnjflkafdkcpaa
open Go.ChangeShapes Go.WideShapes Go.ChangeAt Go.RowKit Go.Deep
theorem byte_of_wf {x : Int} (h : (Lit.int .u8 x).wf = true) : ∃ m : Nat, x = (m : Int) ∧ m ≤ 255 := by
  simp [Lit.wf, IntKind.min, IntKind.max, IntKind.signed, IntKind.bits] at h
  exact ⟨x.toNat, by omega, by omega⟩
end Go.Proofs.Ytbnjflkafdkcpaa
/- A slice of truths that came in, opened to a list; a byte. -/
namespace Go.Proofs.Ytbnjflkafdkcpaa
open Go.ChangeShapes Go.WideShapes Go.ChangeAt Go.RowKit Go.Deep

section
variable {H : Type} {enc : TypeId × Value → H} {W : World} {base : Nat}
set_option maxRecDepth 100000 in
theorem open_bools_ {v : Value} {d : DataW H} {p : List MemPlace} (hval : Value.okWide Try.prog W .any base 23 v) (h : DataW.Trod enc Try.prog W 0 (fun _ => true) true 23 v d p) :
    ∃ (A : Option Addr) (n c : Nat) (l : List Bool), v = .slice A n c ∧ n ≤ c ∧ c ≤ maxLen ∧ Rd W 1 A n (l.map Value.bool) ∧ l.length = n := by
  have := open_rows (fun x : Bool => [Value.bool x]) 1 (by decide) (fun _ => rfl) (fun _ => True) Try.underlying23 (by kernel_rfl) (fun fuel cs x h => by
    obtain ⟨a, rfl, _⟩ := DataW.trod_bool Try.underlying4 h
    exact ⟨a, rfl, trivial⟩) hval h
  simpa [List.flatMap_singleton', ← List.map_eq_flatMap] using this
end
end Go.Proofs.Ytbnjflkafdkcpaa
