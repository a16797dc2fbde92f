/- Pairs as spans, in their places; how many; nothing more behind too many. No function of the program. -/
import Derived.Test.YtpddjojgcenlkaaSpD
import Derived.Test.YtpddjojgcenlkaaBkF
namespace Go.Proofs.Ytpddjojgcenlkaa
open Go.RowKit

/-- A pair in its place, by where it opens. -/
def insB : List Sp → Sp → List Sp
  | [], p => [p]
  | q :: l, p => if q.1 < p.1 then q :: insB l p else p :: q :: l
theorem insB_at {p : Sp} : ∀ {l : List Sp} {j : Nat}, (∀ t ∈ l.take j, t.1 < p.1) → (j = l.length ∨ ∃ t, l[j]? = some t ∧ ¬ t.1 < p.1) → insB l p = l.take j ++ p :: l.drop j
  | [], j, _, h => by
    rcases h with h | ⟨t, ht, _⟩
    · subst h; rfl
    · simp at ht
  | q :: l, 0, _, h => by
    rcases h with h | ⟨t, ht, hn⟩
    · simp at h
    · obtain rfl := Option.some.inj ht
      rw [insB, if_neg hn]
      rfl
  | q :: l, j + 1, h1, h => by
    rw [insB, if_pos (h1 q (by simp)), insB_at (j := j) (fun t ht => h1 t (by simp [ht])) (by
      rcases h with h | ⟨t, ht, hn⟩
      · exact .inl (by simpa using h)
      · exact .inr ⟨t, by simpa using ht, hn⟩)]
    rfl
theorem insB_len (p : Sp) : ∀ l : List Sp, (insB l p).length = l.length + 1
  | [] => rfl
  | q :: l => by
    rw [insB]
    split
    · simp [insB_len p l]
    · simp
/-- Pairs of places as spans. -/
def prL (out : List (Nat × Nat)) : List Sp := out.map fun p => ((p.1 : Int), (p.2 : Int))
theorem prL_len (out : List (Nat × Nat)) : (prL out).length = out.length := by simp [prL]
theorem prL_ins (p : Nat × Nat) : ∀ out : List (Nat × Nat), prL (insP out p) = insB (prL out) ((p.1 : Int), (p.2 : Int))
  | [] => rfl
  | q :: l => by
    rw [insP]
    by_cases h : q.1 < p.1
    · rw [if_pos h]
      have : prL (q :: insP l p) = ((q.1 : Int), (q.2 : Int)) :: prL (insP l p) := rfl
      rw [this, prL_ins p l]
      have : prL (q :: l) = ((q.1 : Int), (q.2 : Int)) :: prL l := rfl
      rw [this, insB, if_pos (by simp only; omega)]
    · rw [if_neg h]
      have : prL (q :: l) = ((q.1 : Int), (q.2 : Int)) :: prL l := rfl
      rw [this, insB, if_neg (by simp only; omega)]
      rfl
section
variable (on : Nat → Bool) (kd : Nat → Int) (mt : Nat → Nat → Bool)
theorem bk_outs : ∀ k, (bkA on kd mt k).out.length ≤ k
  | 0 => Nat.le_refl _
  | k + 1 => by
    have h := bk_outs k
    rw [bkA]
    generalize bkA on kd mt k = s at h
    unfold bkStep
    split
    · omega
    · split
      · split
        · simp only; omega
        · simp only; omega
      · split
        · omega
        · simp only
          rw [insP_len]
          omega
theorem bk_stopped {k : Nat} (h : (bkA on kd mt k).stop = true) : ∀ m, bkA on kd mt (k + m) = bkA on kd mt k
  | 0 => rfl
  | m + 1 => by
    rw [← Nat.add_assoc, bkA, bk_stopped h m, bkStep, if_pos (.inl h)]
variable {on : Nat → Bool} {kd : Nat → Int} {mt : Nat → Nat → Bool} {k : Nat} {st : List Nat} {out : List (Nat × Nat)}
theorem bk_pass (h : bkA on kd mt k = ⟨st, out, false⟩) (hc : on k = false ∨ kd k = 0) : bkA on kd mt (k + 1) = ⟨st, out, false⟩ := by
  rw [bkA, h, bkStep, if_pos (.inr hc)]
theorem bk_push (h : bkA on kd mt k = ⟨st, out, false⟩) (ho : on k = true) (hk : kd k = 1) (hl : st.length < 63) : bkA on kd mt (k + 1) = ⟨k :: st, out, false⟩ := by
  rw [bkA, h, bkStep, if_neg (by rw [ho, hk]; simp), if_pos hk, if_neg (by simp only; omega)]
theorem bk_full (h : bkA on kd mt k = ⟨st, out, false⟩) (ho : on k = true) (hk : kd k = 1) (hl : 63 ≤ st.length) {n : Nat} (hn : k < n) : (bkA on kd mt n).out = out := by
  have h1 : bkA on kd mt (k + 1) = ⟨st, out, true⟩ := by rw [bkA, h, bkStep, if_neg (by rw [ho, hk]; simp), if_pos hk, if_pos hl]
  have h2 := bk_stopped on kd mt (k := k + 1) (by rw [h1]) (n - (k + 1))
  rw [show k + 1 + (n - (k + 1)) = n by omega] at h2
  rw [h2, h1]
theorem bk_none (h : bkA on kd mt k = ⟨st, out, false⟩) (ho : on k = true) (h0 : kd k ≠ 0) (h1 : kd k ≠ 1) (hp : popTo (fun o => mt o k) st = none) : bkA on kd mt (k + 1) = ⟨st, out, false⟩ := by
  rw [bkA, h, bkStep, if_neg (by rw [ho]; simp [h0]), if_neg h1]
  simp only [hp]
theorem bk_some (h : bkA on kd mt k = ⟨st, out, false⟩) (ho : on k = true) (h0 : kd k ≠ 0) (h1 : kd k ≠ 1) {o : Nat} {r : List Nat} (hp : popTo (fun o => mt o k) st = some (o, r)) : bkA on kd mt (k + 1) = ⟨r, insP out (o, k), false⟩ := by
  rw [bkA, h, bkStep, if_neg (by rw [ho]; simp [h0]), if_neg h1]
  simp only [hp]
end
end Go.Proofs.Ytpddjojgcenlkaa
