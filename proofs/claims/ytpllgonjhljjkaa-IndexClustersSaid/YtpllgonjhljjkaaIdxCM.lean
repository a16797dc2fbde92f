/- Clusters of codes as clusters of units, as plain mathematics. -/
import Derived.Test.YtpllgonjhljjkaaIdxM
import Derived.Test.YtpllgonjhljjkaaLoM
namespace Go.Proofs.Ytpllgonjhljjkaa

/-- A span of codes as one of their units. -/
def spU (l : List Int) (s : Sp) : Sp := (pre l s.1.toNat, pre l s.2.toNat)
def clU (a b : List Int) (c : Sp × Sp) : Sp × Sp := (spU a c.1, spU b c.2)
theorem parts_bd {e n : Int} {l : List Sp} (h : partsFrom e l n = true) : e ≤ n ∧ ∀ s ∈ l, e ≤ s.1 ∧ 0 ≤ s.1 ∧ s.1 < s.2 ∧ s.2 ≤ n := by
  induction l generalizing e with
  | nil =>
    have : e = n := by simpa [partsFrom] using h
    exact ⟨by omega, by simp⟩
  | cons s l ih =>
    cases hr : rightB s with
    | false => rw [partsFrom_no (.inl hr)] at h; cases h
    | true =>
      cases he : (s.1 == e) with
      | false => rw [partsFrom_no (.inr he)] at h; cases h
      | true =>
        rw [partsFrom_yes hr he] at h
        have hs := of_decide_eq_true hr
        have he' : s.1 = e := by simpa using he
        obtain ⟨h1, h2⟩ := ih h
        refine ⟨by omega, fun t ht => ?_⟩
        simp at ht
        rcases ht with rfl | ht
        · omega
        · have := h2 t ht
          omega
theorem check_bd {l : List (Sp × Sp)} {n m : Int} (h : checkC l n m = true) : ∀ c ∈ l, (0 ≤ c.1.1 ∧ c.1.1 < c.1.2 ∧ c.1.2 ≤ n) ∧ (0 ≤ c.2.1 ∧ c.2.1 < c.2.2 ∧ c.2.2 ≤ m) := by
  unfold checkC at h
  rw [Bool.and_eq_true] at h
  intro c hc
  have h1 := (parts_bd h.1).2 c.1 (List.mem_map_of_mem hc)
  have h2 := (parts_bd h.2).2 c.2 ((sortR_perm _).mem_iff.2 (List.mem_map_of_mem hc))
  omega
theorem pre_lt {l : List Int} (h : Ones l) {i j : Nat} (hij : i < j) (hj : j ≤ l.length) : pre l i < pre l j := by
  have := pre_mono h (i := i) (j := j) (by omega) hj
  omega
theorem parts_units {a : List Int} (ho : Ones a) {e : Nat} {l : List Sp} (h : partsFrom e l a.length = true) : partsFrom (pre a e) (l.map (spU a)) a.sum = true := by
  induction l generalizing e with
  | nil =>
    have : (e : Int) = a.length := by simpa [partsFrom] using h
    have he : e = a.length := by omega
    subst he
    simp [partsFrom, pre_len]
  | cons s l ih =>
    cases hr : rightB s with
    | false => rw [partsFrom_no (.inl hr)] at h; cases h
    | true =>
      cases he : (s.1 == (e : Int)) with
      | false => rw [partsFrom_no (.inr he)] at h; cases h
      | true =>
        have hb := (parts_bd h).2 s (by simp)
        rw [partsFrom_yes hr he] at h
        have he' : s.1 = e := by simpa using he
        obtain ⟨k, hk⟩ : ∃ k : Nat, s.2 = k := ⟨s.2.toNat, by omega⟩
        rw [hk] at h
        have hlt := pre_lt ho (i := e) (j := k) (by omega) (by omega)
        have h0 := pre_mono ho (i := 0) (j := e) (by omega) (by omega)
        rw [pre_zero] at h0
        have hu : spU a s = (pre a e, pre a k) := by
          unfold spU
          rw [he', hk]
          simp
        rw [List.map_cons, hu, partsFrom_yes (by simp [rightB]; omega) (by simp)]
        exact ih h
theorem check_units {a b : List Int} (ha : Ones a) (hb : Ones b) {l : List (Sp × Sp)} (h : checkC l a.length b.length = true) : checkC (l.map (clU a b)) a.sum b.sum = true := by
  unfold checkC at h ⊢
  rw [Bool.and_eq_true] at h
  obtain ⟨h1, h2⟩ := h
  have e1 : (l.map (clU a b)).map Prod.fst = (l.map Prod.fst).map (spU a) := by simp [clU]
  have e2 : (l.map (clU a b)).map Prod.snd = (l.map Prod.snd).map (spU b) := by simp [clU]
  rw [e1, e2]
  have p1 := parts_units ha (e := 0) h1
  rw [pre_zero] at p1
  have p2 := parts_units hb (e := 0) h2
  rw [pre_zero] at p2
  have hs : LoSorted ((sortR (l.map Prod.snd)).map (spU b)) := by
    have hr := (parts_rise (e := 0) p2).2
    exact hr.imp (fun h => by omega)
  have hp : ((sortR (l.map Prod.snd)).map (spU b)).Perm (sortR ((l.map Prod.snd).map (spU b))) :=
    ((sortR_perm _).map _).trans (sortR_perm _).symm
  rw [Bool.and_eq_true]
  exact ⟨p1, by rw [← parts_perm hp (sortR_sorted _) hs]; exact p2⟩
end Go.Proofs.Ytpllgonjhljjkaa
