/- A base with its marks: groups; an order in which each that falls is turned. No function of the program. -/
import Derived.Test.YtbnjflkafdkcpaaSpD
namespace Go.Proofs.Ytbnjflkafdkcpaa
open Go.RowKit

/-- How far marks of a level go on. -/
def extA (ls : List Int) (ms : List Bool) (x : Int) : Nat → Nat → Nat
  | 0, j => j
  | f + 1, j => if j < ls.length ∧ ms.getD j false = true ∧ ls.getD j 0 = x then extA ls ms x f (j + 1) else j
def hiA (ls : List Int) (ms : List Bool) (i : Nat) : Nat := extA ls ms (ls.getD i 0) ls.length (i + 1)
/-- Whether a base with marks begins at a place, and goes from the right. -/
def isG (ls : List Int) (ms : List Bool) (i : Nat) : Bool := decide (ms.getD i false = false ∧ ls.getD i 0 % 2 ≠ 0 ∧ i + 1 < hiA ls ms i)
/-- The groups of the first places. -/
def grpA (ls : List Int) (ms : List Bool) : Nat → List Sp
  | 0 => []
  | i + 1 => if isG ls ms i = true then grpA ls ms i ++ [((i : Int), ((hiA ls ms i : Nat) : Int))] else grpA ls ms i
def grpF (ls : List Int) (ms : List Bool) : List Sp := if ls.length = ms.length then grpA ls ms ls.length else []
theorem ext_spec {ls : List Int} {ms : List Bool} {x : Int} : ∀ (f j : Nat), ls.length ≤ f + j → j ≤ ls.length →
    j ≤ extA ls ms x f j ∧ extA ls ms x f j ≤ ls.length ∧ (∀ k, j ≤ k → k < extA ls ms x f j → ms.getD k false = true ∧ ls.getD k 0 = x) ∧
    (extA ls ms x f j < ls.length → ¬ (ms.getD (extA ls ms x f j) false = true ∧ ls.getD (extA ls ms x f j) 0 = x))
  | 0, j, h, hj => by
    have : j = ls.length := by omega
    exact ⟨Nat.le_refl _, hj, fun k h1 h2 => by simp only [extA] at h2; omega, fun h1 => by simp only [extA] at h1; omega⟩
  | f + 1, j, h, hj => by
    rw [extA]
    by_cases hc : j < ls.length ∧ ms.getD j false = true ∧ ls.getD j 0 = x
    · rw [if_pos hc]
      obtain ⟨a, b, c, d⟩ := ext_spec (ls := ls) (ms := ms) (x := x) f (j + 1) (by omega) (by omega)
      refine ⟨by omega, b, fun k h1 h2 => ?_, d⟩
      by_cases e : k = j
      · subst e
        exact hc.2
      · exact c k (by omega) h2
    · rw [if_neg hc]
      exact ⟨Nat.le_refl _, hj, fun k h1 h2 => by omega, fun h1 h2 => hc ⟨h1, h2⟩⟩
/-- A group. -/
structure GrpOk (ls : List Int) (ms : List Bool) (a b : Nat) : Prop where
  lt : a + 1 < b
  le : b ≤ ls.length
  base : ms.getD a false = false
  odd : ls.getD a 0 % 2 ≠ 0
  marks : ∀ k, a < k → k < b → ms.getD k false = true ∧ ls.getD k 0 = ls.getD a 0
theorem isG_ok {ls : List Int} {ms : List Bool} {i : Nat} (hi : i < ls.length) (h : isG ls ms i = true) : GrpOk ls ms i (hiA ls ms i) := by
  have h := of_decide_eq_true h
  obtain ⟨a, b, c, _⟩ := ext_spec (ls := ls) (ms := ms) (x := ls.getD i 0) ls.length (i + 1) (by omega) hi
  exact ⟨h.2.2, b, h.1, h.2.1, fun k h1 h2 => c k h1 h2⟩
theorem grpA_mem {ls : List Int} {ms : List Bool} {s : Sp} : ∀ {i : Nat}, i ≤ ls.length → s ∈ grpA ls ms i → ∃ a, a < i ∧ s = ((a : Int), ((hiA ls ms a : Nat) : Int)) ∧ isG ls ms a = true
  | 0, _, h => by cases h
  | i + 1, hi, h => by
    rw [grpA] at h
    split at h
    · rename_i hg
      rcases List.mem_append.1 h with h | h
      · obtain ⟨a, h1, h2⟩ := grpA_mem (by omega) h
        exact ⟨a, by omega, h2⟩
      · rw [List.mem_singleton] at h
        exact ⟨i, by omega, h, hg⟩
    · obtain ⟨a, h1, h2⟩ := grpA_mem (by omega) h
      exact ⟨a, by omega, h2⟩
theorem grp_mem {ls : List Int} {ms : List Bool} {s : Sp} (h : s ∈ grpF ls ms) : ∃ a b : Nat, s = ((a : Int), (b : Int)) ∧ GrpOk ls ms a b := by
  unfold grpF at h
  split at h
  · obtain ⟨a, h1, h2, h3⟩ := grpA_mem (Nat.le_refl _) h
    exact ⟨a, _, h2, isG_ok h1 h3⟩
  · cases h
/-- Two groups that share a place are one. -/
theorem grp_one {ls : List Int} {ms : List Bool} {a b c d k : Nat} (h1 : GrpOk ls ms a b) (h2 : GrpOk ls ms c d) (ha : a ≤ k ∧ k < b) (hc : c ≤ k ∧ k < d) : a = c := by
  have hb1 := h1.base
  have hb2 := h2.base
  rcases Nat.lt_trichotomy a c with h | h | h
  · have := (h1.marks c h (by omega)).1
    rw [hb2] at this
    cases this
  · exact h
  · have := (h2.marks a h (by omega)).1
    rw [hb1] at this
    cases this
theorem grp_same {ls : List Int} {ms : List Bool} {s t : Sp} {v : Int} (hs : s ∈ grpF ls ms) (ht : t ∈ grpF ls ms) (h1 : s.1 ≤ v ∧ v < s.2) (h2 : t.1 ≤ v ∧ v < t.2) : s = t := by
  unfold grpF at hs ht
  split at hs
  · rename_i hl
    rw [if_pos hl] at ht
    obtain ⟨a, a1, rfl, a3⟩ := grpA_mem (Nat.le_refl _) hs
    obtain ⟨c, c1, rfl, c3⟩ := grpA_mem (Nat.le_refl _) ht
    simp only at h1 h2
    have := grp_one (k := v.toNat) (isG_ok a1 a3) (isG_ok c1 c3) (by omega) (by omega)
    subst this
    rfl
  · cases hs
/-- No marks: no groups. -/
theorem grpA_none {ls : List Int} {ms : List Bool} (h : ∀ k, ms.getD k false = false) : ∀ i, grpA ls ms i = []
  | 0 => rfl
  | i + 1 => by
    have hh : hiA ls ms i = i + 1 := by
      unfold hiA
      have : ∀ f j x, extA ls ms x f j = j := by
        intro f
        induction f with
        | zero => intro j x; rfl
        | succ f ih => intro j x; rw [extA, if_neg (by rw [h j]; simp)]
      exact this _ _ _
    rw [grpA, if_neg, grpA_none h i]
    unfold isG
    rw [hh]
    simp
theorem grp_none {ls : List Int} {ms : List Bool} (h : ∀ k, ms.getD k false = false) : grpF ls ms = [] := by
  unfold grpF
  split
  · exact grpA_none h _
  · rfl

/-- How long a group is. -/
def lenG (s : Sp) : Nat := (s.2 - s.1).toNat
/-- Whether a group's places stand from a place on, falling. -/
def fallB (o : List Int) (i : Nat) (s : Sp) : Bool := decide (i + lenG s ≤ o.length ∧ ∀ k, k < lenG s → o.getD (i + k) 0 = s.2 - 1 - (k : Int))
/-- They are put there, rising. -/
def riseS (o : List Int) (i : Nat) (lo : Int) : Nat → List Int
  | 0 => o
  | k + 1 => (riseS o i lo k).set (i + k) (lo + (k : Int))
theorem riseS_len (o : List Int) (i : Nat) (lo : Int) : ∀ k, (riseS o i lo k).length = o.length
  | 0 => rfl
  | k + 1 => by rw [riseS, List.length_set, riseS_len o i lo k]
theorem riseS_out {o : List Int} {i : Nat} {lo : Int} {j : Nat} : ∀ {k : Nat}, ¬ (i ≤ j ∧ j < i + k) → (riseS o i lo k)[j]? = o[j]?
  | 0, _ => rfl
  | k + 1, h => by rw [riseS, List.getElem?_set_ne (by omega), riseS_out (by omega)]
theorem riseS_in {o : List Int} {i : Nat} {lo : Int} {j : Nat} : ∀ {k : Nat}, i ≤ j → j < i + k → j < o.length → (riseS o i lo k)[j]? = some (lo + ((j - i : Nat) : Int))
  | 0, h1, h2, _ => by omega
  | k + 1, h1, h2, h3 => by
    rw [riseS]
    by_cases e : i + k = j
    · subst e
      rw [List.getElem?_set_self (by rw [riseS_len]; exact h3), Nat.add_sub_cancel_left]
    · rw [List.getElem?_set_ne e, riseS_in h1 (by omega) h3]
/-- One group, looked for from the first place on. -/
def accS (o : List Int) (s : Sp) : Nat → List Int → List Int
  | 0, out => out
  | i + 1, out => if fallB o i s = true then riseS (accS o s i out) i s.1 (lenG s) else accS o s i out
theorem accS_len (o : List Int) (s : Sp) (out : List Int) : ∀ i, (accS o s i out).length = out.length
  | 0 => rfl
  | i + 1 => by
    rw [accS]
    split
    · rw [riseS_len, accS_len o s out i]
    · exact accS_len o s out i
def accF (o : List Int) (G : List Sp) : List Int := G.foldl (fun out s => accS o s o.length out) o
/-- Whether a number is of a group that falls. -/
def hitA (o : List Int) (s : Sp) (v : Int) : Bool := decide (s.1 ≤ v ∧ v < s.2) && (List.range o.length).any fun i => fallB o i s
/-- What becomes of a number. -/
def turV (o : List Int) (G : List Sp) (v : Int) : Int := G.foldl (fun r s => if hitA o s v = true then s.1 + s.2 - 1 - v else r) v
theorem fall_at {o : List Int} {i k : Nat} {s : Sp} (h : fallB o i s = true) (hk : k < lenG s) : o[i + k]? = some (s.2 - 1 - (k : Int)) := by
  obtain ⟨h1, h2⟩ := of_decide_eq_true h
  have := h2 k hk
  rw [List.getD_eq_getElem?_getD, List.getElem?_eq_getElem (by omega)] at this
  rw [List.getElem?_eq_getElem (by omega)]
  exact congrArg some this
theorem nodup_at {o : List Int} (hn : o.Nodup) {i j : Nat} {v : Int} (h1 : o[i]? = some v) (h2 : o[j]? = some v) : i = j := by
  have hi := (List.getElem?_eq_some_iff.1 h1)
  have hj := (List.getElem?_eq_some_iff.1 h2)
  obtain ⟨a, b⟩ := hi
  obtain ⟨c, d⟩ := hj
  exact (List.getElem_inj hn).1 (b.trans d.symm)
/-- A group that falls, put up to place m. -/
theorem accS_at {o : List Int} (hn : o.Nodup) {s : Sp} {out : List Int} (hl : out.length = o.length) {j : Nat} {v : Int} (hv : o[j]? = some v) : ∀ m, m ≤ o.length → (accS o s m out)[j]? = if s.1 ≤ v ∧ v < s.2 ∧ (∃ i, i < m ∧ fallB o i s = true) then some (s.1 + s.2 - 1 - v) else out[j]?
  | 0, _ => by
    rw [if_neg (by rintro ⟨_, _, i, hi, _⟩; omega)]
    rfl
  | m + 1, hm => by
    have ih := accS_at hn (s := s) hl hv m (by omega)
    have hj := (List.getElem?_eq_some_iff.1 hv).1
    rw [accS]
    by_cases hf : fallB o m s = true
    · rw [if_pos hf]
      by_cases hin : s.1 ≤ v ∧ v < s.2
      · rw [if_pos ⟨hin.1, hin.2, m, by omega, hf⟩]
        have hk : (s.2 - 1 - v).toNat < lenG s := by unfold lenG; omega
        have h1 := fall_at hf hk
        have h2 : s.2 - 1 - (((s.2 - 1 - v).toNat : Nat) : Int) = v := by omega
        rw [h2] at h1
        have h3 := nodup_at hn hv h1
        rw [riseS_in (by omega) (by omega) (by rw [accS_len]; omega)]
        congr 1
        omega
      · rw [if_neg (by rintro ⟨a, b, _⟩; exact hin ⟨a, b⟩)]
        have hno : ¬ (m ≤ j ∧ j < m + lenG s) := by
          rintro ⟨a, b⟩
          have h1 := fall_at hf (k := j - m) (by omega)
          rw [show m + (j - m) = j by omega, hv] at h1
          have h2 := Option.some.inj h1
          apply hin
          unfold lenG at b
          omega
        rw [riseS_out hno, ih, if_neg (by rintro ⟨a, b, _⟩; exact hin ⟨a, b⟩)]
    · rw [if_neg hf, ih]
      congr 1
      apply propext
      constructor
      · rintro ⟨a, b, i, c, d⟩; exact ⟨a, b, i, by omega, d⟩
      · rintro ⟨a, b, i, c, d⟩
        refine ⟨a, b, i, ?_, d⟩
        rcases Nat.lt_or_ge i m with h | h
        · exact h
        · rw [show i = m by omega] at d
          exact absurd d hf
theorem accS_hit {o : List Int} (hn : o.Nodup) {s : Sp} {out : List Int} (hl : out.length = o.length) {j : Nat} {v : Int} (hv : o[j]? = some v) : (accS o s o.length out)[j]? = if hitA o s v = true then some (s.1 + s.2 - 1 - v) else out[j]? := by
  rw [accS_at hn hl hv o.length (Nat.le_refl _)]
  congr 1
  apply propext
  unfold hitA
  rw [Bool.and_eq_true, decide_eq_true_eq, List.any_eq_true]
  constructor
  · rintro ⟨a, b, i, c, d⟩; exact ⟨⟨a, b⟩, i, by simpa using c, d⟩
  · rintro ⟨⟨a, b⟩, i, c, d⟩; exact ⟨a, b, i, by simpa using c, d⟩
theorem acc_at {o : List Int} (hn : o.Nodup) {j : Nat} {v : Int} (hv : o[j]? = some v) : ∀ (G : List Sp) (out : List Int) (r : Int), out.length = o.length → out[j]? = some r → (G.foldl (fun out s => accS o s o.length out) out)[j]? = some (G.foldl (fun r s => if hitA o s v = true then s.1 + s.2 - 1 - v else r) r)
  | [], _, _, _, h => h
  | s :: G, out, r, hl, h => by
    rw [List.foldl_cons, List.foldl_cons]
    refine acc_at hn hv G _ _ (by rw [accS_len]; exact hl) ?_
    rw [accS_hit hn hl hv]
    split
    · rfl
    · exact h
theorem acc_len (o : List Int) : ∀ (G : List Sp) (out : List Int), out.length = o.length → (G.foldl (fun out s => accS o s o.length out) out).length = o.length
  | [], _, h => h
  | s :: G, out, h => by rw [List.foldl_cons]; exact acc_len o G _ (by rw [accS_len]; exact h)
/-- All groups are turned: number by number. -/
theorem acc_map {o : List Int} (hn : o.Nodup) (G : List Sp) : accF o G = o.map (turV o G) := by
  apply List.ext_getElem?
  intro j
  by_cases hj : j < o.length
  · have hv : o[j]? = some o[j] := List.getElem?_eq_getElem hj
    rw [List.getElem?_map, hv, Option.map_some]
    exact acc_at hn hv G o _ rfl hv
  · rw [List.getElem?_eq_none (by unfold accF; rw [acc_len o G o rfl]; omega), List.getElem?_eq_none (by simpa using hj)]
theorem tur_none {o : List Int} {v : Int} : ∀ (G : List Sp) (r : Int), (∀ s ∈ G, hitA o s v = false) → G.foldl (fun r s => if hitA o s v = true then s.1 + s.2 - 1 - v else r) r = r
  | [], _, _ => rfl
  | s :: G, r, h => by
    rw [List.foldl_cons, if_neg (by rw [h s (by simp)]; decide)]
    exact tur_none G r fun t ht => h t (by simp [ht])
theorem tur_some {o : List Int} {v : Int} {s : Sp} (hs : hitA o s v = true) : ∀ (G : List Sp) (r : Int), (∀ t ∈ G, hitA o t v = true → t = s) → (s ∈ G ∨ r = s.1 + s.2 - 1 - v) → G.foldl (fun r s => if hitA o s v = true then s.1 + s.2 - 1 - v else r) r = s.1 + s.2 - 1 - v
  | [], r, _, h => by
    rcases h with h | h
    · cases h
    · exact h
  | t :: G, r, hall, h => by
    rw [List.foldl_cons]
    by_cases ht : hitA o t v = true
    · rw [if_pos ht]
      have := hall t (by simp) ht
      subst this
      exact tur_some hs G _ (fun u hu => hall u (by simp [hu])) (.inr rfl)
    · rw [if_neg ht]
      refine tur_some hs G r (fun u hu => hall u (by simp [hu])) (h.imp (fun hm => ?_) id)
      rcases List.mem_cons.1 hm with e | hm
      · subst e
        exact absurd hs ht
      · exact hm
end Go.Proofs.Ytbnjflkafdkcpaa
