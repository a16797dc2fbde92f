/- Paragraphs as plain mathematics: where they end, which places go together, the first strong class, the level. No function of the program. -/
import Derived.Test.YtbnjflkafdkcpaaPartsD
import Derived.Test.YtbnjflkafdkcpaaPpF
namespace Go.Proofs.Ytbnjflkafdkcpaa
open Go.RowKit

/-- Whether a paragraph ends behind place k. -/
def endB (xs : List Int) (k : Nat) : Bool := decide (xs[k]?.map classF = some 10) && !(decide (xs[k]? = some 13) && decide (xs[k + 1]? = some 10))
/-- The paragraphs up to place k, and where the next one begins. -/
def parA (xs : List Int) : Nat → List Sp × Int
  | 0 => ([], 0)
  | k + 1 => if k + 1 = xs.length ∨ endB xs k = true then ((parA xs k).1 ++ [((parA xs k).2, (k : Int) + 1)], (k : Int) + 1) else parA xs k
def parL (xs : List Int) : List Sp := (parA xs xs.length).1
theorem parA_len (xs : List Int) (k : Nat) : (parA xs k).1.length ≤ k ∧ 0 ≤ (parA xs k).2 ∧ (parA xs k).2 ≤ k := by
  induction k with
  | zero => simp [parA]
  | succ k ih =>
    rw [parA]
    split
    · simp; omega
    · omega
theorem partsFrom_snoc (l : List Sp) (e : Int) (s : Sp) (n m : Int) (h : partsFrom e l m = true) (hs : s.1 = m) (hn : s.2 = n) (hr : rightB s = true) : partsFrom e (l ++ [s]) n = true := by
  induction l generalizing e with
  | nil =>
    simp only [partsFrom, beq_iff_eq] at h
    subst h
    simp [partsFrom, hr, hs, hn]
  | cons t l ih =>
    simp only [partsFrom, Bool.and_eq_true, List.cons_append] at h ⊢
    exact ⟨h.1, ih _ h.2⟩
theorem parA_parts (xs : List Int) (k : Nat) : partsFrom 0 (parA xs k).1 (parA xs k).2 = true := by
  induction k with
  | zero => rfl
  | succ k ih =>
    have h9 := parA_len xs k
    rw [parA]
    split
    · exact partsFrom_snoc _ _ _ _ _ ih rfl rfl (by simp [rightB]; omega)
    · exact ih
theorem parL_parts (xs : List Int) : partsS (parL xs) xs.length = true := by
  have h := parA_parts xs xs.length
  unfold partsS parL
  have he : (parA xs xs.length).2 = xs.length := by
    rcases hn : xs.length with _ | n
    · rfl
    · rw [parA, if_pos (.inl hn.symm)]
      simp
  rwa [he] at h

/-- Whether a class begins what stands apart. -/
def opB (c : Int) : Bool := decide (19 ≤ c) && decide (c ≤ 21)
theorem opB_iff (c : Int) : opB c = true ↔ c = 19 ∨ c = 20 ∨ c = 21 := by simp [opB]; omega
/-- How far behind the place is that ends what stands apart, from so deep on. -/
def clo : List Int → Nat → Option Nat
  | [], _ => none
  | c :: l, d => if opB c = true then (clo l (d + 1)).map (· + 1) else if c = 22 then (if d = 0 then some 0 else (clo l (d - 1)).map (· + 1)) else (clo l d).map (· + 1)
/-- The place that ends it, read on from place k; or how many places there are. -/
def ansF (xs : List Int) (k d : Nat) : Nat := match clo (xs.drop k) d with | some j => k + j | none => xs.length
theorem clo_lt {l : List Int} {d j : Nat} (h : clo l d = some j) : j < l.length := by
  induction l generalizing d j with
  | nil => simp [clo] at h
  | cons c l ih =>
    rw [clo] at h
    split at h
    · simp only [Option.map_eq_some_iff] at h
      obtain ⟨a, ha, rfl⟩ := h
      have := ih ha
      simp; omega
    · split at h
      · split at h
        · simp at h; subst h; simp
        · simp only [Option.map_eq_some_iff] at h
          obtain ⟨a, ha, rfl⟩ := h
          have := ih ha
          simp; omega
      · simp only [Option.map_eq_some_iff] at h
        obtain ⟨a, ha, rfl⟩ := h
        have := ih ha
        simp; omega
theorem clo_pdi {l : List Int} {d j : Nat} (h : clo l d = some j) : l[j]? = some 22 := by
  induction l generalizing d j with
  | nil => simp [clo] at h
  | cons c l ih =>
    rw [clo] at h
    split at h
    · simp only [Option.map_eq_some_iff] at h
      obtain ⟨a, ha, rfl⟩ := h
      simpa using ih ha
    · split at h
      · rename_i hc
        split at h
        · simp at h; subst h; simp [hc]
        · simp only [Option.map_eq_some_iff] at h
          obtain ⟨a, ha, rfl⟩ := h
          simpa using ih ha
      · simp only [Option.map_eq_some_iff] at h
        obtain ⟨a, ha, rfl⟩ := h
        simpa using ih ha
theorem ansF_le (xs : List Int) (k d : Nat) : ansF xs k d ≤ xs.length := by
  unfold ansF
  split
  · rename_i j h
    have := clo_lt h
    simp at this
    omega
  · exact Nat.le_refl _
theorem ansF_ge (xs : List Int) (k d : Nat) (hk : k ≤ xs.length) : k ≤ ansF xs k d := by
  unfold ansF
  split
  · omega
  · exact hk
theorem ansF_end (xs : List Int) (d : Nat) : ansF xs xs.length d = xs.length := by
  unfold ansF
  simp [clo]
theorem ansF_pdi (xs : List Int) (k d : Nat) (h : ansF xs k d < xs.length) : xs[ansF xs k d]? = some 22 := by
  unfold ansF at h ⊢
  split
  · rename_i j hj
    have := clo_pdi hj
    rwa [List.getElem?_drop] at this
  · rename_i hj
    rw [hj] at h
    simp at h
theorem ansF_map {xs : List Int} {k d e : Nat} {c : Int} (_hd : xs.drop k = c :: xs.drop (k + 1)) (h : clo (xs.drop k) d = (clo (xs.drop (k + 1)) e).map (· + 1)) : ansF xs k d = ansF xs (k + 1) e := by
  unfold ansF
  rw [h]
  cases clo (xs.drop (k + 1)) e with
  | none => rfl
  | some j => simp; omega
theorem ansF_open {xs : List Int} {k : Nat} {c : Int} (d : Nat) (h : xs[k]? = some c) (ho : opB c = true) : ansF xs k d = ansF xs (k + 1) (d + 1) :=
  ansF_map (dropCons h) (by rw [dropCons h, clo, if_pos ho])
theorem ansF_shut {xs : List Int} {k : Nat} (d : Nat) (h : xs[k]? = some 22) : ansF xs k (d + 1) = ansF xs (k + 1) d :=
  ansF_map (dropCons h) (by rw [dropCons h, clo, if_neg (by decide), if_pos rfl, if_neg (by omega)]; rfl)
theorem ansF_here {xs : List Int} {k : Nat} (h : xs[k]? = some 22) : ansF xs k 0 = k := by
  unfold ansF
  rw [dropCons h, clo, if_neg (by decide), if_pos rfl, if_pos rfl]
  rfl
theorem ansF_pass {xs : List Int} {k : Nat} {c : Int} (d : Nat) (h : xs[k]? = some c) (ho : opB c = false) (h2 : c ≠ 22) : ansF xs k d = ansF xs (k + 1) d :=
  ansF_map (dropCons h) (by rw [dropCons h, clo, if_neg (by rw [ho]; decide), if_neg h2])

/-- The program's steps: what goes together so far, and the places that are open, the last one first. -/
def pmS (xs : List Int) : Nat → List Int × List Nat
  | 0 => (List.replicate xs.length 0, [])
  | k + 1 =>
    let s := pmS xs k
    let m := s.1.set k (-1)
    match xs[k]? with
    | none => s
    | some c => if opB c = true then (m.set k xs.length, k :: s.2) else if c = 22 then (match s.2 with | [] => (m, []) | t :: r => ((m.set k t).set t k, r)) else (m, s.2)
/-- The reference's steps. -/
def rmS (xs : List Int) : Nat → List Int
  | 0 => List.replicate xs.length (-1)
  | k + 1 => if xs[k]?.map opB = some true then (let m := (rmS xs k).set k (ansF xs (k + 1) 0); if ansF xs (k + 1) 0 < xs.length then m.set (ansF xs (k + 1) 0) k else m) else rmS xs k
def matF (xs : List Int) : List Int := (pmS xs xs.length).1
def OpAt (xs : List Int) (i : Nat) : Prop := xs[i]?.map opB = some true
/-- What the whole answer is. -/
structure Good (xs m : List Int) : Prop where
  len : m.length = xs.length
  op : ∀ i, OpAt xs i → m[i]? = some ((ansF xs (i + 1) 0 : Nat) : Int)
  shut : ∀ i, OpAt xs i → ansF xs (i + 1) 0 < xs.length → m[ansF xs (i + 1) 0]? = some (i : Int)
  else_ : ∀ j < xs.length, ¬ OpAt xs j → m[j]? = some (-1) ∨ ∃ i, OpAt xs i ∧ ansF xs (i + 1) 0 = j
theorem Good.same {xs m m' : List Int} (h : Good xs m) (h' : Good xs m') : m = m' := by
  apply List.ext_getElem?
  intro j
  rcases Nat.lt_or_ge j xs.length with hj | hj
  · by_cases ho : OpAt xs j
    · rw [h.op j ho, h'.op j ho]
    · rcases h.else_ j hj ho with e | ⟨i, hi, e⟩
      · rcases h'.else_ j hj ho with e' | ⟨i, hi, e'⟩
        · rw [e, e']
        · subst e'
          rw [h.shut i hi hj, h'.shut i hi hj]
      · subst e
        rw [h.shut i hi hj, h'.shut i hi hj]
  · rw [List.getElem?_eq_none (by rw [h.len]; exact hj), List.getElem?_eq_none (by rw [h'.len]; exact hj)]
/-- What holds at each turn of the program. -/
structure PmI (xs : List Int) (k : Nat) (m : List Int) (S : List Nat) : Prop where
  len : m.length = xs.length
  st : ∀ t i, S[t]? = some i → i < k ∧ OpAt xs i ∧ ansF xs (i + 1) 0 = ansF xs k t ∧ m[i]? = some (xs.length : Int)
  op : ∀ i < k, OpAt xs i → i ∈ S ∨ (ansF xs (i + 1) 0 < k ∧ m[i]? = some ((ansF xs (i + 1) 0 : Nat) : Int) ∧ m[ansF xs (i + 1) 0]? = some (i : Int))
  else_ : ∀ j < k, ¬ OpAt xs j → m[j]? = some (-1) ∨ ∃ i, OpAt xs i ∧ ansF xs (i + 1) 0 = j
theorem set_ne {l : List Int} {i j : Nat} {x : Int} (h : i ≠ j) : (l.set i x)[j]? = l[j]? := List.getElem?_set_ne h
theorem set_eq {l : List Int} {i : Nat} {x : Int} (h : i < l.length) : (l.set i x)[i]? = some x := List.getElem?_set_self h
theorem opAt_of {xs : List Int} {k : Nat} {c : Int} (h : xs[k]? = some c) : OpAt xs k ↔ opB c = true := by
  unfold OpAt
  rw [h]
  simp
theorem pmI_all (xs : List Int) (k : Nat) (hk : k ≤ xs.length) : PmI xs k (pmS xs k).1 (pmS xs k).2 := by
  induction k with
  | zero => exact ⟨by simp [pmS], by simp [pmS], fun i h => absurd h (by omega), fun i h => absurd h (by omega)⟩
  | succ k ih =>
    have ih := ih (by omega)
    obtain ⟨c, hc⟩ : ∃ c, xs[k]? = some c := ⟨_, List.getElem?_eq_getElem (by omega)⟩
    obtain ⟨m, S, hmS⟩ : ∃ m S, pmS xs k = (m, S) := ⟨_, _, rfl⟩
    rw [hmS] at ih
    simp only at ih
    have hle : ∀ i, i ∈ S → i < k := fun i hi => by
      obtain ⟨t, ht⟩ := List.getElem?_of_mem hi
      exact (ih.st t i ht).1
    rw [pmS]
    simp only [hmS, hc]
    by_cases ho : opB c = true
    · rw [if_pos ho]
      have hoA := (opAt_of hc).2 ho
      refine ⟨by simp [ih.len], fun t i ht => ?_, fun i hi hoi => ?_, fun j hj hoj => ?_⟩
      · cases t with
        | zero =>
          simp at ht
          subst ht
          exact ⟨by omega, hoA, rfl, set_eq (by simp [ih.len]; omega)⟩
        | succ t =>
          simp at ht
          obtain ⟨h1, h2, h3, h4⟩ := ih.st t i ht
          exact ⟨by omega, h2, h3.trans (ansF_open t hc ho), by rw [set_ne (by omega), set_ne (by omega)]; exact h4⟩
      · by_cases hik : i = k
        · subst hik; exact .inl (List.mem_cons_self ..)
        · rcases ih.op i (by omega) hoi with h | ⟨h1, h2, h3⟩
          · exact .inl (List.mem_cons_of_mem _ h)
          · exact .inr ⟨by omega, by rw [set_ne (by omega), set_ne (by omega)]; exact h2, by rw [set_ne (by omega), set_ne (by omega)]; exact h3⟩
      · by_cases hjk : j = k
        · subst hjk; exact absurd hoA hoj
        · rcases ih.else_ j (by omega) hoj with h | h
          · exact .inl (by rw [set_ne (by omega), set_ne (by omega)]; exact h)
          · exact .inr h
    · rw [if_neg ho]
      have hnA : ¬ OpAt xs k := fun h => ho ((opAt_of hc).1 h)
      by_cases h22 : c = 22
      · subst h22
        rw [if_pos rfl]
        cases S with
        | nil =>
          refine ⟨by simp [ih.len], by simp, fun i hi hoi => ?_, fun j hj hoj => ?_⟩
          · have hik : i ≠ k := by rintro rfl; exact hnA hoi
            rcases ih.op i (by omega) hoi with h | ⟨h1, h2, h3⟩
            · simp at h
            · exact .inr ⟨by omega, by rw [set_ne (by omega)]; exact h2, by rw [set_ne (by omega)]; exact h3⟩
          · by_cases hjk : j = k
            · subst hjk; exact .inl (set_eq (by rw [ih.len]; omega))
            · rcases ih.else_ j (by omega) hoj with h | h
              · exact .inl (by rw [set_ne (by omega)]; exact h)
              · exact .inr h
        | cons t r =>
          obtain ⟨g1, g2, g3, g4⟩ := ih.st 0 t rfl
          have hclo : ansF xs (t + 1) 0 = k := by rw [g3]; exact ansF_here hc
          have hnd : ∀ u i, r[u]? = some i → i ≠ t := fun u i hu e => by
            subst e
            have h5 := (ih.st (u + 1) i (by simpa using hu)).2.2.1
            have h6 : ansF xs k (u + 1) = ansF xs (k + 1) u := ansF_shut u hc
            have h7 := ansF_ge xs (k + 1) u (by omega)
            omega
          refine ⟨by simp [ih.len], fun u i hu => ?_, fun i hi hoi => ?_, fun j hj hoj => ?_⟩
          · obtain ⟨h1, h2, h3, h4⟩ := ih.st (u + 1) i (by simpa using hu)
            have := hnd u i hu
            exact ⟨by omega, h2, h3.trans (ansF_shut u hc), by rw [set_ne (by omega), set_ne (by omega), set_ne (by omega)]; exact h4⟩
          · have hik : i ≠ k := by rintro rfl; exact hnA hoi
            by_cases hit : i = t
            · subst hit
              exact .inr ⟨by omega, by rw [hclo]; exact set_eq (by simp [ih.len]; omega), by rw [hclo, set_ne (by omega)]; exact set_eq (by simp [ih.len]; omega)⟩
            · rcases ih.op i (by omega) hoi with h | ⟨h1, h2, h3⟩
              · simp [hit] at h
                exact .inl h
              · have hct : ansF xs (i + 1) 0 ≠ t := fun e => by
                  rw [e, g4] at h3
                  simp at h3
                  omega
                exact .inr ⟨by omega, by rw [set_ne (by omega), set_ne (by omega), set_ne (by omega)]; exact h2, by rw [set_ne (by omega), set_ne (by omega), set_ne (by omega)]; exact h3⟩
          · by_cases hjk : j = k
            · subst hjk; exact .inr ⟨t, g2, hclo⟩
            · have hjt : j ≠ t := by rintro rfl; exact hoj g2
              rcases ih.else_ j (by omega) hoj with h | h
              · exact .inl (by rw [set_ne (by omega), set_ne (by omega), set_ne (by omega)]; exact h)
              · exact .inr h
      · rw [if_neg h22]
        have ho' : opB c = false := by simpa using ho
        refine ⟨by simp [ih.len], fun u i hu => ?_, fun i hi hoi => ?_, fun j hj hoj => ?_⟩
        · obtain ⟨h1, h2, h3, h4⟩ := ih.st u i hu
          exact ⟨by omega, h2, h3.trans (ansF_pass u hc ho' h22), by rw [set_ne (by omega)]; exact h4⟩
        · have hik : i ≠ k := by rintro rfl; exact hnA hoi
          rcases ih.op i (by omega) hoi with h | ⟨h1, h2, h3⟩
          · exact .inl h
          · exact .inr ⟨by omega, by rw [set_ne (by omega)]; exact h2, by rw [set_ne (by omega)]; exact h3⟩
        · by_cases hjk : j = k
          · subst hjk; exact .inl (set_eq (by rw [ih.len]; omega))
          · rcases ih.else_ j (by omega) hoj with h | h
            · exact .inl (by rw [set_ne (by omega)]; exact h)
            · exact .inr h
theorem opAt_lt {xs : List Int} {i : Nat} (h : OpAt xs i) : i < xs.length := by
  unfold OpAt at h
  rcases Nat.lt_or_ge i xs.length with hi | hi
  · exact hi
  · rw [List.getElem?_eq_none hi] at h; simp at h
theorem matF_good (xs : List Int) : Good xs (matF xs) := by
  have h := pmI_all xs xs.length (Nat.le_refl _)
  unfold matF
  refine ⟨h.len, fun i hi => ?_, fun i hi hlt => ?_, h.else_⟩
  · rcases h.op i (opAt_lt hi) hi with g | ⟨_, g, _⟩
    · obtain ⟨t, ht⟩ := List.getElem?_of_mem g
      obtain ⟨_, _, g3, g4⟩ := h.st t i ht
      rw [ansF_end] at g3
      rw [g3, g4]
    · exact g
  · rcases h.op i (opAt_lt hi) hi with g | ⟨_, _, g⟩
    · obtain ⟨t, ht⟩ := List.getElem?_of_mem g
      obtain ⟨_, _, g3, g4⟩ := h.st t i ht
      rw [ansF_end] at g3
      omega
    · exact g
/-- What goes together goes together once. -/
theorem ansF_inj {xs : List Int} {i j : Nat} (hi : OpAt xs i) (hj : OpAt xs j) (h : ansF xs (i + 1) 0 = ansF xs (j + 1) 0) (hl : ansF xs (i + 1) 0 < xs.length) : i = j := by
  have h1 := (matF_good xs).shut i hi hl
  have h2 := (matF_good xs).shut j hj (by omega)
  rw [← h, h1] at h2
  simp at h2
  omega
theorem pdi_not {xs : List Int} {i : Nat} (hl : ansF xs (i + 1) 0 < xs.length) : ¬ OpAt xs (ansF xs (i + 1) 0) := fun h => by
  have h1 := ansF_pdi xs (i + 1) 0 hl
  rw [opAt_of h1] at h
  cases h
structure RmI (xs : List Int) (k : Nat) (m : List Int) : Prop where
  len : m.length = xs.length
  op : ∀ i < k, OpAt xs i → m[i]? = some ((ansF xs (i + 1) 0 : Nat) : Int) ∧ (ansF xs (i + 1) 0 < xs.length → m[ansF xs (i + 1) 0]? = some (i : Int))
  else_ : ∀ j < xs.length, ¬ OpAt xs j → m[j]? = some (-1) ∨ ∃ i, OpAt xs i ∧ ansF xs (i + 1) 0 = j
theorem rmI_all (xs : List Int) (k : Nat) (hk : k ≤ xs.length) : RmI xs k (rmS xs k) := by
  induction k with
  | zero => exact ⟨by simp [rmS], fun i h => absurd h (by omega), fun j hj _ => .inl (by rw [rmS, List.getElem?_replicate, if_pos hj])⟩
  | succ k ih =>
    have ih := ih (by omega)
    rw [rmS]
    by_cases ho : xs[k]?.map opB = some true
    · rw [if_pos ho]
      have hoA : OpAt xs k := ho
      by_cases hl : ansF xs (k + 1) 0 < xs.length
      · simp only [hl, if_true]
        have hn := pdi_not hl
        have hge := ansF_ge xs (k + 1) 0 (by omega)
        refine ⟨by simp [ih.len], fun i hi hoi => ?_, fun j hj hoj => ?_⟩
        · have h1 : ansF xs (k + 1) 0 ≠ i := by rintro rfl; exact hn hoi
          by_cases hik : i = k
          · subst hik
            exact ⟨by rw [set_ne h1, set_eq (by rw [ih.len]; omega)], fun _ => set_eq (by simp [ih.len]; omega)⟩
          · obtain ⟨g1, g2⟩ := ih.op i (by omega) hoi
            refine ⟨by rw [set_ne h1, set_ne (by omega)]; exact g1, fun hli => ?_⟩
            have h2 : ansF xs (k + 1) 0 ≠ ansF xs (i + 1) 0 := fun e => hik (ansF_inj hoi hoA e.symm hli)
            have h3 : k ≠ ansF xs (i + 1) 0 := by intro e; exact pdi_not hli (by rw [← e]; exact hoA)
            rw [set_ne h2, set_ne h3]
            exact g2 hli
        · by_cases hja : ansF xs (k + 1) 0 = j
          · exact .inr ⟨k, hoA, hja⟩
          · have hjk : k ≠ j := by rintro rfl; exact hoj hoA
            rcases ih.else_ j hj hoj with h | h
            · exact .inl (by rw [set_ne hja, set_ne hjk]; exact h)
            · exact .inr h
      · simp only [hl, if_false]
        refine ⟨by simp [ih.len], fun i hi hoi => ?_, fun j hj hoj => ?_⟩
        · by_cases hik : i = k
          · subst hik
            exact ⟨set_eq (by rw [ih.len]; omega), fun h => absurd h hl⟩
          · obtain ⟨g1, g2⟩ := ih.op i (by omega) hoi
            refine ⟨by rw [set_ne (by omega)]; exact g1, fun hli => ?_⟩
            have h3 : k ≠ ansF xs (i + 1) 0 := by intro e; exact pdi_not hli (by rw [← e]; exact hoA)
            rw [set_ne h3]
            exact g2 hli
        · have hjk : k ≠ j := by rintro rfl; exact hoj hoA
          rcases ih.else_ j hj hoj with h | h
          · exact .inl (by rw [set_ne hjk]; exact h)
          · exact .inr h
    · rw [if_neg ho]
      refine ⟨ih.len, fun i hi hoi => ?_, ih.else_⟩
      have hik : i ≠ k := by rintro rfl; exact ho hoi
      exact ih.op i (by omega) hoi
/-- Both come to the same. -/
theorem rm_pm (xs : List Int) : rmS xs xs.length = matF xs := by
  have h := rmI_all xs xs.length (Nat.le_refl _)
  have g : Good xs (rmS xs xs.length) := ⟨h.len, fun i hi => (h.op i (opAt_lt hi) hi).1, fun i hi hl => (h.op i (opAt_lt hi) hi).2 hl, h.else_⟩
  exact g.same (matF_good xs)
/-- What goes together goes both ways. -/
theorem mat_back {xs : List Int} {i k : Nat} (h : (matF xs)[i]? = some (k : Int)) (hk : k < xs.length) : (matF xs)[k]? = some (i : Int) := by
  have g := matF_good xs
  have hi : i < xs.length := by
    have := (List.getElem?_eq_some_iff.1 h).1
    rwa [g.len] at this
  by_cases ho : OpAt xs i
  · rw [g.op i ho] at h
    have e : ansF xs (i + 1) 0 = k := by simp at h; omega
    subst e
    exact g.shut i ho hk
  · rcases g.else_ i hi ho with e | ⟨j, hj, e⟩
    · rw [e] at h
      simp at h
    · subst e
      rw [g.shut j hj hi] at h
      have e : j = k := by simp at h; omega
      subst e
      exact g.op j hj
theorem pmS_len (xs : List Int) (k : Nat) : (pmS xs k).1.length = xs.length := by
  induction k with
  | zero => simp [pmS]
  | succ k ih =>
    rw [pmS]
    split
    · exact ih
    · repeat' split
      all_goals simp [ih]
theorem pmS_stack (xs : List Int) (k : Nat) : (pmS xs k).2.length ≤ k := by
  induction k with
  | zero => simp [pmS]
  | succ k ih =>
    rw [pmS]
    split
    · omega
    · repeat' split
      all_goals (rename_i hs; simp_all; try omega)

/-- The first strong class, from so deep on. -/
def fstF : List Int → Nat → Int
  | [], _ => -1
  | c :: l, d => if opB c = true then fstF l (d + 1) else if c = 22 then fstF l (d - 1) else if d = 0 then (if c = 0 then 0 else if c = 1 ∨ c = 2 then 1 else fstF l 0) else fstF l d
/-- What stands apart may be passed over at once. -/
theorem fst_clo (l : List Int) (d : Nat) : fstF l (d + 1) = match clo l d with | some j => fstF (l.drop (j + 1)) 0 | none => -1 := by
  induction l generalizing d with
  | nil => rfl
  | cons c l ih =>
    rw [fstF, clo]
    split
    · rw [ih (d + 1)]
      cases clo l (d + 1) <;> rfl
    · by_cases h22 : c = 22
      · rw [if_pos h22, if_pos h22]
        by_cases hd : d = 0
        · subst hd; rfl
        · rw [if_neg hd, show d + 1 - 1 = (d - 1) + 1 by omega, ih (d - 1)]
          cases clo l (d - 1) <;> rfl
      · rw [if_neg h22, if_neg h22, if_neg (by omega), ih d]
        cases clo l d <;> rfl
def spanOf (xs : List Int) (s : Sp) : List Int := if max s.1 0 < min (max s.2 0) xs.length then (xs.drop (max s.1 0).toNat).take ((min (max s.2 0) xs.length).toNat - (max s.1 0).toNat) else []
def firstF (xs : List Int) (s : Sp) : Int := fstF (spanOf xs s) 0
def levelF (xs : List Int) (d : Int) : Int :=
  if d = 1 then 1 else if d = 2 then (if fstF xs 0 = -1 then 0 else fstF xs 0) else if d = 3 then (if fstF xs 0 = -1 then 1 else fstF xs 0) else 0
theorem fst_val (l : List Int) (d : Nat) : fstF l d = -1 ∨ fstF l d = 0 ∨ fstF l d = 1 := by
  induction l generalizing d with
  | nil => exact .inl rfl
  | cons c l ih =>
    rw [fstF]
    split
    · exact ih _
    · split
      · exact ih _
      · split
        · split
          · exact .inr (.inl rfl)
          · split
            · exact .inr (.inr rfl)
            · exact ih 0
        · exact ih _
theorem spanOf_all (xs : List Int) : spanOf xs (0, xs.length) = xs := by
  unfold spanOf
  rcases Nat.eq_zero_or_pos xs.length with h | h
  · rw [if_neg (by simp [h])]
    exact (List.eq_nil_of_length_eq_zero h).symm
  · rw [if_pos (by simp; omega)]
    rw [show (max (0 : Int) 0).toNat = 0 from rfl, show (min (max (xs.length : Int) 0) xs.length).toNat = xs.length by omega]
    simp
/-- Codes ahead that are no strong ones and begin nothing change nothing. -/
def calm (c : Int) : Bool := !(decide (c = 0) || decide (c = 1) || decide (c = 2)) && !opB c
theorem fst_calm (l r : List Int) (h : ∀ c ∈ l, calm c = true) : fstF (l ++ r) 0 = fstF r 0 := by
  induction l with
  | nil => rfl
  | cons c l ih =>
    have hc := h c (List.mem_cons_self ..)
    simp only [calm, Bool.and_eq_true, Bool.not_eq_true', Bool.or_eq_false_iff, decide_eq_false_iff_not] at hc
    rw [List.cons_append, fstF, if_neg (by rw [hc.2]; decide)]
    split
    · exact ih (fun c hc => h c (List.mem_cons_of_mem _ hc))
    · rw [if_pos rfl, if_neg hc.1.1.1, if_neg (by omega)]
      exact ih (fun c hc => h c (List.mem_cons_of_mem _ hc))
theorem fst_lead (l r : List Int) (c : Int) (h : ∀ c ∈ l, calm c = true) (hc : c = 0 ∨ c = 1) : fstF (l ++ c :: r) 0 = c := by
  rw [fst_calm l _ h]
  rcases hc with rfl | rfl <;> rfl
end Go.Proofs.Ytbnjflkafdkcpaa
