/- The longest ranges of one value, as data: what a walk over all codes gives, and what the reference gives of the ranges; they are the same, and have the same values. How many codes have a value. -/
import Derived.Test.YtfobhnpmaooalaaTrM
namespace Go.Proofs.Ytfobhnpmaooalaa
open Go.RowKit

theorem getG_app (a b : List Rg) (z c : Int) : getG (a ++ b) z c = getG a (getG b z c) c := by
  induction a with
  | nil => rfl
  | cons s a ih => rw [List.cons_append, getG, getG, ih]
/-- The last range goes on to x. -/
def lastHi (x : Int) (l : List Rg) : List Rg := match l.getLast? with
  | none => []
  | some s => l.dropLast ++ [(s.1, x, s.2.2)]
theorem lastHi_snoc (x : Int) (l : List Rg) (s : Rg) : lastHi x (l ++ [s]) = l ++ [(s.1, x, s.2.2)] := by simp [lastHi]
theorem lastHi_nil (x : Int) : lastHi x [] = [] := rfl
theorem snoc_of {l : List Rg} : l = [] ∨ ∃ l' s, l = l' ++ [s] := by
  rcases List.eq_nil_or_concat l with h | ⟨l', s, h⟩
  · exact .inl h
  · exact .inr ⟨l', s, by simpa using h⟩
theorem lastHi_twice (x y : Int) (l : List Rg) : lastHi x (lastHi y l) = lastHi x l := by
  rcases snoc_of (l := l) with rfl | ⟨l', s, rfl⟩
  · rfl
  · rw [lastHi_snoc, lastHi_snoc, lastHi_snoc]
theorem lastHi_len (x : Int) (l : List Rg) : (lastHi x l).length = l.length := by
  rcases snoc_of (l := l) with rfl | ⟨l', s, rfl⟩
  · rfl
  · rw [lastHi_snoc]; simp
/-- One code more, of value v. -/
def runS (z x v : Int) (st : List Rg × Int) : List Rg × Int := if v = z then (st.1, v) else if v = st.2 then (lastHi x st.1, v) else (st.1 ++ [(x, x, v)], v)
/-- What the codes below k gave, and the value of the last one. -/
def rowsF (g : Int → Int) (z : Int) : Nat → List Rg × Int
  | 0 => ([], z)
  | k + 1 => runS z k (g k) (rowsF g z k)
theorem rowsF_plain {g : Int → Int} {z : Int} {a b : Nat} (hab : a < b) (h : ∀ i : Nat, a ≤ i → i < b → g i = z) : rowsF g z b = ((rowsF g z a).1, z) := by
  induction b with
  | zero => omega
  | succ b ih =>
    rw [rowsF, h b (by omega) (by omega), runS, if_pos rfl]
    by_cases hb : a < b
    · rw [ih hb (fun i h1 h2 => h i h1 (by omega))]
    · obtain rfl : a = b := by omega
      rfl
theorem rowsF_run {g : Int → Int} {z v : Int} {a b : Nat} (hv : v ≠ z) (hab : a < b) (h : ∀ i : Nat, a ≤ i → i < b → g i = v) :
    rowsF g z b = (if v = (rowsF g z a).2 then lastHi ((b : Int) - 1) (rowsF g z a).1 else (rowsF g z a).1 ++ [((a : Int), (b : Int) - 1, v)], v) := by
  induction b with
  | zero => omega
  | succ b ih =>
    rw [rowsF, h b (by omega) (by omega), runS, if_neg hv]
    have e1 : ((b + 1 : Nat) : Int) - 1 = (b : Int) := by omega
    rw [e1]
    by_cases hb : a < b
    · rw [ih hb (fun i h1 h2 => h i h1 (by omega))]
      rw [if_pos rfl]
      by_cases hc : v = (rowsF g z a).2
      · simp only [if_pos hc]
        rw [lastHi_twice]
      · simp only [if_neg hc]
        rw [lastHi_snoc]
    · obtain rfl : a = b := by omega
      by_cases hc : v = (rowsF g z a).2
      · simp only [if_pos hc]
      · simp only [if_neg hc]
/-- The reference: one range more. -/
def refS (z : Int) (out : List Rg) (r : Rg) : List Rg := if r.2.2 = z then out else match out.getLast? with
  | none => out ++ [r]
  | some s => if s.2.1 + 1 = r.1 ∧ s.2.2 = r.2.2 then lastHi r.2.1 out else out ++ [r]
def refRows (l : List Rg) (z : Int) : List Rg := l.foldl (refS z) []
theorem refS_plain {z : Int} {out : List Rg} {r : Rg} (h : r.2.2 = z) : refS z out r = out := if_pos h
theorem refS_first {z : Int} {r : Rg} (h : r.2.2 ≠ z) : refS z [] r = [r] := by rw [refS, if_neg h]; rfl
theorem refS_more {z : Int} {out : List Rg} {s r : Rg} (h : r.2.2 ≠ z) (h2 : s.2.1 + 1 = r.1 ∧ s.2.2 = r.2.2) : refS z (out ++ [s]) r = out ++ [(s.1, r.2.1, s.2.2)] := by
  rw [refS, if_neg h]
  simp only [List.getLast?_concat, if_pos h2]
  rw [lastHi_snoc]
theorem refS_new {z : Int} {out : List Rg} {s r : Rg} (h : r.2.2 ≠ z) (h2 : ¬ (s.2.1 + 1 = r.1 ∧ s.2.2 = r.2.2)) : refS z (out ++ [s]) r = out ++ [s] ++ [r] := by
  rw [refS, if_neg h]
  simp only [List.getLast?_concat, if_neg h2]
theorem rows_ref {g : Int → Int} {z : Int} : ∀ (rest out : List Rg) (p : Nat) (ah : Int), rowsF g z p = (out, ah) → p ≤ 1114112 → (∀ c : Nat, p ≤ c → g c = getG rest z c) → Srt rest → (∀ s ∈ rest, (p : Int) ≤ s.1 ∧ s.2.1 ≤ 1114111) →
    (ah ≠ z → ∃ (o : List Rg) (s : Rg), out = o ++ [s] ∧ s.2.1 + 1 = (p : Int) ∧ s.2.2 = ah) → (∀ (o : List Rg) (s : Rg), out = o ++ [s] → s.2.1 < (p : Int) ∧ (s.2.1 + 1 = (p : Int) → ah = s.2.2)) → (rowsF g z 1114112).1 = rest.foldl (refS z) out
  | [], out, p, ah, h0, hp, hg, _, _, _, _ => by
    by_cases hlt : p < 1114112
    · rw [rowsF_plain hlt (fun i h1 _ => hg i h1), h0]
      rfl
    · obtain rfl : p = 1114112 := by omega
      rw [h0]
      rfl
  | r :: rest, out, p, ah, h0, hp, hg, hs, hb, i1, i2 => by
    have hr := hb r (by simp)
    have hle := hs.2 r (by simp)
    have hlt : ∀ t ∈ rest, r.2.1 < t.1 := (List.pairwise_cons.1 hs.1).1
    obtain ⟨lo, hi, v⟩ := r
    simp only at hr hle hlt
    obtain ⟨a, ha⟩ : ∃ a : Nat, lo = a := ⟨lo.toNat, by omega⟩
    obtain ⟨b, hbb⟩ : ∃ b : Nat, hi + 1 = b := ⟨(hi + 1).toNat, by omega⟩
    have hgap : ∀ i : Nat, p ≤ i → i < a → g i = z := fun i h1 h2 => by
      rw [hg i h1, getG_below]
      intro t ht
      rcases List.mem_cons.1 ht with rfl | ht
      · simp only; omega
      · have := hlt t ht; omega
    have hin : ∀ i : Nat, a ≤ i → i < b → g i = v := fun i h1 h2 => by
      rw [hg i (by omega), getG, if_pos (by simp only; omega)]
    obtain ⟨ah', hst, j1, j2⟩ : ∃ ah', rowsF g z a = (out, ah') ∧ (ah' ≠ z → ah' = ah ∧ p = a) ∧ (p = a → ah' = ah) := by
      by_cases hpa : p < a
      · exact ⟨z, by rw [rowsF_plain hpa hgap, h0], fun h => absurd rfl h, fun h => by omega⟩
      · obtain rfl : p = a := by omega
        exact ⟨ah, h0, fun _ => ⟨rfl, rfl⟩, fun _ => rfl⟩
    have hgr : ∀ c : Nat, b ≤ c → g c = getG rest z c := fun c hc => by
      rw [hg c (by omega), getG_behind (by simp only; omega)]
    have hbr : ∀ s ∈ rest, (b : Int) ≤ s.1 ∧ s.2.1 ≤ 1114111 := fun s hs' => by
      have := hlt s hs'
      have := hb s (by simp [hs'])
      omega
    rw [List.foldl_cons]
    by_cases hv : v = z
    · subst hv
      rw [refS_plain (r := (lo, hi, v)) rfl]
      refine rows_ref rest out b v (by rw [rowsF_plain (a := a) (by omega) hin, hst]) (by omega) hgr hs.tail hbr (fun h => absurd rfl h) (fun o s e => ?_)
      have := i2 o s e
      exact ⟨by omega, fun e' => by omega⟩
    · have hrun := rowsF_run hv (by omega) hin
      rw [hst] at hrun
      simp only at hrun
      have eb : (b : Int) - 1 = hi := by omega
      rw [eb, ← ha] at hrun
      by_cases hc : v = ah'
      · rw [if_pos hc] at hrun
        obtain ⟨e1, e2⟩ := j1 (by rw [← hc]; exact hv)
        obtain ⟨o, s, rfl, e3, e4⟩ := i1 (by rw [← e1, ← hc]; exact hv)
        rw [lastHi_snoc] at hrun
        rw [refS_more (r := (lo, hi, v)) hv (by simp only; exact ⟨by omega, by rw [e4, ← e1, ← hc]⟩)]
        refine rows_ref rest _ b v hrun (by omega) hgr hs.tail hbr (fun _ => ⟨o, _, rfl, by simp only; omega, by simp only; rw [e4, ← e1, ← hc]⟩) (fun o' s' e => ?_)
        have := List.append_inj' e rfl
        simp only [List.cons.injEq, and_true] at this
        rw [← this.2]
        exact ⟨by simp only; omega, fun _ => by simp only; rw [e4, ← e1, ← hc]⟩
      · rw [if_neg hc] at hrun
        have hnew : refS z out (lo, hi, v) = out ++ [(lo, hi, v)] := by
          rcases snoc_of (l := out) with rfl | ⟨o, s, rfl⟩
          · rw [refS_first (r := (lo, hi, v)) hv]; rfl
          · rw [refS_new (r := (lo, hi, v)) hv]
            rintro ⟨e1, e2⟩
            simp only at e1 e2
            obtain ⟨k1, k2⟩ := i2 o s rfl
            have hpa : p = a := by omega
            exact hc (by rw [j2 hpa, k2 (by omega), e2])
        rw [hnew]
        refine rows_ref rest _ b v hrun (by omega) hgr hs.tail hbr (fun _ => ⟨out, _, rfl, by simp only; omega, rfl⟩) (fun o' s' e => ?_)
        have := List.append_inj' e rfl
        simp only [List.cons.injEq, and_true] at this
        rw [← this.2]
        exact ⟨by simp only; omega, fun _ => rfl⟩
theorem rows_all {l : List Rg} {z : Int} (h : riseB (-1) l = true) : (rowsF (getG l z) z 1114112).1 = refRows l z := by
  obtain ⟨h1, h2⟩ := srt_of_rise h
  exact rows_ref l [] 0 z rfl (by omega) (fun _ _ => rfl) h1 (fun s hs => by have := h2 s hs; omega) (fun h => absurd rfl h) (fun o s e => by simp at e)

/-- The reference's ranges have the values of the ranges, rise, and are no more. -/
theorem ref_again {z : Int} : ∀ (rest out : List Rg), Srt (out ++ rest) → (∀ c, getG (rest.foldl (refS z) out) z c = getG (out ++ rest) z c) ∧ Srt (rest.foldl (refS z) out) ∧ (rest.foldl (refS z) out).length ≤ out.length + rest.length ∧
    (∀ x y : Int, (∀ s ∈ out ++ rest, x < s.1 ∧ s.2.1 ≤ y) → ∀ s ∈ rest.foldl (refS z) out, x < s.1 ∧ s.2.1 ≤ y) ∧ (∀ s ∈ rest.foldl (refS z) out, ∃ t ∈ out ++ rest, t.2.2 = s.2.2)
  | [], out, h => by
    rw [List.append_nil] at h ⊢
    exact ⟨fun _ => rfl, h, Nat.le_refl _, fun _ _ h => h, fun s hs => ⟨s, hs, rfl⟩⟩
  | r :: rest, out, h => by
    rw [List.foldl_cons]
    have hrr : Srt (r :: rest) := ⟨(List.pairwise_append.1 h.1).2.1, fun s hs => h.2 s (by simp only [List.mem_append]; exact .inr hs)⟩
    have hlt : ∀ t ∈ rest, r.2.1 < t.1 := (List.pairwise_cons.1 hrr.1).1
    have hle := hrr.2 r (by simp)
    have hout : ∀ s ∈ out, s.2.1 < r.1 := fun s hs => (List.pairwise_append.1 h.1).2.2 s hs r (by simp)
    have hsub : Srt (out ++ rest) := ⟨h.1.sublist (List.Sublist.append (List.Sublist.refl _) (List.sublist_cons_self r rest)), fun s hs => h.2 s (by
      rcases List.mem_append.1 hs with hs | hs
      · exact List.mem_append.2 (.inl hs)
      · exact List.mem_append.2 (.inr (by simp [hs])))⟩
    by_cases hv : r.2.2 = z
    · rw [refS_plain hv]
      obtain ⟨a1, a2, a3, a4, a5⟩ := ref_again rest out hsub
      refine ⟨fun c => ?_, a2, by simp only [List.length_cons]; omega, fun x y hxy => a4 x y fun s hs => hxy s (by
        rcases List.mem_append.1 hs with hs | hs
        · exact List.mem_append.2 (.inl hs)
        · exact List.mem_append.2 (.inr (by simp [hs]))), fun s hs => ?_⟩
      · rw [a1, getG_app, getG_app]
        congr 1
        rw [getG]
        split
        · rename_i hc
          rw [getG_below (fun t ht => by have := hlt t ht; omega), hv]
        · rfl
      · obtain ⟨t, ht, e⟩ := a5 s hs
        refine ⟨t, ?_, e⟩
        rcases List.mem_append.1 ht with ht | ht
        · exact List.mem_append.2 (.inl ht)
        · exact List.mem_append.2 (.inr (by simp [ht]))
    · have hcase : refS z out r = out ++ [r] ∨ ∃ o s, out = o ++ [s] ∧ s.2.1 + 1 = r.1 ∧ s.2.2 = r.2.2 ∧ refS z out r = o ++ [(s.1, r.2.1, s.2.2)] := by
        rcases snoc_of (l := out) with rfl | ⟨o, s, rfl⟩
        · exact .inl (refS_first hv)
        · by_cases hc : s.2.1 + 1 = r.1 ∧ s.2.2 = r.2.2
          · exact .inr ⟨o, s, rfl, hc.1, hc.2, refS_more hv hc⟩
          · exact .inl (refS_new hv hc)
      rcases hcase with e | ⟨o, s, rfl, e1, e2, e⟩
      · rw [e]
        have hh : out ++ [r] ++ rest = out ++ r :: rest := by simp
        obtain ⟨a1, a2, a3, a4, a5⟩ := ref_again rest (out ++ [r]) (by rw [hh]; exact h)
        rw [hh] at a1 a4 a5
        exact ⟨a1, a2, by simp only [List.length_append, List.length_cons, List.length_nil] at a3 ⊢; omega, a4, a5⟩
      · rw [e]
        have hs1 := h.2 s (by simp)
        have hpo := List.pairwise_append.1 h.1
        have hpo1 := List.pairwise_append.1 hpo.1
        have hos : ∀ t ∈ o, t.2.1 < s.1 := fun t ht => hpo1.2.2 t ht s (by simp)
        have hS2 : Srt (o ++ [(s.1, r.2.1, s.2.2)] ++ rest) := by
          refine ⟨?_, fun t ht => ?_⟩
          · rw [List.pairwise_append, List.pairwise_append]
            refine ⟨⟨hpo1.1, by simp, fun a ha b hb => ?_⟩, hrr.tail.1, fun a ha b hb => ?_⟩
            · simp only [List.mem_singleton] at hb
              subst hb
              exact hos a ha
            · rcases List.mem_append.1 ha with ha | ha
              · exact hpo.2.2 a (by simp [ha]) b (by simp [hb])
              · simp only [List.mem_singleton] at ha
                subst ha
                exact hlt b hb
          · simp only [List.mem_append, List.mem_singleton] at ht
            rcases ht with (ht | rfl) | ht
            · exact h.2 t (by simp [ht])
            · simp only; omega
            · exact h.2 t (by simp [ht])
        obtain ⟨a1, a2, a3, a4, a5⟩ := ref_again rest _ hS2
        refine ⟨fun c => ?_, a2, by simp only [List.length_append, List.length_cons, List.length_nil] at a3 ⊢; omega, fun x y hxy => a4 x y fun t ht => ?_, fun t ht => ?_⟩
        · rw [a1, getG_app, getG_app, getG_app, getG_app]
          congr 1
          simp only [getG]
          by_cases hc1 : s.1 ≤ c ∧ c ≤ s.2.1
          · rw [if_pos hc1, if_pos (by omega)]
          · rw [if_neg hc1]
            by_cases hc2 : r.1 ≤ c ∧ c ≤ r.2.1
            · rw [if_pos hc2, if_pos (by omega), e2]
            · rw [if_neg hc2, if_neg (by omega)]
        · simp only [List.mem_append, List.mem_singleton] at ht
          rcases ht with (ht | rfl) | ht
          · exact hxy t (by simp [ht])
          · exact ⟨(hxy s (by simp)).1, (hxy r (by simp)).2⟩
          · exact hxy t (by simp [ht])
        · obtain ⟨u, hu, eu⟩ := a5 t ht
          simp only [List.mem_append, List.mem_singleton] at hu
          rcases hu with (hu | rfl) | hu
          · exact ⟨u, by simp [hu], eu⟩
          · exact ⟨s, by simp, eu⟩
          · exact ⟨u, by simp [hu], eu⟩
theorem rise_of_srt : ∀ {l : List Rg} {x : Int}, Srt l → (∀ s ∈ l, x < s.1 ∧ s.2.1 ≤ 1114111) → riseB x l = true
  | [], _, _, _ => rfl
  | s :: l, x, h, hb => by
    have h1 := hb s (by simp)
    have h2 := h.2 s (by simp)
    rw [riseB_yes (by omega)]
    exact rise_of_srt h.tail fun t ht => ⟨(List.pairwise_cons.1 h.1).1 t ht, (hb t (by simp [ht])).2⟩
theorem refRows_again {l : List Rg} {z : Int} (h : riseB (-1) l = true) : (∀ c, getG (refRows l z) z c = getG l z c) ∧ riseB (-1) (refRows l z) = true ∧ (refRows l z).length ≤ l.length ∧ ∀ s ∈ refRows l z, ∃ t ∈ l, t.2.2 = s.2.2 := by
  obtain ⟨h1, h2⟩ := srt_of_rise h
  unfold refRows
  obtain ⟨a1, a2, a3, a4, a5⟩ := ref_again (z := z) l [] (by simpa using h1)
  refine ⟨a1, rise_of_srt a2 (a4 (-1) 1114111 (by simpa using h2)), by simpa using a3, fun s hs => by simpa using a5 s hs⟩
/-- How many ranges there may be on the way. -/
theorem rowsF_len (g : Int → Int) (z : Int) (k : Nat) : (rowsF g z k).1.length ≤ k := by
  induction k with
  | zero => exact Nat.le_refl _
  | succ k ih =>
    rw [rowsF, runS]
    split
    · simp only; omega
    · split
      · simp only [lastHi_len]; omega
      · simp only [List.length_append, List.length_cons, List.length_nil]; omega
theorem rowsF_some {g : Int → Int} {z : Int} (k : Nat) (h : (rowsF g z k).2 ≠ z) : ∃ o s, (rowsF g z k).1 = o ++ [s] := by
  cases k with
  | zero => exact absurd rfl h
  | succ k =>
    induction k with
    | zero =>
      rw [rowsF, runS] at h ⊢
      split
      · rename_i hc; rw [if_pos hc] at h; exact absurd hc h
      · rename_i hc
        rw [if_neg (by simpa [rowsF] using hc)]
        exact ⟨_, _, rfl⟩
    | succ k ih =>
      rw [rowsF, runS] at h ⊢
      by_cases hc : g ((k + 1 : Nat) : Int) = z
      · rw [if_pos hc] at h; exact absurd hc h
      · rw [if_neg hc]
        by_cases hc2 : g ((k + 1 : Nat) : Int) = (rowsF g z (k + 1)).2
        · rw [if_pos hc2]
          obtain ⟨o, s, e⟩ := ih (by rw [← hc2]; exact hc)
          rw [e]
          exact ⟨o, _, lastHi_snoc _ _ _⟩
        · rw [if_neg hc2]
          exact ⟨_, _, rfl⟩

/-- How many of the codes below k have a value. -/
def cntF (g : Int → Int) (v : Int) : Nat → Int
  | 0 => 0
  | k + 1 => cntF g v k + if g k = v then 1 else 0
theorem cntF_const {g : Int → Int} {v y : Int} {a b : Nat} (hab : a ≤ b) (h : ∀ i : Nat, a ≤ i → i < b → g i = y) : cntF g v b = cntF g v a + if y = v then (b : Int) - a else 0 := by
  induction b with
  | zero => obtain rfl : a = 0 := by omega
            split <;> simp
  | succ b ih =>
    by_cases hb : a ≤ b
    · rw [cntF, ih hb (fun i h1 h2 => h i h1 (by omega)), h b hb (by omega)]
      split <;> omega
    · obtain rfl : a = b + 1 := by omega
      split <;> simp
/-- The reference's count: the codes of the ranges that have it, and all codes of ranges. -/
def refCnt (v : Int) (st : Int × Int) (r : Rg) : Int × Int := (if r.2.2 = v then st.1 + r.2.1 - r.1 + 1 else st.1, st.2 + r.2.1 - r.1 + 1)
def refCount (l : List Rg) (z v : Int) : Int := if v = z then (l.foldl (refCnt v) (0, 0)).1 + 1114111 + 1 - (l.foldl (refCnt v) (0, 0)).2 else (l.foldl (refCnt v) (0, 0)).1
theorem count_ref {g : Int → Int} {z v : Int} : ∀ (rest : List Rg) (p : Nat) (n all : Int), p ≤ 1114112 → (∀ c : Nat, p ≤ c → g c = getG rest z c) → Srt rest → (∀ s ∈ rest, (p : Int) ≤ s.1 ∧ s.2.1 ≤ 1114111) →
    cntF g v p = n + (if z = v then (p : Int) - all else 0) → cntF g v 1114112 = (rest.foldl (refCnt v) (n, all)).1 + (if z = v then 1114112 - (rest.foldl (refCnt v) (n, all)).2 else 0)
  | [], p, n, all, hp, hg, _, _, h => by
    rw [cntF_const hp (fun i h1 _ => hg i h1), h]
    simp only [List.foldl_nil]
    split <;> omega
  | r :: rest, p, n, all, hp, hg, hs, hb, h => by
    have hr := hb r (by simp)
    have hle := hs.2 r (by simp)
    have hlt : ∀ t ∈ rest, r.2.1 < t.1 := (List.pairwise_cons.1 hs.1).1
    obtain ⟨lo, hi, y⟩ := r
    simp only at hr hle hlt
    obtain ⟨a, ha⟩ : ∃ a : Nat, lo = a := ⟨lo.toNat, by omega⟩
    obtain ⟨b, hbb⟩ : ∃ b : Nat, hi + 1 = b := ⟨(hi + 1).toNat, by omega⟩
    have hgap : ∀ i : Nat, p ≤ i → i < a → g i = z := fun i h1 h2 => by
      rw [hg i h1, getG_below]
      intro t ht
      rcases List.mem_cons.1 ht with rfl | ht
      · simp only; omega
      · have := hlt t ht; omega
    have hin : ∀ i : Nat, a ≤ i → i < b → g i = y := fun i h1 h2 => by
      rw [hg i (by omega), getG, if_pos (by simp only; omega)]
    rw [List.foldl_cons]
    refine count_ref rest b _ _ (by omega) (fun c hc => ?_) hs.tail (fun s hs' => ?_) ?_
    · rw [hg c (by omega), getG_behind (by simp only; omega)]
    · have := hlt s hs'
      have := hb s (by simp [hs'])
      omega
    · rw [cntF_const (by omega) hin, cntF_const (by omega) hgap, h]
      simp only
      by_cases e1 : z = v <;> by_cases e2 : y = v <;> simp only [e1, e2, if_true, if_false] <;> omega
theorem count_all {l : List Rg} {z v : Int} (h : riseB (-1) l = true) : cntF (getG l z) v 1114112 = refCount l z v := by
  obtain ⟨h1, h2⟩ := srt_of_rise h
  rw [count_ref (g := getG l z) (z := z) l 0 0 0 (by omega) (fun _ _ => rfl) h1 (fun s hs => by have := h2 s hs; omega) (by simp [cntF]), refCount]
  by_cases e : v = z
  · subst e
    rw [if_pos rfl, if_pos rfl]
    omega
  · rw [if_neg e, if_neg (fun h => e h.symm)]
    omega

/-- Blocks of two tables with the same values. -/
theorem sub_len {α : Type} [DecidableEq α] : ∀ {a b : List α}, a.Nodup → (∀ x ∈ a, x ∈ b) → a.length ≤ b.length
  | [], _, _, _ => Nat.zero_le _
  | x :: a, b, hn, hs => by
    rw [List.nodup_cons] at hn
    have hx := hs x (by simp)
    have := sub_len (a := a) (b := b.erase x) hn.2 (fun y hy => (List.mem_erase_of_ne (fun e => hn.1 (by rw [← e]; exact hy))).2 (hs y (by simp [hy])))
    have e := List.length_erase_of_mem hx
    have hp : 0 < b.length := List.length_pos_of_mem hx
    simp only [List.length_cons]
    omega
theorem StInv.same {l l' : List Rg} {z z' : Int} {bl bl' : List (List Int)} {wh wh' : List Nat} (h : StInv l z 8704 bl wh) (h' : StInv l' z' 8704 bl' wh') (hv : ∀ c, getG l z c = getG l' z' c) : bl.length = bl'.length := by
  have hb : ∀ j, blkAt l z j = blkAt l' z' j := fun j => by
    unfold blkAt
    exact List.map_congr_left fun t _ => hv _
  refine Nat.le_antisymm (sub_len h.nodup fun x hx => ?_) (sub_len h'.nodup fun x hx => ?_)
  · obtain ⟨j, hj, rfl⟩ := h.real x hx
    obtain ⟨q, _, hq⟩ := h'.at_ j hj
    rw [hb j]
    exact List.mem_of_getElem? hq
  · obtain ⟨j, hj, rfl⟩ := h'.real x hx
    obtain ⟨q, _, hq⟩ := h.at_ j hj
    rw [← hb j]
    exact List.mem_of_getElem? hq
end Go.Proofs.Ytfobhnpmaooalaa
