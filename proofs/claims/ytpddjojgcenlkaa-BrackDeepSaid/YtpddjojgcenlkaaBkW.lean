/- Brackets, one by one: one that is of its side already, and with it all marks behind it, is passed by; what comes of all is what the reference says. No function of the program. -/
import Derived.Test.YtpddjojgcenlkaaNtD
import Derived.Test.YtpddjojgcenlkaaBkF
namespace Go.Proofs.Ytpddjojgcenlkaa
open Go.RowKit

/-- From a on there are marks alone up to j. -/
def RchM (bf : List Int) (a j : Nat) : Prop := a ≤ j ∧ ∀ i, a < i → i ≤ j → bf[i]? = some 8
theorem RchM.self (bf : List Int) (a : Nat) : RchM bf a a := ⟨Nat.le_refl _, fun i h1 h2 => by omega⟩
theorem RchM.from {bf : List Int} {a b j : Nat} (h : RchM bf a j) (h1 : a ≤ b) (h2 : b ≤ j) : RchM bf b j := ⟨h2, fun i hi hj => h.2 i (by omega) hj⟩
theorem RchM.upto {bf : List Int} {a b j : Nat} (h : RchM bf a j) (h1 : a ≤ b) (h2 : b ≤ j) : RchM bf a b := ⟨h1, fun i hi hj => h.2 i hi (by omega)⟩
theorem RchM.trans {bf : List Int} {a b j : Nat} (h : RchM bf a b) (h' : RchM bf b j) : RchM bf a j := ⟨Nat.le_trans h.1 h'.1, fun i hi hj => if h2 : i ≤ b then h.2 i hi h2 else h'.2 i (by omega) hj⟩
theorem runS_in {bf : List Int} {s : Int} {j : Nat} : ∀ (f k : Nat) (o : List Int), o.length = bf.length → bf.length ≤ f + k → k ≤ j → (∀ i, k ≤ i → i ≤ j → bf[i]? = some 8) → (runS bf s f k o)[j]? = some s
  | 0, k, o, _, hf, hk, h => by
    have := (List.getElem?_eq_some_iff.1 (h j hk (Nat.le_refl _))).1
    omega
  | f + 1, k, o, ho, hf, hk, h => by
    rw [runS, if_pos (h k (Nat.le_refl _) hk)]
    by_cases e : k = j
    · subst e
      have hl := (List.getElem?_eq_some_iff.1 (h k (Nat.le_refl _) hk)).1
      have h1 : ∀ (f m : Nat) (o : List Int), k < m → (runS bf s f m o)[k]? = o[k]? := by
        intro f
        induction f with
        | zero => intro m o _; rfl
        | succ f ih =>
          intro m o hm
          rw [runS]
          split
          · rw [ih _ _ (by omega), List.getElem?_set_ne (by omega)]
          · rfl
      rw [h1 _ _ _ (by omega), List.getElem?_set_self (by omega)]
    · exact runS_in f (k + 1) _ (by rw [List.length_set]; exact ho) (by omega) (by omega) fun i h1 h2 => h i (by omega) h2
theorem runS_out {bf : List Int} {s : Int} {j : Nat} : ∀ (f k : Nat) (o : List Int), ¬ (k ≤ j ∧ ∀ i, k ≤ i → i ≤ j → bf[i]? = some 8) → (runS bf s f k o)[j]? = o[j]?
  | 0, _, _, _ => rfl
  | f + 1, k, o, h => by
    rw [runS]
    split
    · rename_i hk
      have e : k ≠ j := by
        rintro rfl
        exact h ⟨Nat.le_refl _, fun i h1 h2 => by rw [show i = k by omega]; exact hk⟩
      rw [runS_out f (k + 1) _ (fun h' => h ⟨by omega, fun i h1 h2 => if e2 : i = k then by rw [e2]; exact hk else h'.2 i (by omega) h2⟩), List.getElem?_set_ne e]
    · rfl
/-- A place, and the marks on it, become it. -/
def setW (bf : List Int) (s : Int) (a : Nat) (o : List Int) : List Int := runS bf s bf.length (a + 1) (o.set a s)
theorem setW_len (bf : List Int) (s : Int) (a : Nat) (o : List Int) : (setW bf s a o).length = o.length := by unfold setW; rw [runS_len, List.length_set]
theorem setW_in {bf : List Int} {s : Int} {a j : Nat} {o : List Int} (ho : o.length = bf.length) (ha : a < o.length) (h : RchM bf a j) : (setW bf s a o)[j]? = some s := by
  unfold setW
  by_cases e : a = j
  · subst e
    rw [runS_out _ _ _ (fun h => by omega), List.getElem?_set_self ha]
  · exact runS_in _ _ _ (by rw [List.length_set]; exact ho) (by omega) (by have := h.1; omega) fun i h1 h2 => h.2 i (by omega) h2
theorem setW_out {bf : List Int} {s : Int} {a j : Nat} {o : List Int} (h : ¬ RchM bf a j) : (setW bf s a o)[j]? = o[j]? := by
  unfold setW
  have e : a ≠ j := by rintro rfl; exact h (RchM.self _ _)
  rw [runS_out _ _ _ (fun h' => h ⟨by omega, fun i h1 h2 => h'.2 i (by omega) h2⟩), List.getElem?_set_ne e]
/-- One that is of the side already is passed by. -/
def setP (bf : List Int) (s : Int) (a : Nat) (o : List Int) : List Int := if o[a]? = some s then o else setW bf s a o
theorem setP_len (bf : List Int) (s : Int) (a : Nat) (o : List Int) : (setP bf s a o).length = o.length := by
  unfold setP
  split
  · rfl
  · exact setW_len ..
def n0Q (bf : List Int) (level sos : Int) (out : List Int) (p : Nat × Nat) : List Int :=
  if becF out p.1 p.2 level sos < 0 then out else setP bf (becF out p.1 p.2 level sos) p.2 (setP bf (becF out p.1 p.2 level sos) p.1 out)
def n0P (bf : List Int) (level sos : Int) (l : List Int) (ps : List (Nat × Nat)) : List Int := ps.foldl (n0Q bf level sos) l
theorem n0Q_len (bf : List Int) (level sos : Int) (out : List Int) (p : Nat × Nat) : (n0Q bf level sos out p).length = out.length := by
  unfold n0Q
  split
  · rfl
  · rw [setP_len, setP_len]
theorem ahd_in (l : List Int) : ∀ k, ahdF l k = -1 ∨ ahdF l k = 0 ∨ ahdF l k = 1
  | 0 => .inl rfl
  | k + 1 => by
    rw [ahdF]
    split
    · exact side_in _
    · exact ahd_in l k
theorem bec_in (l : List Int) (o c : Nat) (level sos : Int) : becF l o c level sos = -1 ∨ becF l o c level sos = 0 ∨ becF l o c level sos = 1 := by
  unfold becF
  split
  · exact .inr (ofL_in level)
  · split
    · exact .inl rfl
    · split
      · exact ahd_in l o
      · split
        · exact side_in sos
        · exact .inr (ofL_in level)
theorem n0S_eq {bf : List Int} {level sos : Int} {out : List Int} {p : Nat × Nat} (ho : out.length = bf.length) (h1 : p.1 < out.length) (h2 : p.2 < out.length) : n0S bf level sos out p = if becF out p.1 p.2 level sos < 0 then out else setW bf (becF out p.1 p.2 level sos) p.2 (setW bf (becF out p.1 p.2 level sos) p.1 out) := by
  unfold n0S
  split
  · rfl
  · generalize becF out p.1 p.2 level sos = s
    apply List.ext_getElem?
    intro j
    by_cases c2 : RchM bf p.2 j
    · rw [setW_in (by rw [setW_len]; exact ho) (by rw [setW_len]; exact h2) c2]
      by_cases e : p.2 = j
      · subst e
        rw [runS_out _ _ _ (fun h => by omega)]
        by_cases c1 : RchM bf (p.1 + 1) p.2 ∧ bf[p.1 + 1]? = some 8
        · exact runS_in _ _ _ (by simp [ho]) (by omega) c1.1.1 fun i a b => if e : i = p.1 + 1 then by rw [e]; exact c1.2 else c1.1.2 i (by omega) b
        · rw [runS_out _ _ _ (fun h => c1 ⟨⟨h.1, fun i a b => h.2 i (by omega) b⟩, h.2 _ (Nat.le_refl _) h.1⟩), List.getElem?_set_self (by simp; omega)]
      · exact runS_in _ _ _ (by rw [runS_len]; simp [ho]) (by omega) (by have := c2.1; omega) fun i a b => c2.2 i (by omega) b
    · rw [setW_out c2]
      have e : p.2 ≠ j := by rintro rfl; exact c2 (RchM.self _ _)
      rw [runS_out _ _ _ (fun h => c2 ⟨by omega, fun i a b => h.2 i (by omega) b⟩)]
      by_cases c1 : RchM bf p.1 j
      · rw [setW_in ho h1 c1]
        by_cases e1 : p.1 = j
        · subst e1
          rw [runS_out _ _ _ (fun h => by omega), List.getElem?_set_ne e, List.getElem?_set_self h1]
        · exact runS_in _ _ _ (by simp [ho]) (by omega) (by have := c1.1; omega) fun i a b => c1.2 i (by omega) b
      · rw [setW_out c1]
        have e1 : p.1 ≠ j := by rintro rfl; exact c1 (RchM.self _ _)
        rw [runS_out _ _ _ (fun h => c1 ⟨by omega, fun i a b => h.2 i (by omega) b⟩), List.getElem?_set_ne e, List.getElem?_set_ne e1]
/-- A bracket as it was, or one that was a mark on one that was set, and all marks behind it are as it is. -/
def FreshB (bf : List Int) (done : List (Nat × Nat)) (o : List Int) (b : Nat) : Prop :=
  o[b]? = some 13 ∨ ((∃ r ∈ done, RchM bf r.1 b ∨ RchM bf r.2 b) ∧ ∀ j, RchM bf b j → o[j]? = o[b]?)
theorem FreshB.more {bf : List Int} {done : List (Nat × Nat)} {o : List Int} {b : Nat} (h : FreshB bf done o b) (p : Nat × Nat) : FreshB bf (p :: done) o b :=
  h.imp id fun ⟨⟨r, hr, h1⟩, h2⟩ => ⟨⟨r, List.mem_cons_of_mem _ hr, h1⟩, h2⟩
theorem FreshB.setP {bf : List Int} {done : List (Nat × Nat)} {o : List Int} {b : Nat} {s : Int} (h : FreshB bf done o b) (hs : s ≠ 13) (ho : o.length = bf.length) (hb : b < o.length) : setP bf s b o = setW bf s b o := by
  unfold Go.Proofs.Ytpddjojgcenlkaa.setP
  split
  · rename_i he
    rcases h with h | ⟨_, h⟩
    · rw [he] at h
      exact absurd (Option.some.inj h) hs
    · apply List.ext_getElem?
      intro j
      by_cases c : RchM bf b j
      · rw [setW_in ho hb c, h j c, he]
      · rw [setW_out c]
  · rfl
theorem FreshB.setW {bf : List Int} {done : List (Nat × Nat)} {o : List Int} {a b : Nat} {s : Int} (h : FreshB bf done o b) (ho : o.length = bf.length) (ha : a < o.length) (hd : ∃ r ∈ done, a = r.1 ∨ a = r.2) (hp : b < a → RchM bf b a → o[b]? = some 13 ∨ o[b]? = some s) : FreshB bf done (setW bf s a o) b := by
  by_cases c : RchM bf a b
  · refine .inr ⟨?_, fun j hj => ?_⟩
    · obtain ⟨r, hr, rfl | rfl⟩ := hd
      · exact ⟨r, hr, .inl c⟩
      · exact ⟨r, hr, .inr c⟩
    · rw [setW_in ho ha c, setW_in ho ha (c.trans hj)]
  · by_cases h13 : o[b]? = some 13
    · exact .inl (by rw [setW_out c]; exact h13)
    · rcases h with h | ⟨h1, h2⟩
      · exact absurd h h13
      · refine .inr ⟨h1, fun j hj => ?_⟩
        rw [setW_out c]
        by_cases cj : RchM bf a j
        · rw [setW_in ho ha cj]
          have hlt : b < a := by
            rcases Nat.lt_or_ge b a with hlt | hge
            · exact hlt
            · exact absurd (cj.upto hge hj.1) c
          rcases hp hlt (hj.upto (Nat.le_of_lt hlt) cj.1) with h | h
          · exact absurd h h13
          · exact h.symm
        · rw [setW_out cj]
          exact h2 j hj
/-- Pairs apart, by where they open. -/
structure PrOk (n : Nat) (L : List (Nat × Nat)) : Prop where
  pair : ∀ p ∈ L, p.1 < p.2 ∧ p.2 < n
  sort : L.Pairwise (fun x y => x.1 < y.1)
  apart : ∀ p ∈ L, ∀ q ∈ L, p ≠ q → p.2 ≠ q.2 ∧ ¬ (p.1 < q.1 ∧ q.1 < p.2 ∧ p.2 < q.2)
theorem n0_same {bf : List Int} {level sos : Int} : ∀ (rest done : List (Nat × Nat)) (o : List Int), o.length = bf.length → PrOk bf.length (done.reverse ++ rest) → (∀ q ∈ rest, FreshB bf done o q.1 ∧ FreshB bf done o q.2) → n0P bf level sos o rest = n0F bf level sos o rest
  | [], _, _, _, _, _ => rfl
  | p :: rest, done, o, ho, hL, hF => by
    have hpm : p ∈ done.reverse ++ p :: rest := by simp
    obtain ⟨h1, h2⟩ := hL.pair p hpm
    have hsort := List.pairwise_append.1 hL.sort
    have hrest := List.pairwise_cons.1 hsort.2.1
    have hstep : n0Q bf level sos o p = n0S bf level sos o p ∧ ∀ q ∈ rest, FreshB bf (p :: done) (n0S bf level sos o p) q.1 ∧ FreshB bf (p :: done) (n0S bf level sos o p) q.2 := by
      rw [n0S_eq ho (by omega) (by omega)]
      unfold n0Q
      have hb := bec_in o p.1 p.2 level sos
      generalize becF o p.1 p.2 level sos = s at hb
      split
      · exact ⟨rfl, fun q hq => ⟨(hF q (by simp [hq])).1.more p, (hF q (by simp [hq])).2.more p⟩⟩
      · have hs : s ≠ 13 := by omega
        have hp := hF p (by simp)
        have hfst : ∀ b, p.1 < b → FreshB bf done o b → FreshB bf (p :: done) (setW bf s p.1 o) b := fun b hb h => (h.more p).setW ho (by omega) ⟨p, by simp, .inl rfl⟩ (fun h => by omega)
        have h13 : ∀ b, p.1 < b → FreshB bf done o b → b < p.2 → RchM bf b p.2 → (setW bf s p.1 o)[b]? = some 13 ∨ (setW bf s p.1 o)[b]? = some s := by
          intro b hpb hfr hbp _
          rcases hfst b hpb hfr with h | ⟨⟨r, hr, hrr⟩, _⟩
          · exact .inl h
          · refine .inr (setW_in ho (by omega) ?_)
            rcases List.mem_cons.1 hr with rfl | hr
            · rcases hrr with h | h
              · exact h
              · have := h.1; omega
            · have hr1 := hsort.2.2 r (by simpa using hr) p (by simp)
              rcases hrr with h | h
              · exact h.from (by omega) (by omega)
              · have hne : r ≠ p := by rintro rfl; omega
                have hap := hL.apart r (by simp [hr]) p hpm hne
                have := h.1
                exact h.from (by omega) (by omega)
        have hsnd : ∀ b, p.1 < b → FreshB bf done o b → FreshB bf (p :: done) (setW bf s p.2 (setW bf s p.1 o)) b := fun b hb h => (hfst b hb h).setW (by rw [setW_len]; exact ho) (by rw [setW_len]; omega) ⟨p, by simp, .inr rfl⟩ (h13 b hb h)
        refine ⟨?_, fun q hq => ?_⟩
        · rw [hp.1.setP hs ho (by omega), (hfst p.2 h1 hp.2).setP hs (by rw [setW_len]; exact ho) (by rw [setW_len]; omega)]
        · have hq1 := hrest.1 q hq
          have hq2 := (hL.pair q (by simp [hq])).1
          exact ⟨hsnd _ hq1 (hF q (by simp [hq])).1, hsnd _ (by omega) (hF q (by simp [hq])).2⟩
    show n0P bf level sos (n0Q bf level sos o p) rest = n0F bf level sos (n0S bf level sos o p) rest
    rw [hstep.1]
    exact n0_same rest (p :: done) _ (by rw [n0S_len]; exact ho) (by simpa using hL) hstep.2
theorem bkF_ok (cs l : List Int) : PrOk cs.length (bkF cs l) := by
  unfold bkF
  split
  · have h := bk_ok (fun i => decide (l.getD i 0 = 13)) (fun i => (braF (cs.getD i 0)).1) (fun o i => bmF (cs.getD o 0) (cs.getD i 0)) cs.length
    exact ⟨h.pair, h.sort, h.apart⟩
  · exact ⟨by simp, by simp, by simp⟩
theorem bk_same {cs l bf : List Int} {level sos : Int} (hl : l.length = bf.length) : n0P bf level sos l (bkF cs l) = n0F bf level sos l (bkF cs l) := by
  by_cases hc : cs.length = l.length
  · have hok := bkF_ok cs l
    rw [hc, hl] at hok
    refine n0_same _ [] l hl (by simpa using hok) fun q hq => ?_
    obtain ⟨a, b⟩ := bkF_on hq
    obtain ⟨h1, h2⟩ := hok.pair q hq
    constructor
    · refine .inl ?_
      rw [List.getD_eq_getElem?_getD, List.getElem?_eq_getElem (by omega)] at a
      rw [List.getElem?_eq_getElem (by omega)]
      simpa using a
    · refine .inl ?_
      rw [List.getD_eq_getElem?_getD, List.getElem?_eq_getElem (by omega)] at b
      rw [List.getElem?_eq_getElem (by omega)]
      simpa using b
  · have : bkF cs l = [] := if_neg hc
    rw [this]
    rfl
end Go.Proofs.Ytpddjojgcenlkaa
