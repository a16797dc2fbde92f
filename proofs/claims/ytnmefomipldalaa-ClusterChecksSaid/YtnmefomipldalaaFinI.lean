/- The finest map: what holds while a link goes to and fro. No program in this text. -/
import Derived.Test.YtnmefomipldalaaFinL
namespace Go.Proofs.Ytnmefomipldalaa

/-- Two linked sets that tell the same of each other. -/
def Matched (A B : Sd) (k : Nat) : Prop := ∃ c : Nat, A.M k = some ((c : Int), (B.e c : Int)) ∧ B.M c = some ((k : Int), (A.e k : Int))
/-- Both sides tell the same of each other. -/
structure Both (n m : Nat) (A B : Sd) : Prop where
  okA : Ok n m A
  okB : Ok m n B
  ab : ∀ k s, A.M k = some s → Matched A B k
  ba : ∀ k s, B.M k = some s → Matched B A k
theorem Both.turn {n m : Nat} {A B : Sd} (h : Both n m A B) : Both m n B A := ⟨h.okB, h.okA, h.ba, h.ab⟩
/-- What holds at each turn: the near side's set at p, to which y to z belongs. -/
structure Fro (n m : Nat) (N F : Sd) (p y z : Nat) : Prop where
  okN : Ok n m N
  okF : Ok m n F
  at_ : N.M p = some ((y : Int), (z : Int))
  near : ∀ k s, N.M k = some s → k ≠ p → Matched N F k
  far : ∀ k s, F.M k = some s → (y ≤ k ∧ F.e k ≤ z ∧ ∃ c d : Nat, s = ((c : Int), (d : Int)) ∧ p ≤ c ∧ d ≤ N.e p) ∨ (Matched F N k ∧ s.1 ≠ (p : Int))
/-- What is taken: p to E, and c to d on the other side, for a to b there. -/
structure Took (n m : Nat) (S : Sd) (p E a b c d : Nat) : Prop where
  cut : Cut n S p E
  lo : c ≤ a
  hi : b ≤ d
  top : d ≤ m
  holds : ∀ k x z : Nat, p ≤ k → k < E → S.M k = some ((x : Int), (z : Int)) → c ≤ x ∧ z ≤ d
  only : ∀ Q : Nat → Prop, (∀ i k j : Nat, i ≤ k → k ≤ j → Q i → Q j → Q k) → (∀ i, a ≤ i → i < b → Q i) → (∀ k x z : Nat, p ≤ k → k < E → S.M k = some ((x : Int), (z : Int)) → ∀ i, x ≤ i → i < z → Q i) → ∀ i, c ≤ i → i < d → Q i
theorem took {n m : Nat} {S : Sd} (h : Ok n m S) {lo hi a b : Nat} (h1 : lo < hi) (h2 : hi ≤ n) (h3 : a < b) (h4 : b ≤ m) : ∃ c d : Nat, hulT ((a : Int), (b : Int)) S.M (S.r lo) (S.e (S.r (hi - 1)) - S.r lo) = ((c : Int), (d : Int)) ∧ Took n m S (S.r lo) (S.e (S.r (hi - 1))) a b c d ∧ S.r lo ≤ lo ∧ hi ≤ S.e (S.r (hi - 1)) := by
  obtain ⟨hc, hl, hh⟩ := cut_of h h1 h2
  obtain ⟨c, d, e1, e2, e3, e4, e5, e6⟩ := hul_nat h.val h3 h4 (S.r lo) (S.e (S.r (hi - 1)) - S.r lo)
  have := hc.lt
  rw [show S.r lo + (S.e (S.r (hi - 1)) - S.r lo) = S.e (S.r (hi - 1)) by omega] at e5 e6
  exact ⟨c, d, e1, ⟨hc, e2, e3, e4, e5, e6⟩, hl, hh⟩
section
variable {n m : Nat} {N F : Sd} {p E a b c d : Nat}
theorem matched_key (hF : Ok m n F) {x : Nat} {s : Sp} (hk : F.M x = some s) : F.r x = x ∧ x < m ∧ x < F.e x := by
  have h1 := hF.doms.dom _ _ hk
  have h2 := hF.part.lt x h1.1
  rw [h1.2] at h2
  exact ⟨h1.2, h1.1, h2⟩
theorem Both.start (h : Both n m N F) (hab : a < b) (ht : Took n m N p E a b c d) : Fro n m (takeS N p E ((c : Int), (d : Int))) F p c d := by
  have l1 := ht.lo
  have l2 := ht.hi
  have hpE := ht.cut.lt
  refine ⟨take_ok h.okA ht.cut (by omega) ht.top, h.okB, (take_at _).1, fun k s hk hkp => ?_, fun k s hk => ?_⟩
  · rcases take_key _ hk with ⟨e9, _⟩ | ⟨hfar, hold⟩
    · exact absurd e9 hkp
    · obtain ⟨x, m1, m2⟩ := h.ab k s hold
      have hf := take_far (S := N) ((c : Int), (d : Int)) hfar hpE
      exact ⟨x, hf.1.trans m1, m2.trans (by rw [hf.2])⟩
  · obtain ⟨x, m1, m2⟩ := h.ba k s hk
    obtain ⟨k1, k2, k3⟩ := matched_key h.okA m2
    by_cases hin : p ≤ x ∧ x < E
    · have h5 := ht.holds x k (F.e k) hin.1 hin.2 m2
      have h6 := ((ht.cut.sep x k2).2.2 hin.1 hin.2).2
      rw [k1] at h6
      refine .inl ⟨h5.1, h5.2, x, N.e x, ?_, hin.1, ?_⟩
      · rw [hk] at m1; injection m1
      · rw [(take_at _).2]; exact h6
    · have hf := take_far (S := N) (k := x) ((c : Int), (d : Int)) (by omega) hpE
      refine .inr ⟨⟨x, by rw [hf.2]; exact m1, hf.1.trans m2⟩, ?_⟩
      rw [hk] at m1
      injection m1 with m1
      rw [m1]
      show (x : Int) ≠ (p : Int)
      omega
/-- One more turn. -/
theorem Fro.turn {y z P E' : Nat} (h : Fro n m N F p y z) (hP : P ≤ y) (hE : z ≤ E') (ht : Took m n F P E' p (N.e p) c d) : Fro m n (takeS F P E' ((c : Int), (d : Int))) N P c d := by
  obtain ⟨q1, q2, q3⟩ := matched_key h.okN h.at_
  have l1 := ht.lo
  have l2 := ht.hi
  have hPE := ht.cut.lt
  refine ⟨take_ok h.okF ht.cut (by omega) ht.top, h.okN, (take_at _).1, fun k s hk hkp => ?_, fun k s hk => ?_⟩
  · rcases take_key _ hk with ⟨e9, _⟩ | ⟨hfar, hold⟩
    · exact absurd e9 hkp
    · obtain ⟨k1, k2, k3⟩ := matched_key h.okF hold
      rcases h.far k s hold with ⟨f1, f2, _⟩ | ⟨⟨x, m1, m2⟩, _⟩
      · exfalso; omega
      · have hf := take_far (S := F) ((c : Int), (d : Int)) hfar hPE
        exact ⟨x, hf.1.trans m1, m2.trans (by rw [hf.2])⟩
  · by_cases hkp : k = p
    · subst hkp
      rw [h.at_] at hk
      injection hk with hk
      exact .inl ⟨l1, l2, y, z, hk.symm, hP, by rw [(take_at _).2]; exact hE⟩
    · obtain ⟨x, m1, m2⟩ := h.near k s hk hkp
      obtain ⟨k1, k2, k3⟩ := matched_key h.okF m2
      by_cases hin : P ≤ x ∧ x < E'
      · have h5 := ht.holds x k (N.e k) hin.1 hin.2 m2
        have h6 := ((ht.cut.sep x k2).2.2 hin.1 hin.2).2
        rw [k1] at h6
        refine .inl ⟨h5.1, h5.2, x, F.e x, ?_, hin.1, ?_⟩
        · rw [hk] at m1; injection m1
        · rw [(take_at _).2]; exact h6
      · have hf := take_far (S := F) (k := x) ((c : Int), (d : Int)) (by omega) hPE
        refine .inr ⟨⟨x, by rw [hf.2]; exact m1, hf.1.trans m2⟩, ?_⟩
        rw [hk] at m1
        injection m1 with m1
        rw [m1]
        show (x : Int) ≠ (P : Int)
        omega
/-- The last turn: both sides tell the same of each other. -/
theorem Fro.done {y z : Nat} (h : Fro n m N F p y z) (ht : Took m n F y z p (N.e p) p (N.e p)) : Both n m N (takeS F y z ((p : Int), (N.e p : Int))) := by
  have h' := h.turn (Nat.le_refl _) (Nat.le_refl _) ht
  obtain ⟨q1, q2, q3⟩ := matched_key h.okN h.at_
  have hA := take_at (S := F) (p := y) (E := z) ((p : Int), (N.e p : Int))
  have hyy : Matched (takeS F y z ((p : Int), (N.e p : Int))) N y := ⟨p, hA.1, by rw [hA.2]; exact h.at_⟩
  have hpp : Matched N (takeS F y z ((p : Int), (N.e p : Int))) p := ⟨y, by rw [hA.2]; exact h.at_, hA.1⟩
  refine ⟨h.okN, h'.okN, fun k s hk => ?_, fun k s hk => ?_⟩
  · by_cases hkp : k = p
    · rw [hkp]; exact hpp
    · obtain ⟨k1, k2, k3⟩ := matched_key h.okN hk
      rcases h'.far k s hk with ⟨f1, f2, _⟩ | ⟨hm, _⟩
      · exfalso
        have h9 := h.okN.part.same p k q2 (by rw [q1]; exact f1) (by rw [q1]; omega)
        rw [k1, q1] at h9
        exact hkp h9
      · exact hm
  · by_cases hkp : k = y
    · rw [hkp]; exact hyy
    · exact h'.near k s hk hkp
end
/-- A link of its own, no filler; where its span begins on a side. -/
def NC.real (x : NC) : Prop := x.a < x.b ∧ x.c < x.d
def NC.st (x : NC) (s : Bool) : Nat := if s = true then x.c else x.a
/-- All that a side has together is together; a linked set begins where a link begins, and so does what belongs to it; what is not linked is alone. -/
structure Sound (L : List NC) (s : Bool) (n : Nat) (A : Sd) : Prop where
  set : ∀ i, i < n → Tog L (s, i) (s, A.r i)
  bey : ∀ k a b : Nat, A.M k = some ((a : Int), (b : Int)) → ∀ j, a ≤ j → j < b → Tog L (s, k) (!s, j)
  keys : ∀ k a b : Nat, A.M k = some ((a : Int), (b : Int)) → (∃ x ∈ L, x.real ∧ x.st s = k) ∧ ∃ x ∈ L, x.real ∧ x.st (!s) = a
  lone : ∀ i, i < n → A.M (A.r i) = none → A.r i = i
/-- What is taken begins where something of it begins. -/
theorem Took.begins {n m : Nat} {S : Sd} {p E a b c d : Nat} (ht : Took n m S p E a b c d) (hab : a < b) (hv : ∀ k s, S.M k = some s → ∃ a b : Nat, s = ((a : Int), (b : Int)) ∧ a < b ∧ b ≤ m) : c = a ∨ ∃ k z : Nat, S.M k = some ((c : Int), (z : Int)) := by
  by_cases h1 : c = a
  · exact .inl h1
  · by_cases h2 : ∃ k z : Nat, S.M k = some ((c : Int), (z : Int))
    · exact .inr h2
    · exfalso
      have l1 := ht.lo
      have l2 := ht.hi
      have h3 := ht.only (fun i => c < i) (fun i k j g1 g2 g3 g4 => by omega) (fun i g1 g2 => by omega) (fun k x z g1 g2 g3 i g4 g5 => by
        have h4 := (ht.holds k x z g1 g2 g3).1
        rcases Nat.lt_or_ge c x with h5 | h5
        · omega
        · exact absurd ⟨k, z, by rw [g3, show x = c by omega]⟩ h2) c (Nat.le_refl _) (by omega)
      omega
theorem take_sound {L : List NC} {s : Bool} {n m : Nat} {S : Sd} {lo hi a b c d : Nat} (h : Ok n m S) (hs : Sound L s n S) (h1 : lo < hi) (h2 : hi ≤ n) (ht : Took n m S (S.r lo) (S.e (S.r (hi - 1))) a b c d)
    (hl : ∀ i, lo ≤ i → i < hi → Tog L (s, lo) (s, i)) (ho : ∀ j, a ≤ j → j < b → Tog L (s, lo) (!s, j)) (hab : a < b) (hk1 : ∃ x ∈ L, x.real ∧ x.st s = lo) (hk2 : ∃ x ∈ L, x.real ∧ x.st (!s) = a) : Sound L s n (takeS S (S.r lo) (S.e (S.r (hi - 1))) ((c : Int), (d : Int))) := by
  have hlp := hs.set lo (by omega)
  have hall : ∀ i, S.r lo ≤ i → i < S.e (S.r (hi - 1)) → Tog L (s, i) (s, S.r lo) := fun i h3 h4 => by
    by_cases c1 : i < lo
    · have h5 := h.part.same lo i (by omega) h3 (by have := h.part.lt lo (by omega); omega)
      have h6 := hs.set i (by omega)
      rwa [h5] at h6
    · by_cases c2 : i < hi
      · exact .trans _ _ _ (.symm _ _ (hl i (by omega) c2)) hlp
      · have h5 := h.part.same (hi - 1) i (by omega) (by have := h.part.le (hi - 1) (by omega); omega) h4
        have h6 := hs.set i (by have := h.part.top (hi - 1) (by omega); omega)
        rw [h5] at h6
        exact .trans _ _ _ h6 (.trans _ _ _ (.symm _ _ (hs.set (hi - 1) (by omega))) (.trans _ _ _ (.symm _ _ (hl (hi - 1) (by omega) (by omega))) hlp))
  refine ⟨fun i hi' => ?_, fun k x z hk j hj1 hj2 => ?_, fun k x z hk => ?_, fun i hi' hn => ?_⟩
  · show Tog L (s, i) (s, cutR S.r (S.r lo) (S.e (S.r (hi - 1))) i)
    unfold cutR
    split
    · rename_i hc
      exact hall i hc.1 hc.2
    · exact hs.set i hi'
  · rcases take_key _ hk with ⟨rfl, e9⟩ | ⟨_, hold⟩
    · injection e9 with e1 e2
      refine ht.only (fun j => Tog L (s, S.r lo) (!s, j)) (fun i k j g1 g2 g3 g4 => ?_) (fun i g1 g2 => ?_) (fun k x' z' g1 g2 g3 i g4 g5 => ?_) j (by omega) (by omega)
      · exact .trans _ _ _ g3 (.between (!s) i k j g1 g2 (.trans _ _ _ (.symm _ _ g3) g4))
      · exact .trans _ _ _ (.symm _ _ hlp) (ho i g1 g2)
      · exact .trans _ _ _ (.symm _ _ (hall k g1 g2)) (hs.bey k x' z' g3 i g4 g5)
    · exact hs.bey k x z hold j hj1 hj2
  · rcases take_key _ hk with ⟨rfl, e9⟩ | ⟨_, hold⟩
    · injection e9 with e1 e2
      have hxc : x = c := by omega
      subst hxc
      constructor
      · rcases hM : S.M (S.r lo) with _ | v
        · rw [hs.lone lo (by omega) hM]; exact hk1
        · obtain ⟨y, z', rfl, _, _⟩ := h.val _ _ hM
          exact (hs.keys _ _ _ hM).1
      · rcases ht.begins hab h.val with e | ⟨k, z', hk⟩
        · rw [e]; exact hk2
        · exact (hs.keys _ _ _ hk).2
    · exact hs.keys k x z hold
  · have hcut := ht.cut
    have h9 : (takeS S (S.r lo) (S.e (S.r (hi - 1))) ((c : Int), (d : Int))).r i = cutR S.r (S.r lo) (S.e (S.r (hi - 1))) i := rfl
    rw [h9] at hn ⊢
    by_cases hc : S.r lo ≤ i ∧ i < S.e (S.r (hi - 1))
    · rw [show cutR S.r (S.r lo) (S.e (S.r (hi - 1))) i = S.r lo from if_pos hc, (take_at _).1] at hn
      exact absurd hn (by simp)
    · rw [show cutR S.r (S.r lo) (S.e (S.r (hi - 1))) i = S.r i from if_neg hc] at hn ⊢
      have hs' := hcut.sep i hi'
      have hle := h.part.le i hi'
      rw [(take_far _ (by omega) hcut.lt).1] at hn
      exact hs.lone i hi' hn
/-- What a turn asks of the near side: its set and what belongs to it are together. -/
theorem sound_set {L : List NC} {s : Bool} {n m : Nat} {N : Sd} {p y z : Nat} (h : Ok n m N) (hs : Sound L s n N) (ha : N.M p = some ((y : Int), (z : Int))) : (∀ i, y ≤ i → i < z → Tog L (!s, y) (!s, i)) ∧ ∀ j, p ≤ j → j < N.e p → Tog L (!s, y) (s, j) := by
  obtain ⟨q1, q2, q3⟩ := matched_key h ha
  obtain ⟨a, b, e1, e2, e3⟩ := h.val _ _ ha
  injection e1 with e4 e5
  have hy := hs.bey p y z ha y (Nat.le_refl _) (by omega)
  refine ⟨fun i h1 h2 => .trans _ _ _ (.symm _ _ hy) (hs.bey p y z ha i h1 h2), fun j h1 h2 => ?_⟩
  have htop := h.part.top p q2
  rw [q1] at htop
  have h5 := h.part.same p j q2 (by rw [q1]; exact h1) (by rw [q1]; exact h2)
  have h6 := hs.set j (by omega)
  rw [h5, q1] at h6
  exact .trans _ _ _ (.symm _ _ hy) (.symm _ _ h6)
/-- A link's spans lie in one set and in what belongs to it. -/
def Lies (A : Sd) (a b c d : Nat) : Prop := ∃ k y z : Nat, A.M k = some ((y : Int), (z : Int)) ∧ k ≤ a ∧ b ≤ A.e k ∧ y ≤ c ∧ d ≤ z
theorem take_lies {n m : Nat} {S : Sd} {p E a b c d a' b' c' d' : Nat} (h : Ok n m S) (ht : Took n m S p E a b c d) (hl : Lies S a' b' c' d') : Lies (takeS S p E ((c : Int), (d : Int))) a' b' c' d' := by
  obtain ⟨k, y, z, h1, h2, h3, h4, h5⟩ := hl
  obtain ⟨k1, k2, k3⟩ := matched_key h h1
  by_cases hin : p ≤ k ∧ k < E
  · have h6 := ht.holds k y z hin.1 hin.2 h1
    have h7 := ((ht.cut.sep k k2).2.2 hin.1 hin.2).2
    rw [k1] at h7
    refine ⟨p, c, d, (take_at _).1, by omega, ?_, by omega, by omega⟩
    rw [(take_at _).2]; omega
  · have hf := take_far (S := S) (k := k) ((c : Int), (d : Int)) (by omega) ht.cut.lt
    exact ⟨k, y, z, hf.1.trans h1, h2, by rw [hf.2]; exact h3, h4, h5⟩
theorem took_lies {n m : Nat} {S : Sd} {p E a b c d lo hi : Nat} (ht : Took n m S p E a b c d) (h1 : p ≤ lo) (h2 : hi ≤ E) : Lies (takeS S p E ((c : Int), (d : Int))) lo hi a b :=
  ⟨p, c, d, (take_at _).1, h1, by rw [(take_at _).2]; exact h2, ht.lo, ht.hi⟩
end Go.Proofs.Ytnmefomipldalaa
