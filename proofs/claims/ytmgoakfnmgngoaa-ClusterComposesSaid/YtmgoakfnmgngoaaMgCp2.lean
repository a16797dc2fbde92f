/- Texts of one claim, one behind the other. -/
import Derived.RegionTactic
import Derived.Laws.ResultCell
import Derived.Laws.Rows
import Derived.Maps.OwnSet
import Derived.Maps.Views
import Derived.Test.YtmgoakfnmgngoaaMgCp1
/- Spans put in order by their Lo, as plain mathematics: put in one by one; which order does not matter where they are parts. -/
namespace Go.Proofs.Ytmgoakfnmgngoaa

def LoSorted (l : List Sp) : Prop := l.Pairwise fun a b => a.1 ≤ b.1
def insLo (acc : List Sp) (s : Sp) : List Sp := acc.takeWhile (fun t => decide (t.1 ≤ s.1)) ++ s :: acc.dropWhile (fun t => decide (t.1 ≤ s.1))
def sortR (l : List Sp) : List Sp := l.foldl insLo []
theorem insLo_at {acc : List Sp} {s : Sp} {j : Nat} (h1 : ∀ t ∈ acc.take j, t.1 ≤ s.1) (h2 : j = acc.length ∨ ∃ t, acc[j]? = some t ∧ ¬ t.1 ≤ s.1) : insLo acc s = acc.take j ++ s :: acc.drop j := by
  induction acc generalizing j with
  | nil => simp [insLo]
  | cons a acc ih =>
    cases j with
    | zero =>
      rcases h2 with h2 | ⟨t, ht, hn⟩
      · simp at h2
      · simp at ht
        subst ht
        have hd : decide (a.1 ≤ s.1) = false := decide_eq_false hn
        simp [insLo, List.takeWhile, List.dropWhile, hd]
    | succ j =>
      have ha := h1 a (by simp)
      have hd : decide (a.1 ≤ s.1) = true := decide_eq_true ha
      have := ih (j := j) (fun t ht => h1 t (by simp [ht])) (by
        rcases h2 with h2 | ⟨t, ht, hn⟩
        · exact .inl (by simpa using h2)
        · exact .inr ⟨t, by simpa using ht, hn⟩)
      unfold insLo at this ⊢
      simp only [List.takeWhile, List.dropWhile, hd, List.take_succ_cons, List.drop_succ_cons, List.cons_append]
      rw [this]
theorem insLo_len (acc : List Sp) (s : Sp) : (insLo acc s).length = acc.length + 1 := by
  have := congrArg List.length (List.takeWhile_append_dropWhile (p := fun t : Sp => decide (t.1 ≤ s.1)) (l := acc))
  rw [List.length_append] at this
  unfold insLo
  rw [List.length_append, List.length_cons]
  omega
theorem insLo_perm (acc : List Sp) (s : Sp) : (insLo acc s).Perm (s :: acc) := by
  unfold insLo
  refine List.perm_middle.trans ?_
  rw [List.takeWhile_append_dropWhile]
theorem insLo_sorted {acc : List Sp} (s : Sp) (h : LoSorted acc) : LoSorted (insLo acc s) := by
  unfold LoSorted at *
  induction acc with
  | nil => simp [insLo]
  | cons a acc ih =>
    rw [List.pairwise_cons] at h
    by_cases ha : a.1 ≤ s.1
    · have hd : decide (a.1 ≤ s.1) = true := decide_eq_true ha
      have e : insLo (a :: acc) s = a :: insLo acc s := by simp [insLo, List.takeWhile, List.dropWhile, hd]
      rw [e, List.pairwise_cons]
      refine ⟨fun b hb => ?_, ih h.2⟩
      have := (insLo_perm acc s).mem_iff.1 hb
      simp at this
      rcases this with rfl | hb'
      · exact ha
      · exact h.1 b hb'
    · have hd : decide (a.1 ≤ s.1) = false := decide_eq_false ha
      have e : insLo (a :: acc) s = s :: a :: acc := by simp [insLo, List.takeWhile, List.dropWhile, hd]
      rw [e, List.pairwise_cons, List.pairwise_cons]
      refine ⟨fun b hb => ?_, h.1, h.2⟩
      simp at hb
      rcases hb with rfl | hb'
      · omega
      · have := h.1 b hb'
        omega
theorem sortR_snoc (l : List Sp) (s : Sp) : sortR (l ++ [s]) = insLo (sortR l) s := by simp [sortR]
theorem sortR_len (l : List Sp) : (sortR l).length = l.length := by
  rw [← List.reverse_reverse l]
  induction l.reverse with
  | nil => rfl
  | cons a t ih => rw [List.reverse_cons, sortR_snoc, insLo_len, ih]; simp
theorem foldIns_perm (l : List Sp) : ∀ acc, (l.foldl insLo acc).Perm (l ++ acc) := by
  induction l with
  | nil => intro acc; exact List.Perm.refl _
  | cons s l ih =>
    intro acc
    refine (ih (insLo acc s)).trans ?_
    refine (List.Perm.append_left l (insLo_perm acc s)).trans ?_
    exact List.perm_middle
theorem sortR_perm (l : List Sp) : (sortR l).Perm l := by
  have := foldIns_perm l []
  rwa [List.append_nil] at this
theorem foldIns_sorted (l : List Sp) : ∀ acc, LoSorted acc → LoSorted (l.foldl insLo acc) := by
  induction l with
  | nil => intro acc h; exact h
  | cons s l ih => intro acc h; exact ih _ (insLo_sorted s h)
theorem sortR_sorted (l : List Sp) : LoSorted (sortR l) := foldIns_sorted l [] List.Pairwise.nil

theorem parts_rise {e n : Int} {l : List Sp} (h : partsFrom e l n = true) : (∀ s ∈ l, e ≤ s.1) ∧ l.Pairwise fun a b => a.1 < b.1 := by
  induction l generalizing e with
  | nil => simp
  | cons s l ih =>
    cases hr : rightB s with
    | false => rw [partsFrom_no (.inl hr)] at h; cases h
    | true =>
      cases he : (s.1 == e) with
      | false => rw [partsFrom_no (.inr he)] at h; cases h
      | true =>
        rw [partsFrom_yes hr he] at h
        have hs := of_decide_eq_true hr
        have he' : s.1 = e := by simpa using he
        obtain ⟨h1, h2⟩ := ih h
        refine ⟨fun t ht => ?_, List.pairwise_cons.2 ⟨fun t ht => ?_, h2⟩⟩
        · simp at ht
          rcases ht with rfl | ht
          · omega
          · have := h1 t ht
            omega
        · have := h1 t ht
          omega
theorem perm_sorted_eq {l l' : List Sp} (hp : l'.Perm l) (h : l.Pairwise fun a b => a.1 < b.1) (h' : LoSorted l') : l' = l := by
  induction l generalizing l' with
  | nil => exact List.Perm.eq_nil hp
  | cons a l ih =>
    cases l' with
    | nil => exact absurd hp.length_eq (by simp)
    | cons b l' =>
      rw [List.pairwise_cons] at h
      unfold LoSorted at h'
      rw [List.pairwise_cons] at h'
      have hb : b ∈ a :: l := hp.mem_iff.1 (by simp)
      have ha : a ∈ b :: l' := hp.mem_iff.2 (by simp)
      have hab : b = a := by
        simp at hb ha
        rcases hb with rfl | hb
        · rfl
        · rcases ha with rfl | ha
          · rfl
          · have := h.1 b hb
            have := h'.1 a ha
            omega
      subst hab
      rw [ih (List.Perm.cons_inv hp) h.2 h'.2]
theorem parts_perm {l l' : List Sp} (hp : l'.Perm l) (h : LoSorted l) (h' : LoSorted l') (m : Int) : partsS l' m = partsS l m := by
  cases h1 : partsS l m with
  | true => rw [perm_sorted_eq hp (parts_rise h1).2 h', h1]
  | false =>
    cases h2 : partsS l' m with
    | false => rfl
    | true =>
      rw [perm_sorted_eq hp.symm (parts_rise h2).2 h, h2] at h1
      cases h1
/-- Whether clusters are a map. -/
def checkC (l : List (Sp × Sp)) (n m : Int) : Bool := partsS (l.map Prod.fst) n && partsS (sortR (l.map Prod.snd)) m
end Go.Proofs.Ytmgoakfnmgngoaa
/- The finest map: which places are together; the list of clusters that says so is the only one. No program in this text. -/
namespace Go.Proofs.Ytmgoakfnmgngoaa

/-- A place: its side (true: what comes out), its number. -/
abbrev Pl := Bool × Nat
/-- A link, or a cluster, in natural numbers: In's ends, Out's ends. -/
structure NC where
  a : Nat
  b : Nat
  c : Nat
  d : Nat
deriving DecidableEq
def NC.has (x : NC) (q : Pl) : Prop := if q.1 = true then x.c ≤ q.2 ∧ q.2 < x.d else x.a ≤ q.2 ∧ q.2 < x.b
/-- Places that belong together: the least relation that has each link's places together, and all between. -/
inductive Tog (L : List NC) : Pl → Pl → Prop
  | refl (p : Pl) : Tog L p p
  | link (x : NC) (p q : Pl) : x ∈ L → x.has p → x.has q → Tog L p q
  | symm (p q : Pl) : Tog L p q → Tog L q p
  | trans (p q r : Pl) : Tog L p q → Tog L q r → Tog L p r
  | between (s : Bool) (i k j : Nat) : i ≤ k → k ≤ j → Tog L (s, i) (s, j) → Tog L (s, i) (s, k)
theorem Tog.sub {L M : List NC} (h : ∀ x ∈ L, x ∈ M) {p q : Pl} (t : Tog L p q) : Tog M p q := by
  induction t with
  | refl p => exact .refl p
  | link x p q hx hp hq => exact .link x p q (h x hx) hp hq
  | symm p q _ ih => exact .symm _ _ ih
  | trans p q r _ _ ih1 ih2 => exact .trans _ _ _ ih1 ih2
  | between s i k j h1 h2 _ ih => exact .between s i k j h1 h2 ih
/-- A relation that is closed has all that is together. -/
theorem Tog.least {L : List NC} {S : Pl → Pl → Prop} (hr : ∀ p, S p p) (hs : ∀ p q, S p q → S q p) (ht : ∀ p q r, S p q → S q r → S p r) (hl : ∀ x ∈ L, ∀ p q, x.has p → x.has q → S p q)
    (hb : ∀ s i k j, i ≤ k → k ≤ j → S (s, i) (s, j) → S (s, i) (s, k)) {p q : Pl} (t : Tog L p q) : S p q := by
  induction t with
  | refl p => exact hr p
  | link x p q hx hp hq => exact hl x hx p q hp hq
  | symm p q _ ih => exact hs _ _ ih
  | trans p q r _ _ ih1 ih2 => exact ht _ _ _ ih1 ih2
  | between s i k j h1 h2 _ ih => exact hb s i k j h1 h2 ih
/-- The In spans lie one behind the other, from s to n. -/
def Tiles : Nat → List NC → Nat → Prop
  | s, [], n => s = n
  | s, x :: l, n => x.a = s ∧ x.a < x.b ∧ Tiles x.b l n
theorem Tiles.le : ∀ {l : List NC} {s n : Nat}, Tiles s l n → s ≤ n
  | [], _, _, h => Nat.le_of_eq h
  | x :: l, s, n, ⟨h1, h2, h3⟩ => by have := Tiles.le h3; omega
theorem Tiles.from_ : ∀ {l : List NC} {s n : Nat}, Tiles s l n → ∀ x ∈ l, s ≤ x.a ∧ x.a < x.b ∧ x.b ≤ n
  | x :: l, s, n, ⟨h1, h2, h3⟩, y, hy => by
    rcases List.mem_cons.1 hy with rfl | hy
    · have := Tiles.le h3; omega
    · have := Tiles.from_ h3 y hy; omega
/-- The finest map of n to m by links: In tiles, no Out is empty, and places are together just where they lie in one cluster. -/
structure Finest (L : List NC) (s n m : Nat) (l : List NC) : Prop where
  tiles : Tiles s l n
  out : ∀ x ∈ l, x.c < x.d ∧ x.d ≤ m
  tog : ∀ i, s ≤ i → i < n → ∀ q : Pl, (if q.1 = true then q.2 < m else s ≤ q.2 ∧ q.2 < n) → (Tog L (false, i) q ↔ ∃ x ∈ l, x.has (false, i) ∧ x.has q)
theorem span_eq {a b c d : Nat} (h1 : a < b) (h2 : c < d) (h : ∀ k, (a ≤ k ∧ k < b) ↔ (c ≤ k ∧ k < d)) : a = c ∧ b = d := by
  have e1 := (h a).1 ⟨Nat.le_refl _, h1⟩
  have e2 := (h c).2 ⟨Nat.le_refl _, h2⟩
  have e3 := (h (b - 1)).1 ⟨by omega, by omega⟩
  have e4 := (h (d - 1)).2 ⟨by omega, by omega⟩
  omega
theorem Finest.head {L : List NC} {s n m : Nat} {x : NC} {l : List NC} (h : Finest L s n m (x :: l)) {q : Pl} (hq : if q.1 = true then q.2 < m else s ≤ q.2 ∧ q.2 < n) : Tog L (false, s) q ↔ x.has q := by
  obtain ⟨e1, e2, e3⟩ := h.tiles
  have hle := Tiles.le e3
  rw [h.tog s (Nat.le_refl _) (by omega) q hq]
  constructor
  · rintro ⟨y, hy, hs, hyq⟩
    rcases List.mem_cons.1 hy with rfl | hy
    · exact hyq
    · have := Tiles.from_ e3 y hy
      have hs' : y.a ≤ s ∧ s < y.b := hs
      omega
  · intro hx
    exact ⟨x, List.mem_cons_self .., (show x.a ≤ s ∧ s < x.b by omega), hx⟩
theorem Finest.tail {L : List NC} {s n m : Nat} {x : NC} {l : List NC} (h : Finest L s n m (x :: l)) : Finest L x.b n m l := by
  obtain ⟨e1, e2, e3⟩ := h.tiles
  refine ⟨e3, fun y hy => h.out y (List.mem_cons_of_mem _ hy), fun i hi hin q hq => ?_⟩
  rw [h.tog i (by omega) hin q (by
    split at hq
    · rw [if_pos (by assumption)]; exact hq
    · rw [if_neg (by assumption)]; omega)]
  constructor
  · rintro ⟨y, hy, h1, h2⟩
    rcases List.mem_cons.1 hy with rfl | hy
    · have : y.a ≤ i ∧ i < y.b := h1
      omega
    · exact ⟨y, hy, h1, h2⟩
  · rintro ⟨y, hy, h1, h2⟩
    exact ⟨y, List.mem_cons_of_mem _ hy, h1, h2⟩
/-- There is one such list at most. -/
theorem Finest.only {L : List NC} {m : Nat} : ∀ {l k : List NC} {s n : Nat}, Finest L s n m l → Finest L s n m k → l = k
  | [], [], _, _, _, _ => rfl
  | [], y :: k, s, n, h, h' => by
    have e : s = n := h.tiles
    obtain ⟨e1, e2, e3⟩ := h'.tiles
    have := Tiles.le e3
    omega
  | x :: l, [], s, n, h, h' => by
    have e : s = n := h'.tiles
    obtain ⟨e1, e2, e3⟩ := h.tiles
    have := Tiles.le e3
    omega
  | x :: l, y :: k, s, n, h, h' => by
    obtain ⟨e1, e2, e3⟩ := h.tiles
    obtain ⟨f1, f2, f3⟩ := h'.tiles
    have hx := h.out x (List.mem_cons_self ..)
    have hy := h'.out y (List.mem_cons_self ..)
    have hle := Tiles.le e3
    have hle' := Tiles.le f3
    have hin : ∀ k, (x.a ≤ k ∧ k < x.b) ↔ (y.a ≤ k ∧ k < y.b) := fun k => by
      by_cases hk : s ≤ k ∧ k < n
      · have a1 := h.head (q := (false, k)) hk
        have a2 := h'.head (q := (false, k)) hk
        exact a1.symm.trans a2
      · omega
    have hout : ∀ k, (x.c ≤ k ∧ k < x.d) ↔ (y.c ≤ k ∧ k < y.d) := fun k => by
      by_cases hk : k < m
      · have a1 := h.head (q := (true, k)) hk
        have a2 := h'.head (q := (true, k)) hk
        exact a1.symm.trans a2
      · omega
    obtain ⟨g1, g2⟩ := span_eq e2 f2 hin
    obtain ⟨g3, g4⟩ := span_eq hx.1 hy.1 hout
    have hxy : x = y := by
      obtain ⟨xa, xb, xc, xd⟩ := x
      obtain ⟨ya, yb, yc, yd⟩ := y
      simp only at g1 g2 g3 g4
      rw [g1, g2, g3, g4]
    subst hxy
    rw [Finest.only h.tail h'.tail]
end Go.Proofs.Ytmgoakfnmgngoaa
/- The finest map: places of one side in sets that lie side by side; sets made one. No program in this text. -/
namespace Go.Proofs.Ytmgoakfnmgngoaa

/-- n places in sets: r tells the first place of each place's set, e where the set of a first place ends. -/
structure Part (n : Nat) (r e : Nat → Nat) : Prop where
  le : ∀ i, i < n → r i ≤ i
  lt : ∀ i, i < n → i < e (r i)
  top : ∀ i, i < n → e (r i) ≤ n
  same : ∀ i j, i < n → r i ≤ j → j < e (r i) → r j = r i
theorem Part.start (n : Nat) : Part n id (· + 1) := ⟨fun _ _ => Nat.le_refl _, fun _ _ => Nat.lt_succ_self _, fun i h => h, fun i j _ h1 h2 => by
  simp only [id] at h1 h2 ⊢
  omega⟩
theorem Part.root {n : Nat} {r e : Nat → Nat} (h : Part n r e) {i : Nat} (hi : i < n) : r (r i) = r i :=
  h.same i (r i) hi (Nat.le_refl _) (Nat.lt_of_le_of_lt (h.le i hi) (h.lt i hi))
/-- Where a set ends, the next one begins. -/
theorem Part.next {n : Nat} {r e : Nat → Nat} (h : Part n r e) {p : Nat} (hp : r p = p) (hpn : p < n) (hq : e p < n) : r (e p) = e p := by
  have h1 := h.le (e p) hq
  rcases Nat.lt_or_ge (r (e p)) (e p) with hlt | hge
  · exfalso
    have h2 := h.lt p hpn
    rw [hp] at h2
    have h3 := h.lt (e p) hq
    have h4 := h.same (e p) (e p - 1) hq (by omega) (by omega)
    have h5 := h.same p (e p - 1) hpn (by rw [hp]; omega) (by rw [hp]; omega)
    rw [hp, h4] at h5
    rw [h5] at h3
    omega
  · omega
/-- Two sets made one: the one of p, and the one that begins where it ends. -/
def uniR (r e : Nat → Nat) (p : Nat) (i : Nat) : Nat := if e p ≤ i ∧ i < e (e p) then p else r i
def uniE (e : Nat → Nat) (p : Nat) (x : Nat) : Nat := if x = p then e (e p) else e x
theorem Part.unite {n : Nat} {r e : Nat → Nat} (h : Part n r e) {p : Nat} (hp : r p = p) (hpn : p < n) (hq : e p < n) : Part n (uniR r e p) (uniE e p) := by
  have hqr := h.next hp hpn hq
  have hlp := h.lt p hpn
  rw [hp] at hlp
  have hlq := h.lt (e p) hq
  rw [hqr] at hlq
  have htq := h.top (e p) hq
  rw [hqr] at htq
  -- a place of neither set keeps its root, which is not p
  have hout : ∀ i, i < n → ¬ (e p ≤ i ∧ i < e (e p)) → r i ≠ e p := fun i hi hno heq => by
    have h1 := h.le i hi
    have h2 := h.lt i hi
    rw [heq] at h1 h2
    exact hno ⟨h1, h2⟩
  have hin : ∀ j, p ≤ j → j < e p → r j = p := fun j h1 h2 => (h.same p j hpn (by rw [hp]; exact h1) (by rw [hp]; exact h2)).trans hp
  have hin2 : ∀ j, e p ≤ j → j < e (e p) → r j = e p := fun j h1 h2 => (h.same (e p) j hq (by rw [hqr]; exact h1) (by rw [hqr]; exact h2)).trans hqr
  refine ⟨fun i hi => ?_, fun i hi => ?_, fun i hi => ?_, fun i j hi h1 h2 => ?_⟩
  · unfold uniR
    split
    · omega
    · exact h.le i hi
  · unfold uniR
    split
    · rename_i hc
      unfold uniE
      rw [if_pos rfl]
      omega
    · rename_i hc
      have h3 := h.lt i hi
      unfold uniE
      split
      · rename_i hc2
        rw [hc2] at h3
        omega
      · exact h3
  · unfold uniR
    split
    · unfold uniE
      rw [if_pos rfl]
      exact htq
    · unfold uniE
      split
      · exact htq
      · exact h.top i hi
  · -- which set is i's, which j's
    by_cases hi2 : e p ≤ i ∧ i < e (e p)
    · have e1 : uniR r e p i = p := if_pos hi2
      rw [e1] at h1 h2 ⊢
      have e2 : uniE e p p = e (e p) := if_pos rfl
      rw [e2] at h2
      unfold uniR
      split
      · rfl
      · rename_i hno
        exact hin j h1 (by omega)
    · have e1 : uniR r e p i = r i := if_neg hi2
      rw [e1] at h1 h2 ⊢
      by_cases hrp : r i = p
      · rw [hrp] at h1 h2 ⊢
        have e2 : uniE e p p = e (e p) := if_pos rfl
        rw [e2] at h2
        unfold uniR
        split
        · rfl
        · exact hin j h1 (by omega)
      · have e2 : uniE e p (r i) = e (r i) := if_neg hrp
        rw [e2] at h2
        have h3 := h.same i j hi h1 h2
        unfold uniR
        split
        · rename_i hc
          exfalso
          have h4 := hin2 j hc.1 hc.2
          exact hout i hi hi2 (h3.symm.trans h4)
        · exact h3
/-- Roots of the sets behind. -/
theorem uniR_root {n : Nat} {r e : Nat → Nat} (h : Part n r e) {p : Nat} (hp : r p = p) (hpn : p < n) : uniR r e p p = p := by
  have hlp := h.lt p hpn
  rw [hp] at hlp
  unfold uniR
  rw [if_neg (by omega), hp]
end Go.Proofs.Ytmgoakfnmgngoaa
/- cluster's sets in memory; the set that a place is in. -/
namespace Go.Proofs.Ytmgoakfnmgngoaa
open Go.RowKit

def ints (l : List Nat) : List Value := l.map fun (x : Nat) => Value.int .i64 (x : Int)
/-- The ways to the first place: each place names one of its set that is nearer to it; the first one itself. -/
def Forest (n : Nat) (ah : List Nat) (r : Nat → Nat) : Prop := ah.length = n ∧ ∀ (i a : Nat), ah[i]? = some a → a ≤ i ∧ r a = r i ∧ (a = i ↔ r i = i)
theorem Forest.halve {n : Nat} {ah : List Nat} {r : Nat → Nat} (h : Forest n ah r) {i a b : Nat} (ha : ah[i]? = some a) (hb : ah[a]? = some b) : Forest n (ah.set i b) r := by
  refine ⟨by rw [List.length_set]; exact h.1, fun j x hx => ?_⟩
  by_cases hj : j = i
  · subst hj
    rw [List.getElem?_set_self (List.getElem?_eq_some_iff.1 ha).1] at hx
    obtain rfl := Option.some.inj hx
    obtain ⟨a1, a2, a3⟩ := h.2 j a ha
    obtain ⟨b1, b2, b3⟩ := h.2 a b hb
    refine ⟨by omega, b2.trans a2, ⟨fun e => ?_, fun e => ?_⟩⟩
    · have : a = j := by omega
      exact a3.1 this
    · have e1 := a3.2 e
      subst e1
      exact b3.2 e
  · rw [List.getElem?_set_ne (fun e => hj e.symm)] at hx
    exact h.2 j x hx
/-- A side's sets: the ways, the ends. -/
structure SetsAt (w : World) (b gA gE n : Nat) (ah en : List Nat) : Prop where
  c0 : w.cell? ⟨b, 0, none⟩ = some (.slice (some ⟨gA, 0, none⟩) n n)
  c1 : w.cell? ⟨b, 1, none⟩ = some (.slice (some ⟨gE, 0, none⟩) n n)
  hA : w.heap[gA]? = some (.cells (ints ah).toArray 3 (0, 0))
  hE : w.heap[gE]? = some (.cells (ints en).toArray 3 (0, 0))
  lA : ah.length = n
  lE : en.length = n
  ne1 : gA ≠ b
  ne2 : gE ≠ b
  ne3 : gA ≠ gE
theorem cells_of_heap {w : World} {g : Nat} {l : List Nat} {t : TypeId} (h : w.heap[g]? = some (.cells (ints l).toArray t (0, 0))) {i x : Nat} (hx : l[i]? = some x) : w.cell? ⟨g, i, none⟩ = some (.int .i64 (x : Int)) := by
  have hl : (ints l).toArray[i]? = some (.int .i64 (x : Int)) := by
    rw [List.getElem?_toArray, ints, List.getElem?_map, hx]
    rfl
  unfold World.cell?
  rw [show w.heap[(⟨g, i, none⟩ : Addr).block]? = _ from h]
  exact hl
theorem SetsAt.grown {w w' : World} {b gA gE n : Nat} {ah en ah' : List Nat} (h : SetsAt w b gA gE n ah en) (hg : w.grownBy w' (some gA)) (hA : w'.heap[gA]? = some (.cells (ints ah').toArray 3 (0, 0))) (hl : ah'.length = n) : SetsAt w' b gA gE n ah' en := by
  have hb := cell_lt h.c0
  have hc : ∀ j, w'.cell? ⟨b, j, none⟩ = w.cell? ⟨b, j, none⟩ := fun j => by
    unfold World.cell?
    rw [show w'.heap[b]? = w.heap[b]? from hg.block b hb (fun e => h.ne1 (Option.some.inj e).symm)]
  refine ⟨(hc 0).trans h.c0, (hc 1).trans h.c1, hA, blk_grown h.hE hg (fun e => h.ne3 (Option.some.inj e)), hl, h.lE, h.ne1, h.ne2, h.ne3⟩
end Go.Proofs.Ytmgoakfnmgngoaa
/- cluster's sets: the set that a place is in, walked. -/
namespace Go.Proofs.Ytmgoakfnmgngoaa
open Go.RowKit

theorem setCell_heap {w : World} {g : Nat} {l : List Nat} {t : TypeId} (h : w.heap[g]? = some (.cells (ints l).toArray t (0, 0))) {i : Nat} (hi : i < l.length) (x : Nat) : (w.setCell ⟨g, i, none⟩ (.int .i64 (x : Int))).heap[g]? = some (.cells (ints (l.set i x)).toArray t (0, 0)) := by
  rw [heap_setCell_same w g i _ t _ h]
  congr 2
  unfold ints
  rw [List.map_set, List.setIfInBounds_toArray]
theorem grown_drew {a w : World} {row : Option Nat} (h : a.grownBy w row) : a.grownBy w.drew row := ⟨h.os, h.tape, h.output, h.size, h.block⟩
theorem grownTwo {a b c : World} {row : Option Nat} (h : a.grownBy b row) (k : b.grownBy c row) : a.grownBy c row := ⟨k.os.trans h.os, k.tape.trans h.tape, k.output.trans h.output, Nat.le_trans h.size k.size, fun i hi hr => (k.block i (Nat.lt_of_lt_of_le hi h.size) hr).trans (h.block i hi hr)⟩
theorem res_span {fn : Func} {p : Tmp} (hf : fn.results = #[.cell p 31]) (tmps : Array Value) (w : World) (g : Nat) (s : Sp) (hp : tmps.getD p undef = .pointer (some ⟨g, 0, none⟩))
    (hC : SpanBlk w g s) : (results fn tmps).run Try.prog w = .ok (valS s) w := by
  obtain ⟨c0, c1, _, _⟩ := hC
  have hp' : tmps[p]?.getD undef = .pointer (some ⟨g, 0, none⟩) := by simpa using hp
  unfold valS
  simp only [results, hf]
  clear hp hf
  go_simp
set_option maxRecDepth 100000 in
set_option maxHeartbeats 2000000 in
theorem set_any (b gA gE n : Nat) (ah en : List Nat) (r e : Nat → Nat) (at0 : Nat) (hat : at0 < n) (hn : n ≤ 100000000) (w : World) (hS : SetsAt w b gA gE n ah en) (hF : Forest n ah r) (hEn : ∀ i, r i = i → i < n → en[i]? = some (e i)) :
    Calls Try.prog 95 #[.pointer (some ⟨b, 0, none⟩), .int .i64 (at0 : Int)] w fun e' w' => e' = .returned (.agg #[.int .i64 (r at0 : Nat), .int .i64 (e (r at0) : Nat)]) ∧ ∃ ah', Forest n ah' r ∧ w'.heap[gA]? = some (.cells (ints ah').toArray 3 (0, 0)) ∧ w.grownBy w' (some gA) := by
  obtain ⟨w1, hw1⟩ : ∃ w1, w.alloc (.cells #[.int .i64 0, .int .i64 0] 31) = w1 := ⟨_, rfl⟩
  have hg1 : w.grownBy w1 (some gA) := by rw [← hw1]; exact World.grownBy_alloc w _ _
  have hS1 : SetsAt w1 b gA gE n ah en := hS.grown hg1 (blk_grown hS.hA (by rw [← hw1]; exact World.grownBy_alloc w _ none) (by simp)) hS.lA
  have HEN := Lib.hid hEn
  have HI := Lib.hid (show Forest n ah r ∧ SetsAt w1 b gA gE n ah en ∧ w.grownBy w1 (some gA) from ⟨hF, hS1, hg1⟩)
  clear hS hF hEn hg1 hS1
  go_enter Try.func95, Try.ntmps95
  go_wp2_with fail
  have HR := Lib.hid (show w1.heap[w.heap.size]? = some (.cells #[.int .i64 0, .int .i64 0] 31 (0, 0)) from by rw [← hw1]; exact heap_alloc_new _ _)
  have hRA : gA ≠ w.heap.size := by
    have := cell_lt HI.out.2.1.c0
    intro e9
    have h1 := HI.out.2.1.hA
    have h2 := HR.out
    rw [e9, h2] at h1
    injection h1 with h1
    injection h1 with _ h3 _
    cases h3
  clear hw1
  generalize hRe : w.heap.size = R at *
  have HRE := Lib.hid hRe
  clear hRe
  go_loopw [1] (fun i wr => ∃ (a : Nat) (ah' : List Nat), i = .int .i64 (a : Int) ∧ a < n ∧ r a = r at0 ∧ Forest n ah' r ∧ SetsAt wr b gA gE n ah' en ∧ w1.grownBy wr (some gA)) (fun i _ => (intOf i).toNat)
  case atStart => exact ⟨at0, ah, rfl, hat, rfl, HI.out.1, HI.out.2.1, World.grownBy.refl _ _⟩
  case round =>
    obtain ⟨a, ah', rfl, han, hra, hF, hS, hg⟩ := hrel
    obtain ⟨a1, ha1⟩ : ∃ a1, ah'[a]? = some a1 := ⟨_, List.getElem?_eq_getElem (by rw [hS.lA]; exact han)⟩
    obtain ⟨f1, f2, f3⟩ := hF.2 a a1 ha1
    have han1 : a1 < n := by omega
    have fA : wr.frozen? ⟨gA, a, none⟩ = false := by
      unfold World.frozen?
      rw [show wr.heap[(⟨gA, a, none⟩ : Addr).block]? = _ from hS.hA]
      rfl
    have c0 := hS.c0
    have cA := cells_of_heap hS.hA ha1
    have HF := Lib.hid hF
    have HS := Lib.hid hS
    have HG := Lib.hid hg
    by_cases he : a1 = a
    · subst he
      have hroot : r a1 = a1 := f3.1 rfl
      have cE := cells_of_heap hS.hE (HEN.out a1 hroot han)
      have c1 := hS.c1
      have hSp : SpanBlk wr R (0, 0) := (show SpanBlk w1 R (0, 0) from by
        unfold SpanBlk World.cell? World.frozen?
        rw [show w1.heap[(⟨R, 0, none⟩ : Addr).block]? = _ from HR.out]
        exact ⟨rfl, rfl, rfl, rfl⟩).grown hg (fun e9 => hRA (Option.some.inj e9))
      obtain ⟨q0, q1, q2, q3⟩ := hSp
      have HSP := Lib.hid (show SpanBlk wr R (0, 0) from ⟨q0, q1, q2, q3⟩)
      clear hF hS hg f1 f2 f3
      go_wp2_with fail
      (try simp only [Exit.inBlock, Exit.then])
      refine bodyPost_ret (v := valS ((r at0 : Nat), (e (r at0) : Nat))) ?_ rfl ⟨rfl, ah', HF.out, ?_, ?_⟩
      · rw [← hra, hroot]
        exact res_span rfl _ _ R ((a1 : Int), (e a1 : Int)) rfl (HSP.out.put _ _)
      · exact (Below.heap_setCell _ _ _ _ (show gA ≠ R from hRA)).trans ((Below.heap_setCell _ _ _ _ (show gA ≠ R from hRA)).trans HS.out.hA)
      · refine only_setCell (only_setCell ?_ (.inr ?_) _) (.inr ?_) _
        · exact grownTwo HI.out.2.2 HG.out
        · rw [HRE.out]; exact Nat.le_refl _
        · rw [HRE.out]; exact Nat.le_refl _
    · obtain ⟨a2, ha2⟩ : ∃ a2, ah'[a1]? = some a2 := ⟨_, List.getElem?_eq_getElem (by rw [hS.lA]; omega)⟩
      have cB := cells_of_heap hS.hA ha2
      have HH := Lib.hid (hF.halve ha1 ha2)
      have h1 : ((a1 : Int) != (a : Int)) = true := by simp; omega
      have hA2 : (wr.setCell ⟨gA, a, none⟩ (.int .i64 (a2 : Int))).heap[gA]? = some (.cells (ints (ah'.set a a2)).toArray 3 (0, 0)) := setCell_heap hS.hA (by rw [hS.lA]; exact han) a2
      have hg2 : w1.grownBy (wr.setCell ⟨gA, a, none⟩ (.int .i64 (a2 : Int))).drew (some gA) := grown_drew (only_setCell (p := ⟨gA, a, none⟩) hg (.inl rfl) _)
      have hg3 : wr.grownBy (wr.setCell ⟨gA, a, none⟩ (.int .i64 (a2 : Int))).drew (some gA) := grown_drew (only_setCell (p := ⟨gA, a, none⟩) (World.grownBy.refl wr _) (.inl rfl) _)
      have HS2 := Lib.hid (show SetsAt (wr.setCell ⟨gA, a, none⟩ (.int .i64 (a2 : Int))).drew b gA gE n (ah'.set a a2) en from hS.grown hg3 hA2 (by rw [List.length_set]; exact hS.lA))
      have hn2 : (wr.setCell ⟨gA, a, none⟩ (.int .i64 (a2 : Int))).drew.cell? ⟨gA, a, none⟩ = some (.int .i64 (a2 : Int)) := cells_of_heap HS2.out.hA (by rw [List.getElem?_set_self (by rw [hS.lA]; exact han)])
      have hn0 := HS2.out.c0
      have HG2 := Lib.hid hg2
      obtain ⟨b1, b2, b3⟩ := hF.2 a1 a2 ha2
      have hra2 : r a2 = r at0 := b2.trans (f2.trans hra)
      clear hF hS hg hA2 hg2 hg3 f3 b3
      go_wp2
      go_region
      generalize (wr.setCell ⟨gA, a, none⟩ (.int .i64 (a2 : Int))).drew = w5 at *
      go_wp2
      go_roundw
      case rel => exact ⟨a2, _, rfl, by omega, hra2, HH.out, HS2.out, HG2.out⟩
      case measure => simp [intOf]; omega
end Go.Proofs.Ytmgoakfnmgngoaa
/- Which blocks a call may write. -/
namespace Go.Proofs.Ytmgoakfnmgngoaa
open Go.RowKit

/-- w' is w with new blocks, and with writes to the blocks of S alone. -/
structure Kept (w w' : World) (S : List Nat) : Prop where
  os : w'.os = w.os
  tape : w'.tape = w.tape
  output : w'.output = w.output
  size : w.heap.size ≤ w'.heap.size
  block : ∀ i, i < w.heap.size → i ∉ S → w'.heap[i]? = w.heap[i]?
theorem Kept.refl (w : World) (S : List Nat) : Kept w w S := ⟨rfl, rfl, rfl, Nat.le_refl _, fun _ _ _ => rfl⟩
theorem Kept.trans {a b c : World} {S : List Nat} (h : Kept a b S) (k : Kept b c S) : Kept a c S :=
  ⟨k.os.trans h.os, k.tape.trans h.tape, k.output.trans h.output, Nat.le_trans h.size k.size, fun i hi hs => (k.block i (Nat.lt_of_lt_of_le hi h.size) hs).trans (h.block i hi hs)⟩
theorem Kept.of_grown {a b : World} {g : Nat} {S : List Nat} (h : a.grownBy b (some g)) (hg : g ∈ S) : Kept a b S :=
  ⟨h.os, h.tape, h.output, h.size, fun i hi hs => h.block i hi (fun e => hs (by obtain rfl := Option.some.inj e; exact hg))⟩
theorem Kept.of_below {a b : World} (h : Below a.heap.size a b) (S : List Nat) : Kept a b S := ⟨h.os, h.tape, h.output, h.size, fun i hi _ => h.block i hi⟩
theorem Kept.drew {a b : World} {S : List Nat} (h : Kept a b S) : Kept a b.drew S := ⟨h.os, h.tape, h.output, h.size, h.block⟩
theorem Kept.set {a b : World} {S : List Nat} (h : Kept a b S) {g : Nat} (hg : g ∈ S ∨ a.heap.size ≤ g) (j : Nat) (u : Value) : Kept a (b.setCell ⟨g, j, none⟩ u) S :=
  ⟨h.os, h.tape, h.output, by simpa [World.setCell] using h.size, fun i hi hs => (Below.heap_setCell b ⟨g, j, none⟩ u i (by
    show i ≠ g
    rintro rfl
    rcases hg with hg | hg
    · exact hs hg
    · omega)).trans (h.block i hi hs)⟩
theorem Kept.heap {w w' : World} {S : List Nat} (h : Kept w w' S) {g : Nat} {o : Obj} (hg : w.heap[g]? = some o) (hs : g ∉ S) : w'.heap[g]? = some o := by
  have hlt : g < w.heap.size := by
    rcases Nat.lt_or_ge g w.heap.size with h' | h'
    · exact h'
    · rw [Array.getElem?_eq_none h'] at hg
      cases hg
  exact (h.block g hlt hs).trans hg
theorem Kept.cell {w w' : World} {S : List Nat} (h : Kept w w' S) {g j : Nat} {v : Value} (hc : w.cell? ⟨g, j, none⟩ = some v) (hs : g ∉ S) : w'.cell? ⟨g, j, none⟩ = some v := by
  have hlt : g < w.heap.size := cell_lt hc
  unfold World.cell? at hc ⊢
  rw [show w'.heap[(⟨g, j, none⟩ : Addr).block]? = w.heap[(⟨g, j, none⟩ : Addr).block]? from h.block g hlt hs]
  exact hc
theorem heap_lt {w : World} {g : Nat} {o : Obj} (h : w.heap[g]? = some o) : g < w.heap.size := by
  rcases Nat.lt_or_ge g w.heap.size with h' | h'
  · exact h'
  · rw [Array.getElem?_eq_none h'] at h
    cases h
theorem frozen_of_heap {w : World} {g : Nat} {cs : Array Value} {t : TypeId} (h : w.heap[g]? = some (.cells cs t (0, 0))) (j : Nat) : w.frozen? ⟨g, j, none⟩ = false := by
  unfold World.frozen?
  rw [show w.heap[(⟨g, j, none⟩ : Addr).block]? = _ from h]
  rfl
theorem heap_setCell_far {w : World} {g k : Nat} (h : k ≠ g) (j : Nat) (u : Value) : (w.setCell ⟨g, j, none⟩ u).heap[k]? = w.heap[k]? := Below.heap_setCell w ⟨g, j, none⟩ u k h
end Go.Proofs.Ytmgoakfnmgngoaa
/- cluster's sets: two made one, walked; which blocks a call may write. -/
namespace Go.Proofs.Ytmgoakfnmgngoaa
open Go.RowKit

/-- The set that a place is in: what becomes of the sets. -/
theorem set_kept (b gA gE n : Nat) (ah en : List Nat) (r e : Nat → Nat) (at0 : Nat) (hat : at0 < n) (hn : n ≤ 100000000) (w : World) (hS : SetsAt w b gA gE n ah en) (hF : Forest n ah r) (hEn : ∀ i, r i = i → i < n → en[i]? = some (e i)) :
    Calls Try.prog 95 #[.pointer (some ⟨b, 0, none⟩), .int .i64 (at0 : Int)] w fun e' w' => e' = .returned (.agg #[.int .i64 (r at0 : Nat), .int .i64 (e (r at0) : Nat)]) ∧ ∃ ah', Forest n ah' r ∧ SetsAt w' b gA gE n ah' en ∧ Kept w w' [gA] :=
  (set_any b gA gE n ah en r e at0 hat hn w hS hF hEn).mono fun _ _ ⟨he, ah', h1, h2, h3⟩ => ⟨he, ah', h1, hS.grown h3 h2 h1.1, Kept.of_grown h3 (List.mem_singleton_self _)⟩
set_option maxRecDepth 100000 in
set_option maxHeartbeats 2000000 in
theorem unite_any (b gA gE n : Nat) (ah en : List Nat) (p q q' z : Nat) (hp : p < n) (hq : q' < n) (hn : n ≤ 100000000) (w : World) (hS : SetsAt w b gA gE n ah en) :
    Calls Try.prog 97 #[.pointer (some ⟨b, 0, none⟩), .agg #[.int .i64 (p : Int), .int .i64 (q : Int)], .agg #[.int .i64 (q' : Int), .int .i64 (z : Int)]] w fun e' w' => e' = .returned (valS ((p : Int), (z : Int))) ∧ SetsAt w' b gA gE n (ah.set q' p) (en.set p z) ∧ Kept w w' [gA, gE] := by
  obtain ⟨W1, hW1⟩ : ∃ W1, w.alloc (.cells #[.int .i64 (p : Int), .int .i64 (q : Int)] 31) = W1 := ⟨_, rfl⟩
  have hs1 : SpanBlk W1 w.heap.size ((p : Int), (q : Int)) := by rw [← hW1]; exact SpanBlk.new_ w _ _ _
  have hb1 : Below w.heap.size w W1 := by rw [← hW1]; exact below_new _ _
  have hl1 : w.heap.size < W1.heap.size := cell_lt hs1.1
  obtain ⟨W2, hW2⟩ : ∃ W2, W1.alloc (.cells #[.int .i64 (q' : Int), .int .i64 (z : Int)] 31) = W2 := ⟨_, rfl⟩
  have hs2 : SpanBlk W2 W1.heap.size ((q' : Int), (z : Int)) := by rw [← hW2]; exact SpanBlk.new_ W1 _ _ _
  have hb2 : Below W1.heap.size W1 W2 := by rw [← hW2]; exact below_new _ _
  have hl2 : W1.heap.size < W2.heap.size := cell_lt hs2.1
  obtain ⟨W3, hW3⟩ : ∃ W3, W2.alloc (.cells #[.int .i64 0, .int .i64 0] 31) = W3 := ⟨_, rfl⟩
  have hs3 : SpanBlk W3 W2.heap.size (0, 0) := by rw [← hW3]; exact SpanBlk.new_ W2 _ _ _
  have hb3 : Below W2.heap.size W2 W3 := by rw [← hW3]; exact below_new _ _
  have hk3 : Kept w W3 [gA, gE] := ((Kept.of_below hb1 _).trans (Kept.of_below hb2 _)).trans (Kept.of_below hb3 _)
  have hb := cell_lt hS.c0
  have hgA := heap_lt hS.hA
  have hgE := heap_lt hS.hE
  simp only at hb
  have hbel : Below w.heap.size w W3 := below_self (below_self hb1 hb2) hb3
  have hA3 : W3.heap[gA]? = some (.cells (ints ah).toArray 3 (0, 0)) := (hbel.block gA hgA).trans hS.hA
  have hE3 : W3.heap[gE]? = some (.cells (ints en).toArray 3 (0, 0)) := (hbel.block gE hgE).trans hS.hE
  have c0 := cell_below hbel hS.c0
  have c1 := cell_below hbel hS.c1
  have hs1' : SpanBlk W3 w.heap.size ((p : Int), (q : Int)) := (hs1.below hb2).below hb3
  have hs2' : SpanBlk W3 W1.heap.size ((q' : Int), (z : Int)) := hs2.below hb3
  have HS := Lib.hid hS
  have HK3 := Lib.hid hk3
  have HA3 := Lib.hid hA3
  have HE3 := Lib.hid hE3
  have HX := Lib.hid (And.intro hs1' (And.intro hs2' hs3))
  obtain ⟨x0, hx0⟩ : ∃ x0, ah[q']? = some x0 := ⟨_, List.getElem?_eq_getElem (by rw [hS.lA]; exact hq)⟩
  have cx := cells_of_heap hA3 hx0
  have fx := frozen_of_heap hA3 q'
  obtain ⟨p0, p1, _, _⟩ := hs1'
  obtain ⟨q0, q1, _, _⟩ := hs2'
  have HL := Lib.hid (show gA < w.heap.size ∧ gE < w.heap.size ∧ b < w.heap.size ∧ w.heap.size < W1.heap.size ∧ W1.heap.size < W2.heap.size from ⟨hgA, hgE, hb, hl1, hl2⟩)
  clear hs1 hb1 hs2 hb2 hs3 hb3 hk3 hS hA3 hE3 hbel hgA hgE hb hx0 hl1 hl2
  go_enter Try.func97, Try.ntmps97
  go_wp2
  clear hW1 hW2 hW3
  generalize W1.heap.size = R2 at *
  generalize W2.heap.size = R3 at *
  generalize hR1 : w.heap.size = R1 at *
  have HR1 := Lib.hid hR1
  clear hR1
  obtain ⟨k1, k2, k3, k4, k5⟩ := HL.out
  have n1 : ¬ gA = gE := HS.out.ne3
  have n2 : ¬ gA = b := HS.out.ne1
  have n3 : ¬ gE = b := HS.out.ne2
  go_region
  have HA4 := Lib.hid (show (W3.setCell ⟨gA, q', none⟩ (.int .i64 (p : Int))).drew.heap[gA]? = some (.cells (ints (ah.set q' p)).toArray 3 (0, 0)) from setCell_heap HA3.out (by rw [HS.out.lA]; exact hq) p)
  have HE4 := Lib.hid (show (W3.setCell ⟨gA, q', none⟩ (.int .i64 (p : Int))).drew.heap[gE]? = some (.cells (ints en).toArray 3 (0, 0)) from (heap_setCell_far (fun e9 => n1 e9.symm) _ _).trans HE3.out)
  have hk4 : Kept W3 (W3.setCell ⟨gA, q', none⟩ (.int .i64 (p : Int))).drew [gA] := ((Kept.refl W3 [gA]).set (.inl (List.mem_singleton_self _)) _ _).drew
  have HK4 := Lib.hid (show Kept w (W3.setCell ⟨gA, q', none⟩ (.int .i64 (p : Int))).drew [gA, gE] from (HK3.out.set (.inl (List.mem_cons_self ..)) _ _).drew)
  have d1 := hk4.cell c1 (by simp; omega)
  have d0 := hk4.cell c0 (by simp; omega)
  have dp0 := hk4.cell p0 (by simp; omega)
  have dp1 := hk4.cell p1 (by simp; omega)
  have dq0 := hk4.cell q0 (by simp; omega)
  have dq1 := hk4.cell q1 (by simp; omega)
  have HX4 := Lib.hid (show SpanBlk (W3.setCell ⟨gA, q', none⟩ (.int .i64 (p : Int))).drew R3 (0, 0) from HX.out.2.2.grown (row := some gA) (grown_drew (only_setCell (p := ⟨gA, q', none⟩) (World.grownBy.refl W3 _) (.inl rfl) _)) (fun e9 => by have := Option.some.inj e9; omega))
  clear cx fx p0 p1 q0 q1 c0 c1 hk4
  generalize (W3.setCell ⟨gA, q', none⟩ (.int .i64 (p : Int))).drew = W4 at *
  obtain ⟨y0, hy0⟩ : ∃ y0, en[p]? = some y0 := ⟨_, List.getElem?_eq_getElem (by rw [HS.out.lE]; exact hp)⟩
  have cy := cells_of_heap HE4.out hy0
  have fy := frozen_of_heap HE4.out p
  clear hy0
  go_wp2
  go_region
  have HA5 := Lib.hid (show (W4.setCell ⟨gE, p, none⟩ (.int .i64 (z : Int))).drew.heap[gA]? = some (.cells (ints (ah.set q' p)).toArray 3 (0, 0)) from (heap_setCell_far n1 _ _).trans HA4.out)
  have HE5 := Lib.hid (show (W4.setCell ⟨gE, p, none⟩ (.int .i64 (z : Int))).drew.heap[gE]? = some (.cells (ints (en.set p z)).toArray 3 (0, 0)) from setCell_heap HE4.out (by rw [HS.out.lE]; exact hp) z)
  have hk5 : Kept W4 (W4.setCell ⟨gE, p, none⟩ (.int .i64 (z : Int))).drew [gE] := ((Kept.refl W4 [gE]).set (.inl (List.mem_singleton_self _)) _ _).drew
  have HK5 := Lib.hid (show Kept w (W4.setCell ⟨gE, p, none⟩ (.int .i64 (z : Int))).drew [gA, gE] from (HK4.out.set (.inl (by simp)) _ _).drew)
  have e1 := hk5.cell d1 (by simp; omega)
  have e0 := hk5.cell d0 (by simp; omega)
  have ep0 := hk5.cell dp0 (by simp; omega)
  have eq1 := hk5.cell dq1 (by simp; omega)
  have hX5 : SpanBlk (W4.setCell ⟨gE, p, none⟩ (.int .i64 (z : Int))).drew R3 (0, 0) := HX4.out.grown (row := some gE) (grown_drew (only_setCell (p := ⟨gE, p, none⟩) (World.grownBy.refl W4 _) (.inl rfl) _)) (fun e9 => by have := Option.some.inj e9; omega)
  clear cy fy d0 d1 dp0 dp1 dq0 dq1 hk5
  generalize (W4.setCell ⟨gE, p, none⟩ (.int .i64 (z : Int))).drew = W5 at *
  have HX5 := Lib.hid hX5
  have HC := Lib.hid (And.intro e0 e1)
  obtain ⟨r0, r1, r2, r3⟩ := hX5
  clear e0 e1
  go_wp2_with fail
  (try simp only [Exit.inBlock, Exit.then])
  refine bodyPost_ret (v := valS ((p : Int), (z : Int))) (res_span rfl _ _ R3 ((p : Int), (z : Int)) rfl (HX5.out.put _ _)) rfl ⟨rfl, ?_, ?_⟩
  · have far : ∀ k, k ≠ R3 → ((W5.setCell ⟨R3, 0, none⟩ (.int .i64 (p : Int))).setCell ⟨R3, 1, none⟩ (.int .i64 (z : Int))).heap[k]? = W5.heap[k]? := fun k hk => (heap_setCell_far hk _ _).trans (heap_setCell_far hk _ _)
    have hkf : Kept W5 ((W5.setCell ⟨R3, 0, none⟩ (.int .i64 (p : Int))).setCell ⟨R3, 1, none⟩ (.int .i64 (z : Int))) [R3] := ((Kept.refl W5 [R3]).set (.inl (List.mem_singleton_self _)) _ _).set (.inl (List.mem_singleton_self _)) _ _
    exact ⟨hkf.cell HC.out.1 (by simp; omega), hkf.cell HC.out.2 (by simp; omega), (far gA (by omega)).trans HA5.out, (far gE (by omega)).trans HE5.out, by rw [List.length_set]; exact HS.out.lA, by rw [List.length_set]; exact HS.out.lE, HS.out.ne1, HS.out.ne2, HS.out.ne3⟩
  · exact (HK5.out.set (.inr (by rw [HR1.out]; omega)) _ _).set (.inr (by rw [HR1.out]; omega)) _ _
end Go.Proofs.Ytmgoakfnmgngoaa
/- A map of spans that the call itself has made, as a function of the place: looked up, stored, deleted. -/
namespace Go.Proofs.Ytmgoakfnmgngoaa
open Go.RowKit

def spanD (s : Sp) : DataW Unit := .agg [.lit (.int .i64 s.1), .lit (.int .i64 s.2)]
/-- How a span in a map reads. -/
def spanElem : Value → Option (DataW Unit × List MemPlace)
  | .agg ⟨[.int .i64 a, .int .i64 b]⟩ => some (spanD (a, b), [])
  | _ => none
theorem spanElem_mk (s : Sp) : spanElem (valS s) = some (spanD s, []) := rfl
theorem spanElem_inv {v : Value} {z : DataW Unit × List MemPlace} (h : spanElem v = some z) : ∃ s : Sp, v = valS s ∧ z = (spanD s, []) := by
  unfold spanElem at h
  split at h
  · rename_i a b
    exact ⟨(a, b), rfl, (Option.some.inj h).symm⟩
  · simp at h
theorem spanD_inj {s t : Sp} (h : spanD s = spanD t) : s = t := by
  unfold spanD at h
  simp only [DataW.agg.injEq, List.cons.injEq, DataW.lit.injEq, Lit.int.injEq, true_and, and_true] at h
  exact Prod.ext h.1 h.2
theorem key_wf {k : Nat} (h : k ≤ 100000000) : (Lit.int .i64 (k : Int)).wf = true := by
  simp [Lit.wf, IntKind.min, IntKind.max, IntKind.signed, IntKind.bits]; omega
/-- How many places below n have a span. -/
def cntM (M : Nat → Option Sp) : Nat → Nat
  | 0 => 0
  | n + 1 => cntM M n + (if (M n).isSome = true then 1 else 0)
theorem cntM_le (M : Nat → Option Sp) (n : Nat) : cntM M n ≤ n := by
  induction n with
  | zero => exact Nat.le_refl _
  | succ n ih => unfold cntM; split <;> omega
def putM (M : Nat → Option Sp) (k : Nat) (s : Sp) : Nat → Option Sp := fun j => if j = k then some s else M j
def delM (M : Nat → Option Sp) (k : Nat) : Nat → Option Sp := fun j => if j = k then none else M j
theorem cntM_far {M N : Nat → Option Sp} {n : Nat} (h : ∀ j, j < n → M j = N j) : cntM M n = cntM N n := by
  induction n with
  | zero => rfl
  | succ n ih => unfold cntM; rw [ih (fun j hj => h j (by omega)), h n (by omega)]
theorem cntM_put {M : Nat → Option Sp} {n k : Nat} (hk : k < n) (s : Sp) : cntM (putM M k s) n = if (M k).isSome = true then cntM M n else cntM M n + 1 := by
  induction n with
  | zero => omega
  | succ n ih =>
    by_cases e : k = n
    · subst e
      unfold cntM
      rw [cntM_far (M := putM M k s) (N := M) (fun j hj => if_neg (by omega)), show putM M k s k = some s from if_pos rfl]
      cases hm : (M k).isSome <;> simp
    · have h1 := ih (by omega)
      unfold cntM
      rw [h1, show putM M k s n = M n from if_neg (fun h => e h.symm)]
      cases hm : (M k).isSome <;> simp <;> omega
theorem cntM_del {M : Nat → Option Sp} {n k : Nat} (hk : k < n) : cntM (delM M k) n + (if (M k).isSome = true then 1 else 0) = cntM M n := by
  induction n with
  | zero => omega
  | succ n ih =>
    by_cases e : k = n
    · subst e
      unfold cntM
      rw [cntM_far (M := delM M k) (N := M) (fun j hj => if_neg (by omega)), show delM M k k = none from if_pos rfl]
      simp
    · have h1 := ih (by omega)
      unfold cntM
      rw [show delM M k n = M n from if_neg (fun h => e h.symm)]
      omega
/-- Block m is a map of places below n that has these spans. -/
def MapAt (w : World) (m n : Nat) (M : Nat → Option Sp) : Prop :=
  (∃ D : DataW Unit, w.ownsMap Try.prog 3 spanElem m n D ∧ Maps.size D = cntM M n ∧ ∀ k : Nat, Maps.has D (.int .i64 (k : Int)) = (M k).isSome ∧ D.atKey (.int .i64 (k : Int)) (spanD (0, 0)) = spanD ((M k).getD (0, 0)))
section
variable {w w' : World} {m n : Nat} {M : Nat → Option Sp}
theorem MapAt.drew (h : MapAt w m n M) : MapAt w.drew m n M := h
theorem MapAt.lt (h : MapAt w m n M) : m < w.heap.size := by obtain ⟨D, h, _⟩ := h; exact h.lt
theorem MapAt.heap (h : MapAt w m n M) (he : w'.heap[m]? = w.heap[m]?) : MapAt w' m n M := by
  obtain ⟨D, ⟨es, clock, h1, h2, h3, h4⟩, h5⟩ := h
  exact ⟨D, ⟨es, clock, he.trans h1, h2, h3, h4⟩, h5⟩
theorem MapAt.kept {S : List Nat} (h : MapAt w m n M) (hk : Kept w w' S) (hs : m ∉ S) : MapAt w' m n M := h.heap (hk.block m h.lt hs)
theorem fit_none : WideElems.Fit Try.prog 3 spanElem #[] 0 := by
  obtain ⟨es, clock, h1, h2, _⟩ := World.ownsMap_made (default : World) Try.prog 3 spanElem
  rw [heap_alloc_new] at h1
  injection h1 with h1
  injection h1 with h1 h3
  subst h1 h3
  exact h2
theorem cntM_none (n : Nat) : cntM (fun _ => none) n = 0 := by
  induction n with
  | zero => rfl
  | succ n ih => unfold cntM; rw [ih]; rfl
theorem MapAt.none_ (h : w.heap[m]? = some (.map #[] 0)) (n : Nat) : MapAt w m n (fun _ => none) :=
  ⟨.map [], ⟨#[], 0, h, fit_none, Nat.zero_le _, by simp⟩, by rw [cntM_none]; rfl, fun k => ⟨rfl, rfl⟩⟩
theorem own_fit {k : TypeId} {R : Value → Option (DataW Unit × List MemPlace)} {b c : Nat} {D : DataW Unit} (h : w.ownsMap Try.prog k R b c D) {c' : Nat} (hc : Maps.size D ≤ c') : w.ownsMap Try.prog k R b c' D := by
  obtain ⟨es, clock, h1, h2, h3, rfl⟩ := h
  refine ⟨es, clock, h1, h2, ?_, rfl⟩
  have := length_read (P := Try.prog) (k := k) (R0 := R) es
  unfold Maps.size at hc
  simp only [this] at hc
  exact hc
theorem int_map : Maps.Keyed Try.prog 3 := Maps.int_keyed Try.underlying3
theorem map_type : Try.prog.underlying 115 = some (.map 3 31) := Try.underlying115
theorem span_zero (w : World) : (zeroValue 31).run Try.prog w = .ok (valS (0, 0)) w := Try.zeroValue31 w
theorem MapAt.look (h : MapAt w m n M) {k : Nat} (hk : k ≤ 100000000) : (Instr.lookup 115 (.map (some m)) (.int .i64 (k : Int)) false).run Try.prog w = .ok (valS ((M k).getD (0, 0))) w := by
  obtain ⟨D, h1, _, h2⟩ := h
  obtain ⟨v, ps, hrun, hv⟩ := h1.lookup int_map map_type (span_zero w) (spanElem_mk (0, 0)) (Maps.keyOf_int_mk Try.underlying3 (key_wf hk))
  obtain ⟨s, rfl, hz⟩ := spanElem_inv hv
  rw [(h2 k).2] at hz
  rw [hrun, spanD_inj (congrArg Prod.fst hz)]
theorem MapAt.look_ok (h : MapAt w m n M) {k : Nat} (hk : k ≤ 100000000) : (Instr.lookup 115 (.map (some m)) (.int .i64 (k : Int)) true).run Try.prog w = .ok (.tuple #[valS ((M k).getD (0, 0)), .bool (M k).isSome]) w := by
  obtain ⟨D, h1, _, h2⟩ := h
  obtain ⟨v, ps, hrun, hv⟩ := h1.look_ok int_map map_type (span_zero w) (spanElem_mk (0, 0)) (Maps.keyOf_int_mk Try.underlying3 (key_wf hk))
  obtain ⟨s, rfl, hz⟩ := spanElem_inv hv
  rw [(h2 k).2] at hz
  rw [hrun, (h2 k).1, spanD_inj (congrArg Prod.fst hz)]
set_option maxRecDepth 100000 in
theorem MapAt.store (h : MapAt w m n M) {k : Nat} (hk : k < n) (hc : n ≤ 100000000) (s : Sp) : ∃ w', (Instr.mapUpdate 115 (.map (some m)) (.int .i64 (k : Int)) (valS s)).run Try.prog w = .ok () w' ∧ MapAt w' m n (putM M k s) ∧ w.mapTurned w' m := by
  obtain ⟨D, h1, hsz, h2⟩ := h
  have hl : WideAt.IsKeyLit (.int .i64 (k : Int)) := trivial
  have htd := h1.tidy int_map
  obtain ⟨w', hrun, h3, h4⟩ := h1.store int_map map_type (by unfold maxLen; omega) (Maps.keyOf_int_mk Try.underlying3 (key_wf (k := k) (by omega))) (spanElem_mk s)
  have hsz2 : Maps.size (D.put (.int .i64 (k : Int)) (spanD s)) = cntM (putM M k s) n := by
    rw [Maps.size_put htd, (h2 k).1, hsz, cntM_put hk]
  refine ⟨w', hrun, ⟨_, own_fit h3 (by rw [hsz2]; exact cntM_le _ _), hsz2, fun j => ?_⟩, h4⟩
  unfold putM
  by_cases e : j = k
  · subst e
    rw [if_pos rfl]
    exact ⟨Maps.has_put_same h1.isMap hl _, Maps.atKey_put_same h1.isMap hl _ _⟩
  · rw [if_neg e]
    have hne : (Lit.int .i64 (j : Int)) ≠ .int .i64 (k : Int) := fun e9 => e (by have := (Lit.int.inj e9).2; omega)
    exact ⟨(Maps.has_put_other hne _).trans (h2 j).1, (Maps.atKey_put_other hne _ _).trans (h2 j).2⟩
set_option maxRecDepth 100000 in
theorem MapAt.drop (h : MapAt w m n M) {k : Nat} (hk : k < n) (hc : n ≤ 100000000) (ty : TypeId) : ∃ w', (Builtin.delete_ #[115, 3] ty #[.map (some m), .int .i64 (k : Int)]).run Try.prog w = .ok (.tuple #[]) w' ∧ MapAt w' m n (delM M k) ∧ w.mapTurned w' m := by
  obtain ⟨D, h1, hsz, h2⟩ := h
  have htd := h1.tidy int_map
  obtain ⟨w', hrun, h3, h4⟩ := h1.drop int_map map_type (Maps.keyOf_int_mk Try.underlying3 (key_wf (k := k) (by omega))) ty
  have hsz2 : Maps.size (D.del (.int .i64 (k : Int))) = cntM (delM M k) n := by
    have e1 := Maps.size_del (k := .int .i64 (k : Int)) htd
    have e2 := cntM_del (M := M) hk
    rw [(h2 k).1] at e1
    omega
  refine ⟨w', hrun, ⟨_, h3, hsz2, fun j => ?_⟩, h4⟩
  unfold delM
  by_cases e : j = k
  · subst e
    rw [if_pos rfl]
    exact ⟨Maps.has_del_same, Maps.atKey_del_same _⟩
  · rw [if_neg e]
    have hne : (Lit.int .i64 (j : Int)) ≠ .int .i64 (k : Int) := fun e9 => e (by have := (Lit.int.inj e9).2; omega)
    exact ⟨(Maps.has_del_other hne).trans (h2 j).1, (Maps.atKey_del_other hne _).trans (h2 j).2⟩
theorem kept_turned (h : w.mapTurned w' m) : Kept w w' [m] := Kept.of_grown h.grown (List.mem_singleton_self _)
end
end Go.Proofs.Ytmgoakfnmgngoaa
/- The hull of spans, as plain mathematics. -/
namespace Go.Proofs.Ytmgoakfnmgngoaa
open Go.RowKit
/-- The span around two. -/
def hullMore (st s : Sp) : Sp := (if s.1 < st.1 then s.1 else st.1, if st.2 < s.2 then s.2 else st.2)
def hullStep (st s : Sp) : Sp := if rightB s = true then hullMore (if rightB st = true then st else s) s else st
def hullS (l : List Sp) : Sp := l.foldl hullStep (0, 0)
end Go.Proofs.Ytmgoakfnmgngoaa
/- The reference's least and same, on a row of numbers of the caller's own. -/
namespace Go.Proofs.Ytmgoakfnmgngoaa
open Go.RowKit

/-- All from lo on, below k, is v. -/
def setTo (xs : List Int) (lo k : Nat) (v : Int) : List Int := xs.take lo ++ List.replicate (k - lo) v ++ xs.drop k
theorem setTo_len {xs : List Int} {lo k : Nat} (v : Int) (h : lo ≤ k) (hk : k ≤ xs.length) : (setTo xs lo k v).length = xs.length := by
  simp [setTo]; omega
theorem setTo_start (xs : List Int) (lo : Nat) (v : Int) : setTo xs lo lo v = xs := by simp [setTo]
theorem setTo_at {xs : List Int} {lo k : Nat} {x : Int} (v : Int) (h : lo ≤ k) (hx : xs[k]? = some x) : (setTo xs lo k v)[k]? = some x := by
  have hk := (List.getElem?_eq_some_iff.1 hx).1
  have hl : (xs.take lo ++ List.replicate (k - lo) v).length = k := by simp; omega
  unfold setTo
  rw [List.getElem?_append_right (by omega), hl, List.getElem?_drop]
  simpa using hx
theorem setTo_step {xs : List Int} {lo k : Nat} {x : Int} (v : Int) (h : lo ≤ k) (hx : xs[k]? = some x) : (setTo xs lo k v).set k v = setTo xs lo (k + 1) v := by
  have hk := (List.getElem?_eq_some_iff.1 hx).1
  have hl : (xs.take lo ++ List.replicate (k - lo) v).length = k := by simp; omega
  unfold setTo
  rw [List.set_append_right _ _ (by omega), hl, dropCons hx]
  have e : k + 1 - lo = (k - lo) + 1 := by omega
  rw [e, List.replicate_succ']
  simp
theorem setTo_same {xs : List Int} {lo k : Nat} {v : Int} (h : lo ≤ k) (hx : xs[k]? = some v) : setTo xs lo (k + 1) v = setTo xs lo k v := by
  rw [← setTo_step v h hx]
  exact List.set_getElem?_self' (setTo_at v h hx)
where
  List.set_getElem?_self' {l : List Int} {k : Nat} {v : Int} (h : l[k]? = some v) : l.set k v = l := by
    apply List.ext_getElem?
    intro i
    rw [List.getElem?_set]
    split
    · rename_i e; subst e
      have hk := (List.getElem?_eq_some_iff.1 h).1
      rw [if_pos hk]
      exact h.symm
    · rfl
theorem grown_two {a b c : World} {row : Option Nat} (h : a.grownBy b row) (k : b.grownBy c row) : a.grownBy c row :=
  ⟨k.os.trans h.os, k.tape.trans h.tape, k.output.trans h.output, Nat.le_trans h.size k.size, fun i hi hne => (k.block i (Nat.lt_of_lt_of_le hi h.size) hne).trans (h.block i hi hne)⟩
/-- Whether something from lo on, below k, is not v. -/
def changedB (xs : List Int) (lo k : Nat) (v : Int) : Bool := ((xs.drop lo).take (k - lo)).any fun x => x != v
theorem changedB_step {xs : List Int} {lo k : Nat} {x : Int} (v : Int) (h : lo ≤ k) (hx : xs[k]? = some x) : changedB xs lo (k + 1) v = (changedB xs lo k v || (x != v)) := by
  unfold changedB
  have e : k + 1 - lo = (k - lo) + 1 := by omega
  have hd : (xs.drop lo)[k - lo]? = some x := by rw [List.getElem?_drop, show lo + (k - lo) = k by omega]; exact hx
  rw [e, List.take_add_one, hd, List.any_append]
  simp

set_option maxRecDepth 100000 in
set_option maxHeartbeats 2000000 in
theorem refSame_any (base g c n lo hi : Nat) (xs : List Int) (v : Int) (w : World) (hxn : xs.length = n) (hown : w.ownsRow base 3 1 (.slice (some ⟨g, 0, none⟩) n c) n (xs.map (Value.int .i64))) (hbase : base ≤ w.heap.size) (hlh : lo ≤ hi) (hhn : hi ≤ n) (hn : n ≤ 100000000) :
    Calls Try.prog 84 #[.slice (some ⟨g, 0, none⟩) n c, .agg #[.int .i64 (lo : Int), .int .i64 (hi : Int)], .int .i64 v] w fun e w' =>
      e = .returned (.bool (changedB xs lo hi v)) ∧ w'.ownsRow base 3 1 (.slice (some ⟨g, 0, none⟩) n c) n ((setTo xs lo hi v).map (Value.int .i64)) ∧ w.grownBy w' (some g) := by
  have HL := Lib.hid hxn
  clear hxn
  go_enter Try.func84, Try.ntmps84
  go_wp2
  go_loopw [7, 8] (fun b i wr => ∃ k : Nat, lo ≤ k ∧ k ≤ hi ∧ i = .int .i64 k ∧ b = .bool (changedB xs lo k v) ∧ wr.ownsRow base 3 1 (.slice (some ⟨g, 0, none⟩) n c) n ((setTo xs lo k v).map (Value.int .i64)) ∧ wr.cell? ⟨w.heap.size, 1, none⟩ = some (.int .i64 (hi : Int)) ∧ w.grownBy wr (some g) ∧ g < w.heap.size) (fun _ i _ => hi - (intOf i).toNat)
  case atStart =>
    refine ⟨lo, Nat.le_refl _, hlh, rfl, by simp [changedB], by rw [setTo_start]; exact hown.alloc _, by rw [World.cell?_alloc_at _ _ _ _ rfl]; rfl, World.grownBy_alloc _ _ _, (hown.lt g rfl).2⟩
  case round =>
    obtain ⟨k, hlk, hkh, rfl, rfl, hownr, hcb, hgr, hglt⟩ := hrel
    by_cases hlt : k < hi
    · obtain ⟨x, hxk⟩ : ∃ x, xs[k]? = some x := ⟨_, List.getElem?_eq_getElem (by rw [HL.out]; omega)⟩
      have hcx : wr.cell? ⟨g, k, none⟩ = some (.int .i64 x) := by
        rw [hownr.cellAt k (by omega), List.getElem?_map, setTo_at v hlk hxk]; rfl
      have hfx := hownr.frozenAt k
      have HC := Lib.hid (changedB_step v hlk hxk)
      by_cases he : x = v
      · subst he
        have HS := Lib.hid (setTo_same hlk hxk)
        clear hxk
        have HC2 := Lib.hid (show changedB xs lo (k + 1) x = changedB xs lo k x by rw [HC.out]; simp)
        go_wp2
        go_roundw
        case rel => exact ⟨k + 1, by omega, by omega, by go_num, by rw [HC2.out], by rw [HS.out]; exact hownr, hcb, hgr, hglt⟩
        case measure => simp [intOf]; omega
      · have hne : (x != v) = true := by simpa using he
        have hne2 : (x == v) = false := by simpa using he
        have HC2 := Lib.hid (show changedB xs lo (k + 1) v = true by rw [HC.out, hne]; simp)
        have HS := Lib.hid (setTo_step v hlk hxk)
        have hst := hownr.stored k (.int .i64 v)
        rw [← List.map_set] at hst
        have hcb2 : (wr.setCell ⟨g, k, none⟩ (.int .i64 v)).cell? ⟨w.heap.size, 1, none⟩ = some (.int .i64 (hi : Int)) := (World.cell?_setCell_other (h := by first | (simp; done) | (simp; omega)) ..).trans hcb
        have HST := Lib.hid hst
        clear hxk he hst
        go_wp2
        go_roundw
        case rel => exact ⟨k + 1, by omega, by omega, by go_num, by rw [HC2.out], by rw [← HS.out]; exact HST.out.1, hcb2, grown_two hgr HST.out.2, hglt⟩
        case measure => simp [intOf]; omega
    · have HK := Lib.hid (show k = hi by omega)
      go_wp2
      go_ret
      exact ⟨retB (by rw [HK.out]), by rw [← HK.out]; exact hownr, hgr⟩
end Go.Proofs.Ytmgoakfnmgngoaa
/- The reference's least of the numbers of a span, and the hull of a number. -/
namespace Go.Proofs.Ytmgoakfnmgngoaa
open Go.RowKit

def leastStep (n x : Int) : Int := if x < n then x else n
def leastS (xs : List Int) (lo hi : Nat) : Int := ((xs.drop lo).take (hi - lo)).foldl leastStep (xs.getD lo 0)
theorem takeCons {xs : List Int} {k hi : Nat} {x : Int} (h : xs[k]? = some x) (hk : k < hi) : (xs.drop k).take (hi - k) = x :: (xs.drop (k + 1)).take (hi - (k + 1)) := by
  rw [dropCons h, show hi - k = (hi - (k + 1)) + 1 by omega, List.take_succ_cons]

set_option maxRecDepth 100000 in
set_option maxHeartbeats 1000000 in
theorem refLeast_any (A : Option Addr) (n c lo hi : Nat) (xs : List Int) (w : World) (hr : Rd w 1 A n (xs.map (Value.int .i64))) (hlt : lo < n) (hhn : hi ≤ n) (hn : n ≤ 100000000) :
    Calls Try.prog 83 #[.slice A n c, .agg #[.int .i64 (lo : Int), .int .i64 (hi : Int)]] w fun e w' => e = .returned (.int .i64 (leastS xs lo hi)) ∧ Below w.heap.size w w' := by
  have hlen : xs.length = n := by have := hr.1; rw [List.length_map] at this; omega
  have HL := Lib.hid hlen
  clear hlen
  obtain ⟨x0, hx0⟩ : ∃ x, xs[lo]? = some x := ⟨_, List.getElem?_eq_getElem (by rw [HL.out]; exact hlt)⟩
  obtain ⟨ad, rfl, hab, hc0⟩ := hr.at_ hlt
  have c0 : w.cell? (ad.add lo) = some (.int .i64 x0) := hc0 _ (by rw [List.getElem?_map, hx0]; rfl)
  have HS := Lib.hid (show leastS xs lo hi = ((xs.drop lo).take (hi - lo)).foldl leastStep x0 by unfold leastS; rw [List.getD_eq_getElem?_getD, hx0]; rfl)
  clear hx0 hc0
  have hba : Below w.heap.size w (w.alloc (Obj.cells #[.int .i64 (lo : Int), .int .i64 (hi : Int)] 31)) := (Below.refl _ _).alloc (Nat.le_refl _) _
  have c0a := (hba.cell (by rw [blockAdd]; exact hab)).trans c0
  go_enter Try.func83, Try.ntmps83
  go_wp2
  go_loop [5, 6] (fun y i => ∃ (k : Nat) (y' : Int), lo ≤ k ∧ (k ≤ hi ∨ k = lo) ∧ i = .int .i64 k ∧ y = .int .i64 y' ∧ leastS xs lo hi = ((xs.drop k).take (hi - k)).foldl leastStep y') (fun _ i => hi - (intOf i).toNat)
  case atStart => exact ⟨lo, x0, Nat.le_refl _, .inr rfl, rfl, rfl, HS.out⟩
  case round =>
    obtain ⟨k, y, hlk, hk, rfl, rfl, hh⟩ := hrel
    have HH := Lib.hid hh
    clear hh
    by_cases hlt : k < hi
    · obtain ⟨x, hxk⟩ : ∃ x, xs[k]? = some x := ⟨_, List.getElem?_eq_getElem (by rw [HL.out]; omega)⟩
      have HD := Lib.hid (takeCons hxk hlt)
      obtain ⟨ad', e', _, hck⟩ := hr.at_ (k := k) (by omega)
      injection e' with e'
      subst e'
      have ck : w.cell? (ad.add k) = some (.int .i64 x) := hck _ (by rw [List.getElem?_map, hxk]; rfl)
      have cka := (hba.cell (by rw [blockAdd]; exact hab)).trans ck
      clear hxk hck
      go_wp2
      all_goals
        go_round
        case rel => exact ⟨k + 1, leastStep y x, by omega, .inl (by omega), by go_num, by first | rfl | (simp only [leastStep]; first | rw [if_pos ‹_›] | rw [if_neg ‹_›] | rw [if_neg (by omega)]), by rw [HH.out, HD.out]; rfl⟩
        case measure => simp [intOf]; omega
    · have HZ := Lib.hid (show leastS xs lo hi = y by rw [HH.out, show hi - k = 0 by omega]; rfl)
      go_wp2
      go_ret
      exact ⟨retI HZ.out.symm, hba⟩
end Go.Proofs.Ytmgoakfnmgngoaa
/- The reference's hull of a number. -/
namespace Go.Proofs.Ytmgoakfnmgngoaa
open Go.RowKit

/-- From the first place with a number to behind the last one. -/
def hullFrom (v : Int) : List Int → Nat → Sp → Sp
  | [], _, st => st
  | x :: l, k, st => hullFrom v l (k + 1) (if (x == v) = true then (if (st.2 == 0) = true then (k : Int) else st.1, (k : Int) + 1) else st)
def hullN (xs : List Int) (v : Int) : Sp := hullFrom v xs 0 (0, 0)
theorem hullFrom_no {v x : Int} {l : List Int} {k : Nat} {st : Sp} (h : (x == v) = false) : hullFrom v (x :: l) k st = hullFrom v l (k + 1) st := by
  rw [hullFrom, if_neg (by rw [h]; decide)]
theorem hullFrom_first {v x a b : Int} {l : List Int} {k : Nat} (h : (x == v) = true) (hb : (b == 0) = true) : hullFrom v (x :: l) k (a, b) = hullFrom v l (k + 1) (k, (k : Int) + 1) := by
  rw [hullFrom, if_pos h, if_pos hb]
theorem hullFrom_more {v x a b : Int} {l : List Int} {k : Nat} (h : (x == v) = true) (hb : (b == 0) = false) : hullFrom v (x :: l) k (a, b) = hullFrom v l (k + 1) (a, (k : Int) + 1) := by
  rw [hullFrom, if_pos h, if_neg (by simp only [hb]; decide)]
theorem SpanBlk.put1 {w : World} {b : Nat} {s : Sp} (h : SpanBlk w b s) (y : Int) : SpanBlk (w.setCell ⟨b, 1, none⟩ (.int .i64 y)) b (s.1, y) := by
  obtain ⟨h0, h1, h2, h3⟩ := h
  refine ⟨?_, World.cell?_setCell_same (h := h1) .., ?_, ?_⟩
  · exact (World.cell?_setCell_other (h := by simp) ..).trans h0
  · rw [World.frozen?_setCell]; exact h2
  · rw [World.frozen?_setCell]; exact h3
theorem SpanBlk.far1 {w : World} {b b' : Nat} {s : Sp} (h : SpanBlk w b s) (hne : b ≠ b') (v : Value) : SpanBlk (w.setCell ⟨b', 1, none⟩ v) b s := by
  obtain ⟨h0, h1, h2, h3⟩ := h
  refine ⟨?_, ?_, ?_, ?_⟩
  · exact (World.cell?_setCell_other (h := by first | (simp; done) | (simp; omega)) ..).trans h0
  · exact (World.cell?_setCell_other (h := by first | (simp; done) | (simp; omega)) ..).trans h1
  · rw [World.frozen?_setCell]; exact h2
  · rw [World.frozen?_setCell]; exact h3

set_option maxRecDepth 100000 in
set_option maxHeartbeats 2000000 in
theorem refHullN_any (A : Option Addr) (n c : Nat) (xs : List Int) (v : Int) (w : World) (hr : Rd w 1 A n (xs.map (Value.int .i64))) (hn : n ≤ 100000000) :
    Calls Try.prog 55 #[.slice A n c, .int .i64 v] w fun e w' => e = .returned (.agg #[.int .i64 (hullN xs v).1, .int .i64 (hullN xs v).2]) ∧ Below w.heap.size w w' := by
  have hlen : xs.length = n := by have := hr.1; rw [List.length_map] at this; omega
  have HL := Lib.hid hlen
  clear hlen
  go_enter Try.func55, Try.ntmps55
  go_wp2
  go_loopw [6] (fun i wr => ∃ (k : Nat) (st : Sp), k ≤ n ∧ i = .int .i64 k ∧ hullN xs v = hullFrom v (xs.drop k) k st ∧ SpanBlk wr w.heap.size (0, 0) ∧ SpanBlk wr (w.heap.size + 1) st ∧ w.heap.size + 1 < wr.heap.size ∧ Below w.heap.size w wr) (fun i _ => n - (intOf i).toNat)
  case atStart =>
    refine ⟨0, (0, 0), Nat.zero_le _, rfl, rfl, ?_, ?_, by simp, ((Below.refl _ _).alloc (Nat.le_refl _) _).alloc (by simp) _⟩
    · refine ⟨?_, ?_, ?_, ?_⟩ <;> simp [go_sem]
    · refine ⟨?_, ?_, ?_, ?_⟩ <;> simp [go_sem]
  case round =>
    obtain ⟨k, st, hk, rfl, hh, ⟨r0, r1, r2, r3⟩, ⟨t0, t1, t2, t3⟩, hsz, hb⟩ := hrel
    have HH := Lib.hid hh
    clear hh
    by_cases hlt : k < n
    · obtain ⟨s, hsk⟩ : ∃ s, xs[k]? = some s := ⟨_, List.getElem?_eq_getElem (by rw [HL.out]; exact hlt)⟩
      have HD := Lib.hid (dropCons hsk)
      obtain ⟨ad, rfl, hab, hck⟩ := hr.at_ hlt
      have ck := (hb.cell (by rw [blockAdd]; exact hab)).trans (hck (.int .i64 s) (by rw [List.getElem?_map, hsk]; rfl))
      clear hsk hck
      obtain ⟨x, y⟩ := st
      simp only at r0 r1 t0 t1
      cases he : s == v with
      | false =>
        have HS := Lib.hid (hullFrom_no (l := xs.drop (k + 1)) (k := k) (st := (x, y)) he)
        go_wp2
        go_roundw
        case rel => exact ⟨k + 1, (x, y), by omega, by go_num, by rw [HH.out, HD.out, HS.out], ⟨r0, r1, r2, r3⟩, ⟨t0, t1, t2, t3⟩, hsz, hb⟩
        case measure => simp [intOf]; omega
      | true =>
        have B0 : SpanBlk wr w.heap.size (0, 0) := ⟨r0, r1, r2, r3⟩
        have B1 : SpanBlk wr (w.heap.size + 1) (x, y) := ⟨t0, t1, t2, t3⟩
        cases hy : y == 0 with
        | false =>
          have HS := Lib.hid (hullFrom_more (a := x) (l := xs.drop (k + 1)) (k := k) he hy)
          have HP := Lib.hid (B1.put1 ((k : Int) + 1))
          have HF := Lib.hid (B0.far1 (b' := w.heap.size + 1) (by omega) (.int .i64 ((k : Int) + 1)))
          have hbe := hb.setCell (p := ⟨w.heap.size + 1, 1, none⟩) (by simp) (.int .i64 ((k : Int) + 1))
          clear B0 B1
          go_wp2
          go_roundw
          case rel => exact ⟨k + 1, (x, (k : Int) + 1), by omega, by go_num, by rw [HH.out, HD.out, HS.out], HF.out, HP.out, by simpa [World.setCell] using hsz, hbe⟩
          case measure => simp [intOf]; omega
        | true =>
          have HS := Lib.hid (hullFrom_first (a := x) (l := xs.drop (k + 1)) (k := k) he hy)
          have HP := Lib.hid (B1.put (k : Int) ((k : Int) + 1))
          have HF := Lib.hid (B0.far (b' := w.heap.size + 1) (by omega) (.int .i64 (k : Int)) (.int .i64 ((k : Int) + 1)))
          have hbe := (hb.setCell (p := ⟨w.heap.size + 1, 0, none⟩) (by simp) (.int .i64 (k : Int))).setCell (p := ⟨w.heap.size + 1, 1, none⟩) (by simp) (.int .i64 ((k : Int) + 1))
          clear B0 B1
          go_wp2
          go_roundw
          case rel => exact ⟨k + 1, (k, (k : Int) + 1), by omega, by go_num, by rw [HH.out, HD.out, HS.out], HF.out, HP.out, by simpa [World.setCell] using hsz, hbe⟩
          case measure => simp [intOf]; omega
    · have HZ := Lib.hid (show hullN xs v = st by rw [HH.out, List.drop_eq_nil_of_le (by rw [HL.out]; omega)]; rfl)
      obtain ⟨x, y⟩ := st
      simp only at r0 r1 t0 t1
      have hbe := (hb.setCell (p := ⟨w.heap.size, 0, none⟩) (Nat.le_refl _) (.int .i64 x)).setCell (p := ⟨w.heap.size, 1, none⟩) (Nat.le_refl _) (.int .i64 y)
      have HR := Lib.hid (SpanBlk.put (w := wr) (b := w.heap.size) (s := (0, 0)) ⟨r0, r1, r2, r3⟩ x y)
      go_wp2
      generalize ((wr.setCell ⟨w.heap.size, 0, none⟩ (.int .i64 x)).setCell ⟨w.heap.size, 1, none⟩ (.int .i64 y)) = w5 at *
      obtain ⟨u0, u1, _, _⟩ := HR.out
      simp only at u0 u1
      exact bodyPost_ret (v := .agg #[.int .i64 x, .int .i64 y]) (by simp [results, Try.results55, go_sem, u0, u1]) rfl ⟨by rw [HZ.out], hbe⟩
end Go.Proofs.Ytmgoakfnmgngoaa
/- prRight_any. -/
namespace Go.Proofs.Ytmgoakfnmgngoaa
open Go.RowKit

theorem prRight_any (lo hi : Int) (w : World) :
    Calls Try.prog 69 #[.agg #[.int .i64 lo, .int .i64 hi]] w fun e w' => e = .returned (.bool (rightB (lo, hi))) ∧ Below w.heap.size w w' := by
  have hc : lo < 0 ∨ (0 ≤ lo ∧ lo < hi) ∨ (0 ≤ lo ∧ hi ≤ lo) := by omega
  rcases hc with h | ⟨h, h'⟩ | ⟨h, h'⟩ <;>
    (go_enter Try.func69, Try.ntmps69
     go_wp2
     go_ret
     refine ⟨retB ?_, below_new _ _⟩
     simp [rightB]
     try omega)

end Go.Proofs.Ytmgoakfnmgngoaa
/- The project's Parts of spans. -/
namespace Go.Proofs.Ytmgoakfnmgngoaa
open Go.RowKit

set_option maxRecDepth 100000 in
set_option maxHeartbeats 1000000 in
theorem prParts_any (A : Option Addr) (n c : Nat) (l : List Sp) (m : Int) (w : World) (hr : Rd w 2 A n (cellsS l)) (hn : n ≤ maxLen) :
    Calls Try.prog 42 #[.slice A n c, .int .i64 m] w fun e w' => e = .returned (.bool (partsS l m)) ∧ Below w.heap.size w w' := by
  have hlen : l.length = n := by have := hr.1; rw [cellsS_len] at this; omega
  have HL := Lib.hid hlen
  clear hlen
  unfold maxLen at hn
  go_enter Try.func42, Try.ntmps42
  go_wp2
  go_loopw [5, 10] (fun e i wr => ∃ (k : Nat) (x : Int), k ≤ n ∧ i = .int .i64 k ∧ e = .int .i64 x ∧ partsS l m = partsFrom x (l.drop k) m ∧ Below w.heap.size w wr) (fun _ i _ => n - (intOf i).toNat)
  case atStart => exact ⟨0, 0, Nat.zero_le _, rfl, rfl, rfl, Below.refl _ _⟩
  case round =>
    obtain ⟨k, x, hk, rfl, rfl, hp, hb⟩ := hrel
    have HP := Lib.hid hp
    clear hp
    by_cases hlt : k < n
    · obtain ⟨s, hsk⟩ : ∃ s, l[k]? = some s := ⟨_, List.getElem?_eq_getElem (by rw [HL.out]; exact hlt)⟩
      obtain ⟨ad, rfl, hab, c1, c2⟩ := (hr.below hb).span hsk
      have HD := Lib.hid (dropCons hsk)
      clear hsk
      obtain ⟨lo, hi⟩ := s
      simp only at c1 c2
      go_wp2_with fail
      refine (prRight_any lo hi _).mono ?_
      rintro e w1 ⟨rfl, hb1⟩
      have hb2 := hb.trans ((below_self (below_new wr _) hb1).mono hb.size)
      have d1 : w1.cell? ⟨wr.heap.size, 0, none⟩ = some (.int .i64 lo) := cell_below hb1 (by rw [World.cell?_alloc_at _ _ _ _ rfl]; rfl)
      have d2 : w1.cell? ⟨wr.heap.size, 1, none⟩ = some (.int .i64 hi) := cell_below hb1 (by rw [World.cell?_alloc_at _ _ _ _ rfl]; rfl)
      clear hb1 c1 c2
      cases hr1 : rightB (lo, hi) with
      | false =>
        have HF := Lib.hid (show partsS l m = false by rw [HP.out, HD.out]; exact partsFrom_no (.inl hr1))
        go_wp2
        go_ret
        exact ⟨retB (by simp [HF.out]), hb2⟩
      | true =>
        cases he : (lo == x) with
        | false =>
          have hne : (lo != x) = true := by simpa using he
          have HF := Lib.hid (show partsS l m = false by rw [HP.out, HD.out]; exact partsFrom_no (.inr he))
          go_wp2
          go_ret
          exact ⟨retB (by simp [HF.out]), hb2⟩
        | true =>
          have hne : (lo != x) = false := by simpa using he
          have HF := Lib.hid (show partsS l m = partsFrom hi (l.drop (k + 1)) m by rw [HP.out, HD.out]; exact partsFrom_yes hr1 he)
          go_wp2
          go_roundw
          case rel => exact ⟨k + 1, hi, by omega, by go_num, rfl, HF.out, hb2⟩
          case measure => simp [intOf]; omega
    · have HF := Lib.hid (show partsS l m = (x == m) by rw [HP.out, List.drop_eq_nil_of_le (by rw [HL.out]; omega)]; rfl)
      go_wp2
      go_ret
      exact ⟨retB (by simp [HF.out]), hb⟩
end Go.Proofs.Ytmgoakfnmgngoaa
/- The slice type of spans. -/
namespace Go.Proofs.Ytmgoakfnmgngoaa
open Go.RowKit
theorem spanSlice : SliceOf Try.prog 55 31 2 16 := .mk_ (z := .agg #[.int .i64 0, .int .i64 0]) Try.underlying55 (by kernel_rfl) rfl
end Go.Proofs.Ytmgoakfnmgngoaa
/- The reference's linked: which places of what goes in are in a link. -/
namespace Go.Proofs.Ytmgoakfnmgngoaa
open Go.RowKit

/-- All from lo on, below k, is true. -/
def fillB (xs : List Bool) (lo k : Nat) : List Bool := xs.take lo ++ List.replicate (k - lo) true ++ xs.drop k
theorem fillB_len {xs : List Bool} {lo k : Nat} (h : lo ≤ k) (hk : k ≤ xs.length) : (fillB xs lo k).length = xs.length := by
  simp [fillB]; omega
theorem fillB_start (xs : List Bool) (lo : Nat) : fillB xs lo lo = xs := by simp [fillB]
theorem fillB_step {xs : List Bool} {lo k : Nat} (h : lo ≤ k) (hk : k < xs.length) : (fillB xs lo k).set k true = fillB xs lo (k + 1) := by
  obtain ⟨x, hx⟩ : ∃ x, xs[k]? = some x := ⟨_, List.getElem?_eq_getElem hk⟩
  have hl : (xs.take lo ++ List.replicate (k - lo) true).length = k := by simp; omega
  unfold fillB
  rw [List.set_append_right _ _ (by omega), hl, dropCons hx]
  have e : k + 1 - lo = (k - lo) + 1 := by omega
  rw [e, List.replicate_succ']
  simp
def linkStep (out : List Bool) (c : Cl) : List Bool := fillB out c.1.1.toNat c.1.2.toNat
def linkedS (n : Nat) (l : List Cl) : List Bool := l.foldl linkStep (List.replicate n false)

set_option maxRecDepth 100000 in
set_option maxHeartbeats 2000000 in
theorem refLinked_any (A : Option Addr) (n m c : Nat) (l : List Cl) (w : World) (hr : Rd w 4 A m (cellsC l)) (hm : m ≤ 200000000) (hn : n ≤ 100000000) (hin : ∀ x ∈ l, ∃ lo hi : Nat, x.1 = ((lo : Int), (hi : Int)) ∧ lo ≤ hi ∧ hi ≤ n) :
    Calls Try.prog 52 #[.int .i64 (n : Int), .slice A m c] w fun e w' => ∃ v, e = .returned v ∧ w'.ownsRow w.heap.size 4 1 v n ((linkedS n l).map Value.bool) ∧ Below w.heap.size w w' := by
  have hlen : l.length = m := by have := hr.1; rw [cellsC_len] at this; omega
  have HL := Lib.hid hlen
  clear hlen
  go_enter Try.func52, Try.ntmps52
  go_wp2_with (at_make; refine wpList_mkFull rfl _ _ _ rfl (base := w.heap.size) (z := .bool false) (bytes := 1) Try.underlying77 (by kernel_rfl) rfl _ _ n rfl rfl rfl rfl (by omega) (by unfold maxLen; omega) (Nat.le_refl _) ?_; intro w0 hown0 hg0)
  have hb0 : Below w.heap.size w w0 := (Below.refl _ _).grown hg0 (Nat.le_refl _) (fun k h => by cases h)
  go_loopw [6] (fun i wr => ∃ (k : Nat) (xs : List Bool), k ≤ m ∧ i = .int .i64 k ∧ linkedS n l = (l.drop k).foldl linkStep xs ∧ xs.length = n ∧ wr.ownsRow w.heap.size 4 1 (.slice (some ⟨w.heap.size, 0, none⟩) n n) n (xs.map Value.bool) ∧ Below w.heap.size w wr) (fun i _ => m - (intOf i).toNat)
  case atStart =>
    exact ⟨0, List.replicate n false, Nat.zero_le _, rfl, rfl, by simp, by rw [List.map_replicate]; exact hown0, hb0⟩
  case round =>
    obtain ⟨k, xs, hk, rfl, hh, hxl, hown, hb⟩ := hrel
    have HH := Lib.hid hh
    have HX := Lib.hid hxl
    clear hh hxl hown0 hg0 hb0
    by_cases hlt : k < m
    · obtain ⟨s, hsk⟩ : ∃ s, l[k]? = some s := ⟨_, List.getElem?_eq_getElem (by rw [HL.out]; exact hlt)⟩
      have HD := Lib.hid (dropCons hsk)
      obtain ⟨lo, hi, hs, hlh, hhn⟩ := hin s (List.mem_of_getElem? hsk)
      obtain ⟨ad, rfl, hab, c1, c2, c3, c4⟩ := hr.clus hsk
      clear hsk c3 c4
      obtain ⟨⟨s1, s2⟩, s3, s4⟩ := s
      injection hs with e1 e2
      subst e1 e2
      simp only at c1 c2
      have c1' := (hb.cell (by rw [blockAdd]; exact hab)).trans c1
      have c2' := (hb.cell (p := ⟨(ad.add (k * 4)).block, (ad.add (k * 4)).off + 1, none⟩) (by show (ad.add (k * 4)).block < _; rw [blockAdd]; exact hab)).trans c2
      go_wp2
      go_loopw [7] (fun i ws => ∃ j : Nat, lo ≤ j ∧ j ≤ hi ∧ i = .int .i64 j ∧ ws.ownsRow w.heap.size 4 1 (.slice (some ⟨w.heap.size, 0, none⟩) n n) n ((fillB xs lo j).map Value.bool) ∧ Below w.heap.size w ws) (fun i _ => hi - (intOf i).toNat)
      case atStart => exact ⟨lo, Nat.le_refl _, hlh, rfl, by rw [fillB_start]; exact hown, hb⟩
      case round =>
        obtain ⟨j, hlj, hjh, rfl, hownr, hbr⟩ := hrel
        clear c1' c2'
        have d2 := (hbr.cell (p := ⟨(ad.add (k * 4)).block, (ad.add (k * 4)).off + 1, none⟩) (by show (ad.add (k * 4)).block < _; rw [blockAdd]; exact hab)).trans c2
        by_cases hjt : j < hi
        · have HS := Lib.hid (fillB_step (xs := xs) hlj (by rw [HX.out]; omega))
          have hfx := hownr.frozenAt j
          obtain ⟨bj, hbj⟩ : ∃ bj, wr.cell? ⟨w.heap.size, j, none⟩ = some bj := ⟨_, by rw [hownr.cellAt j (by omega)]; exact List.getElem?_eq_getElem (by rw [List.length_map, fillB_len hlj (by rw [HX.out]; omega), HX.out]; omega)⟩
          have hst := hownr.stored j (.bool true)
          rw [← List.map_set] at hst
          have HST := Lib.hid hst
          have hbe := hbr.setCell (p := ⟨w.heap.size, j, none⟩) (Nat.le_refl _) (.bool true)
          clear hst
          go_wp2
          go_roundw
          case rel => exact ⟨j + 1, by omega, by omega, by go_num, by rw [← HS.out]; exact HST.out.1, hbe⟩
          case measure => simp [intOf]; omega
        · have HJ := Lib.hid (show j = hi by omega)
          have hle : (fillB xs lo hi).length = n := by rw [fillB_len hlh (by rw [HX.out]; exact hhn), HX.out]
          have HE := Lib.hid hle
          clear hle
          go_wp2
          go_roundw
          case rel => exact ⟨k + 1, fillB xs lo hi, by omega, by go_num, by rw [HH.out, HD.out]; rfl, HE.out, by rw [← HJ.out]; exact hownr, hbr⟩
          case measure => simp [intOf]; omega
    · have HZ := Lib.hid (show linkedS n l = xs by rw [HH.out, List.drop_eq_nil_of_le (by rw [HL.out]; omega)]; rfl)
      go_wp2
      go_ret
      exact ⟨_, rfl, by rw [HZ.out]; exact hown, hb⟩
end Go.Proofs.Ytmgoakfnmgngoaa
/- The reference's ahead: joins the places ahead of all that are in a link to the next one. -/
namespace Go.Proofs.Ytmgoakfnmgngoaa
open Go.RowKit

def aheadFrom : List Bool → Nat → List Cl
  | [], _ => []
  | true :: _, k => if 0 < k then [((0, (k : Int) + 1), (0, 0))] else []
  | false :: l, k => aheadFrom l (k + 1)
def aheadS (l : List Bool) : List Cl := aheadFrom l 0

def AheadGives (l : List Bool) (w : World) (e : Ending) (w' : World) : Prop := ∃ A' n' c', e = .returned (.slice A' n' c') ∧ n' ≤ 1 ∧ Rd w' 4 A' n' (cellsC (aheadS l)) ∧ Below w.heap.size w w'

set_option maxRecDepth 100000 in
set_option maxHeartbeats 1000000 in
theorem refAhead_any (A : Option Addr) (n c : Nat) (l : List Bool) (w : World) (hr : Rd w 1 A n (l.map Value.bool)) (hn : n ≤ 100000000) :
    Calls Try.prog 53 #[.slice A n c] w (AheadGives l w) := by
  have hlen : l.length = n := by have := hr.1; rw [List.length_map] at this; omega
  have HL := Lib.hid hlen
  clear hlen
  go_enter Try.func53, Try.ntmps53
  go_wp2
  go_loop [3] (fun i => ∃ k : Nat, k ≤ n ∧ i = .int .i64 k ∧ aheadS l = aheadFrom (l.drop k) k) (fun i => n - (intOf i).toNat)
  case atStart => exact ⟨0, Nat.zero_le _, rfl, rfl⟩
  case round =>
    obtain ⟨k, hk, rfl, hh⟩ := hrel
    have HH := Lib.hid hh
    clear hh
    by_cases hlt : k < n
    · obtain ⟨x, hxk⟩ : ∃ x, l[k]? = some x := ⟨_, List.getElem?_eq_getElem (by rw [HL.out]; exact hlt)⟩
      have HD := Lib.hid (dropCons hxk)
      obtain ⟨ad, rfl, hab, hck⟩ := hr.at_ hlt
      have ck := hck (.bool x) (by rw [List.getElem?_map, hxk]; rfl)
      clear hxk hck
      cases x with
      | false =>
        go_wp2
        go_round
        case rel => exact ⟨k + 1, by omega, by go_num, by rw [HH.out, HD.out]; rfl⟩
        case measure => simp [intOf]; omega
      | true =>
        by_cases h0 : 0 < k
        · have HZ := Lib.hid (show aheadS l = [((0, (k : Int) + 1), (0, 0))] by rw [HH.out, HD.out]; exact if_pos h0)
          go_wp2
          go_ret
          exact ⟨_, _, _, rfl, Nat.le_refl _, by rw [HZ.out]; exact ⟨rfl, fun _ => ⟨_, rfl, by simp, cells_new w [.int .i64 0, .int .i64 ((k : Int) + 1), .int .i64 0, .int .i64 0] _⟩⟩, below_new w _⟩
        · have HZ := Lib.hid (show aheadS l = [] by rw [HH.out, HD.out]; exact if_neg h0)
          go_wp2
          go_ret
          exact ⟨_, _, _, rfl, by omega, by rw [HZ.out]; exact Rd.nil_, Below.refl _ _⟩
    · have HZ := Lib.hid (show aheadS l = [] by rw [HH.out, List.drop_eq_nil_of_le (by rw [HL.out]; omega)]; rfl)
      go_wp2
      go_ret
      exact ⟨_, _, _, rfl, by omega, by rw [HZ.out]; exact Rd.nil_, Below.refl _ _⟩
end Go.Proofs.Ytmgoakfnmgngoaa
/- refRight_any. -/
namespace Go.Proofs.Ytmgoakfnmgngoaa
open Go.RowKit

theorem refRight_any (lo hi : Int) (w : World) :
    Calls Try.prog 80 #[.agg #[.int .i64 lo, .int .i64 hi]] w fun e w' => e = .returned (.bool (rightB (lo, hi))) ∧ Below w.heap.size w w' := by
  have hc : lo < 0 ∨ (0 ≤ lo ∧ lo < hi) ∨ (0 ≤ lo ∧ hi ≤ lo) := by omega
  rcases hc with h | ⟨h, h'⟩ | ⟨h, h'⟩ <;>
    (go_enter Try.func80, Try.ntmps80
     go_wp2
     go_ret
     refine ⟨retB ?_, below_new _ _⟩
     simp [rightB]
     try omega)

end Go.Proofs.Ytmgoakfnmgngoaa
/- Blocks of memory by their cells: what lies in one, what a store leaves of others. -/
namespace Go.Proofs.Ytmgoakfnmgngoaa
open Go.RowKit

def intsZ (l : List Int) : List Value := l.map (Value.int .i64)
theorem intsZ_set (l : List Int) (i : Nat) (x : Int) : intsZ (l.set i x) = (intsZ l).set i (.int .i64 x) := by simp [intsZ, List.map_set]
theorem hp_lt {w : World} {g : Nat} {o : Obj} (h : w.heap[g]? = some o) : g < w.heap.size := by
  by_cases c : g < w.heap.size
  · exact c
  · rw [Array.getElem?_eq_none (by omega)] at h; exact absurd h (by simp)
theorem hp_cell {w : World} {g : Nat} {cs : Array Value} {t : TypeId} (h : w.heap[g]? = some (.cells cs t (0, 0))) {j : Nat} {v : Value} (hj : cs[j]? = some v) : w.cell? ⟨g, j, none⟩ = some v := by
  unfold World.cell?
  rw [show w.heap[(⟨g, j, none⟩ : Addr).block]? = _ from h]
  simpa using hj
theorem hp_froz {w : World} {g : Nat} {cs : Array Value} {t : TypeId} (h : w.heap[g]? = some (.cells cs t (0, 0))) (j : Nat) : w.frozen? ⟨g, j, none⟩ = false := by
  unfold World.frozen?
  rw [show w.heap[(⟨g, j, none⟩ : Addr).block]? = _ from h]
  rfl
theorem hp_far {w : World} {g k : Nat} (h : k ≠ g) (j : Nat) (u : Value) : (w.setCell ⟨g, j, none⟩ u).heap[k]? = w.heap[k]? := Below.heap_setCell w ⟨g, j, none⟩ u k h
theorem hp_row {w : World} {g : Nat} {l : List Int} {t : TypeId} (h : w.heap[g]? = some (.cells (intsZ l).toArray t (0, 0))) (i : Nat) (x : Int) : (w.setCell ⟨g, i, none⟩ (.int .i64 x)).heap[g]? = some (.cells (intsZ (l.set i x)).toArray t (0, 0)) := by
  rw [heap_setCell_same w g i _ t _ h]
  congr 2
  rw [intsZ_set, List.setIfInBounds_toArray]
theorem Rd.belowS {w w' : World} {size n s : Nat} {A : Option Addr} {xs : List Value} (h : Rd w size A n xs) (hA : 0 < n → ∀ ad, A = some ad → ad.block < s) (hb : Below s w w') : Rd w' size A n xs :=
  ⟨h.1, fun hn => by
    obtain ⟨ad, e, hlt, hc⟩ := h.2 hn
    exact ⟨ad, e, Nat.lt_of_lt_of_le hlt hb.size, fun j u hu => (hb.cell (by rw [blockAdd]; exact hA hn ad e)).trans (hc j u hu)⟩⟩
end Go.Proofs.Ytmgoakfnmgngoaa
