/- The finest map: which places are together; the list of clusters that says so is the only one. No program in this text. -/
import Derived.Test.YtnmefomipldalaaSpD
namespace Go.Proofs.Ytnmefomipldalaa

/-- A place: its side (true: what comes out), its number. -/
abbrev Pl := Bool × Nat
/-- A link, or a cluster, in natural numbers: In's ends, Out's ends. -/
structure NC where
  a : Nat
  b : Nat
  c : Nat
  d : Nat
deriving DecidableEq
def NC.has (x : NC) (q : Pl) : Prop := if q.1 = true then x.c ≤ q.2 ∧ q.2 < x.d else x.a ≤ q.2 ∧ q.2 < x.b
/-- Places that belong together: the least relation that has each link's places together, and all between. -/
inductive Tog (L : List NC) : Pl → Pl → Prop
  | refl (p : Pl) : Tog L p p
  | link (x : NC) (p q : Pl) : x ∈ L → x.has p → x.has q → Tog L p q
  | symm (p q : Pl) : Tog L p q → Tog L q p
  | trans (p q r : Pl) : Tog L p q → Tog L q r → Tog L p r
  | between (s : Bool) (i k j : Nat) : i ≤ k → k ≤ j → Tog L (s, i) (s, j) → Tog L (s, i) (s, k)
theorem Tog.sub {L M : List NC} (h : ∀ x ∈ L, x ∈ M) {p q : Pl} (t : Tog L p q) : Tog M p q := by
  induction t with
  | refl p => exact .refl p
  | link x p q hx hp hq => exact .link x p q (h x hx) hp hq
  | symm p q _ ih => exact .symm _ _ ih
  | trans p q r _ _ ih1 ih2 => exact .trans _ _ _ ih1 ih2
  | between s i k j h1 h2 _ ih => exact .between s i k j h1 h2 ih
/-- A relation that is closed has all that is together. -/
theorem Tog.least {L : List NC} {S : Pl → Pl → Prop} (hr : ∀ p, S p p) (hs : ∀ p q, S p q → S q p) (ht : ∀ p q r, S p q → S q r → S p r) (hl : ∀ x ∈ L, ∀ p q, x.has p → x.has q → S p q)
    (hb : ∀ s i k j, i ≤ k → k ≤ j → S (s, i) (s, j) → S (s, i) (s, k)) {p q : Pl} (t : Tog L p q) : S p q := by
  induction t with
  | refl p => exact hr p
  | link x p q hx hp hq => exact hl x hx p q hp hq
  | symm p q _ ih => exact hs _ _ ih
  | trans p q r _ _ ih1 ih2 => exact ht _ _ _ ih1 ih2
  | between s i k j h1 h2 _ ih => exact hb s i k j h1 h2 ih
/-- The In spans lie one behind the other, from s to n. -/
def Tiles : Nat → List NC → Nat → Prop
  | s, [], n => s = n
  | s, x :: l, n => x.a = s ∧ x.a < x.b ∧ Tiles x.b l n
theorem Tiles.le : ∀ {l : List NC} {s n : Nat}, Tiles s l n → s ≤ n
  | [], _, _, h => Nat.le_of_eq h
  | x :: l, s, n, ⟨h1, h2, h3⟩ => by have := Tiles.le h3; omega
theorem Tiles.from_ : ∀ {l : List NC} {s n : Nat}, Tiles s l n → ∀ x ∈ l, s ≤ x.a ∧ x.a < x.b ∧ x.b ≤ n
  | x :: l, s, n, ⟨h1, h2, h3⟩, y, hy => by
    rcases List.mem_cons.1 hy with rfl | hy
    · have := Tiles.le h3; omega
    · have := Tiles.from_ h3 y hy; omega
/-- The finest map of n to m by links: In tiles, no Out is empty, and places are together just where they lie in one cluster. -/
structure Finest (L : List NC) (s n m : Nat) (l : List NC) : Prop where
  tiles : Tiles s l n
  out : ∀ x ∈ l, x.c < x.d ∧ x.d ≤ m
  tog : ∀ i, s ≤ i → i < n → ∀ q : Pl, (if q.1 = true then q.2 < m else s ≤ q.2 ∧ q.2 < n) → (Tog L (false, i) q ↔ ∃ x ∈ l, x.has (false, i) ∧ x.has q)
theorem span_eq {a b c d : Nat} (h1 : a < b) (h2 : c < d) (h : ∀ k, (a ≤ k ∧ k < b) ↔ (c ≤ k ∧ k < d)) : a = c ∧ b = d := by
  have e1 := (h a).1 ⟨Nat.le_refl _, h1⟩
  have e2 := (h c).2 ⟨Nat.le_refl _, h2⟩
  have e3 := (h (b - 1)).1 ⟨by omega, by omega⟩
  have e4 := (h (d - 1)).2 ⟨by omega, by omega⟩
  omega
theorem Finest.head {L : List NC} {s n m : Nat} {x : NC} {l : List NC} (h : Finest L s n m (x :: l)) {q : Pl} (hq : if q.1 = true then q.2 < m else s ≤ q.2 ∧ q.2 < n) : Tog L (false, s) q ↔ x.has q := by
  obtain ⟨e1, e2, e3⟩ := h.tiles
  have hle := Tiles.le e3
  rw [h.tog s (Nat.le_refl _) (by omega) q hq]
  constructor
  · rintro ⟨y, hy, hs, hyq⟩
    rcases List.mem_cons.1 hy with rfl | hy
    · exact hyq
    · have := Tiles.from_ e3 y hy
      have hs' : y.a ≤ s ∧ s < y.b := hs
      omega
  · intro hx
    exact ⟨x, List.mem_cons_self .., (show x.a ≤ s ∧ s < x.b by omega), hx⟩
theorem Finest.tail {L : List NC} {s n m : Nat} {x : NC} {l : List NC} (h : Finest L s n m (x :: l)) : Finest L x.b n m l := by
  obtain ⟨e1, e2, e3⟩ := h.tiles
  refine ⟨e3, fun y hy => h.out y (List.mem_cons_of_mem _ hy), fun i hi hin q hq => ?_⟩
  rw [h.tog i (by omega) hin q (by
    split at hq
    · rw [if_pos (by assumption)]; exact hq
    · rw [if_neg (by assumption)]; omega)]
  constructor
  · rintro ⟨y, hy, h1, h2⟩
    rcases List.mem_cons.1 hy with rfl | hy
    · have : y.a ≤ i ∧ i < y.b := h1
      omega
    · exact ⟨y, hy, h1, h2⟩
  · rintro ⟨y, hy, h1, h2⟩
    exact ⟨y, List.mem_cons_of_mem _ hy, h1, h2⟩
/-- There is one such list at most. -/
theorem Finest.only {L : List NC} {m : Nat} : ∀ {l k : List NC} {s n : Nat}, Finest L s n m l → Finest L s n m k → l = k
  | [], [], _, _, _, _ => rfl
  | [], y :: k, s, n, h, h' => by
    have e : s = n := h.tiles
    obtain ⟨e1, e2, e3⟩ := h'.tiles
    have := Tiles.le e3
    omega
  | x :: l, [], s, n, h, h' => by
    have e : s = n := h'.tiles
    obtain ⟨e1, e2, e3⟩ := h.tiles
    have := Tiles.le e3
    omega
  | x :: l, y :: k, s, n, h, h' => by
    obtain ⟨e1, e2, e3⟩ := h.tiles
    obtain ⟨f1, f2, f3⟩ := h'.tiles
    have hx := h.out x (List.mem_cons_self ..)
    have hy := h'.out y (List.mem_cons_self ..)
    have hle := Tiles.le e3
    have hle' := Tiles.le f3
    have hin : ∀ k, (x.a ≤ k ∧ k < x.b) ↔ (y.a ≤ k ∧ k < y.b) := fun k => by
      by_cases hk : s ≤ k ∧ k < n
      · have a1 := h.head (q := (false, k)) hk
        have a2 := h'.head (q := (false, k)) hk
        exact a1.symm.trans a2
      · omega
    have hout : ∀ k, (x.c ≤ k ∧ k < x.d) ↔ (y.c ≤ k ∧ k < y.d) := fun k => by
      by_cases hk : k < m
      · have a1 := h.head (q := (true, k)) hk
        have a2 := h'.head (q := (true, k)) hk
        exact a1.symm.trans a2
      · omega
    obtain ⟨g1, g2⟩ := span_eq e2 f2 hin
    obtain ⟨g3, g4⟩ := span_eq hx.1 hy.1 hout
    have hxy : x = y := by
      obtain ⟨xa, xb, xc, xd⟩ := x
      obtain ⟨ya, yb, yc, yd⟩ := y
      simp only at g1 g2 g3 g4
      rw [g1, g2, g3, g4]
    subst hxy
    rw [Finest.only h.tail h'.tail]
end Go.Proofs.Ytnmefomipldalaa
