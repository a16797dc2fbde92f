/- Texts of one claim, one behind the other. -/
import Derived.Deep.RegionHeld3
import Derived.Deep.DeepCutAuto
import Derived.Test.YtmgoakfnmgngoaaMgSm1
import Derived.Test.YtmgoakfnmgngoaaMgSm2
import Derived.Test.YtmgoakfnmgngoaaMgSm11
import Derived.Test.YtmgoakfnmgngoaaMgSm14
import Derived.Test.YtmgoakfnmgngoaaMgSm18
/- A map behind, or ahead of, each place by itself is the map; as mathematics. No program in this text. -/
namespace Go.Proofs.Ytmgoakfnmgngoaa

/-- Links that lie each within one cluster of a map, and hold each cluster together, have that map as their finest one. -/
theorem Finest.again {K0 K : List NC} {n m : Nat} {l : List NC} (hf : Finest K0 0 n m l) (hcov : ∀ j, j < m → ∃ x ∈ l, x.c ≤ j ∧ j < x.d)
    (ha : ∀ y ∈ K, ∃ x ∈ l, x.a ≤ y.a ∧ y.b ≤ x.b ∧ x.c ≤ y.c ∧ y.d ≤ x.d) (hb : ∀ x ∈ l, ∀ p q, x.has p → x.has q → Tog K p q) : Finest K 0 n m l := by
  have one : ∀ x ∈ l, ∀ z ∈ l, ∀ p : Pl, x.has p → z.has p → x = z := fun x hx z hz p h1 h2 => by
    obtain ⟨s, i⟩ := p
    cases s with
    | false =>
      have h1' : x.a ≤ i ∧ i < x.b := h1
      have h2' : z.a ≤ i ∧ i < z.b := h2
      exact Tiles.one hf.tiles x hx z hz i h1'.1 h1'.2 h2'.1 h2'.2
    | true =>
      have h1' : x.c ≤ i ∧ i < x.d := h1
      have h2' : z.c ≤ i ∧ i < z.d := h2
      exact hf.out_one hx hz h1'.1 h1'.2 h2'.1 h2'.2
  have ex : ∀ (s : Bool) (i : Nat), (∃ x ∈ l, x.has (s, i)) ↔ i < (if s = true then m else n) := fun s i => by
    cases s with
    | false =>
      constructor
      · rintro ⟨x, hx, h1⟩
        have h1' : x.a ≤ i ∧ i < x.b := h1
        have := Tiles.from_ hf.tiles x hx
        simp only [Bool.false_eq_true, ↓reduceIte]
        omega
      · intro h
        simp only [Bool.false_eq_true, ↓reduceIte] at h
        obtain ⟨x, hx, h1, h2⟩ := Tiles.cover hf.tiles i (Nat.zero_le _) h
        exact ⟨x, hx, show x.a ≤ i ∧ i < x.b from ⟨h1, h2⟩⟩
    | true =>
      constructor
      · rintro ⟨x, hx, h1⟩
        have h1' : x.c ≤ i ∧ i < x.d := h1
        have := hf.out x hx
        simp only [↓reduceIte]
        omega
      · intro h
        simp only [↓reduceIte] at h
        obtain ⟨x, hx, h1, h2⟩ := hcov i h
        exact ⟨x, hx, show x.c ≤ i ∧ i < x.d from ⟨h1, h2⟩⟩
  have hold : ∀ (x : NC) (s : Bool) (i k j : Nat), i ≤ k → k ≤ j → x.has (s, i) → x.has (s, j) → x.has (s, k) := fun x s i k j h1 h2 h3 h4 => by
    cases s with
    | false =>
      have h3' : x.a ≤ i ∧ i < x.b := h3
      have h4' : x.a ≤ j ∧ j < x.b := h4
      exact show x.a ≤ k ∧ k < x.b by omega
    | true =>
      have h3' : x.c ≤ i ∧ i < x.d := h3
      have h4' : x.c ≤ j ∧ j < x.d := h4
      exact show x.c ≤ k ∧ k < x.d by omega
  refine ⟨hf.tiles, hf.out, fun i _ hi q hq => ⟨fun t => ?_, fun ⟨x, hx, h1, h2⟩ => hb x hx _ _ h1 h2⟩⟩
  have hS := Tog.least (S := fun p q => ∀ x ∈ l, x.has p ↔ x.has q) (fun _ _ _ => Iff.rfl) (fun _ _ h x hx => (h x hx).symm) (fun _ _ _ h k x hx => (h x hx).trans (k x hx)) (fun y hy p q hp hq z hz => by
    obtain ⟨x, hx, e1, e2, e3, e4⟩ := ha y hy
    have up : ∀ p : Pl, y.has p → x.has p := fun p h => by
      obtain ⟨s, i⟩ := p
      cases s with
      | false =>
        have h' : y.a ≤ i ∧ i < y.b := h
        exact show x.a ≤ i ∧ i < x.b by omega
      | true =>
        have h' : y.c ≤ i ∧ i < y.d := h
        exact show x.c ≤ i ∧ i < x.d by omega
    constructor
    · intro h
      rw [one z hz x hx p h (up p hp)]; exact up q hq
    · intro h
      rw [one z hz x hx q h (up q hq)]; exact up p hp) (fun s i k j h1 h2 h3 x hx => by
    constructor
    · intro h
      exact hold x s i k j h1 h2 h ((h3 x hx).1 h)
    · intro h
      have hk := (ex s k).1 ⟨x, hx, h⟩
      obtain ⟨z, hz, hzi⟩ := (ex s i).2 (Nat.lt_of_le_of_lt h1 hk)
      rw [one x hx z hz (s, k) h (hold z s i k j h1 h2 hzi ((h3 z hz).1 hzi))]
      exact hzi) t
  obtain ⟨x, hx, h1⟩ := (ex false i).2 (by simpa using hi)
  exact ⟨x, hx, h1, (hS x hx).1 h1⟩
/-- Where each place In has a link, nothing is filled. -/
theorem fills_none {n : Nat} {K : List NC} (h : ∀ i, i < n → ∃ y ∈ K, y.real ∧ y.a ≤ i ∧ i < y.b) (hn : n ≠ 0) : fillsOf n K = [] := by
  unfold fillsOf
  rw [List.append_eq_nil_iff]
  constructor
  · rw [List.filterMap_eq_nil_iff]
    intro i hi
    obtain ⟨y, hy, _, h1, h2⟩ := h i (List.mem_range.1 hi)
    unfold fillAt
    rw [if_pos (.inr ⟨y, hy, h1, h2⟩)]
  · unfold fillAhead
    rw [dif_neg]
    rintro ⟨f, hF, h0⟩
    obtain ⟨y, hy, hr, h1, _⟩ := h 0 (by omega)
    have := hF.2 y hy hr
    omega
theorem FinIs.again {n m : Nat} {l0 L : List Cl} {l : List NC} (hf : FinIs n m l0 l) (hn : n ≠ 0) (hcov : ∀ j, j < m → ∃ x ∈ l, x.c ≤ j ∧ j < x.d) (hin : ∀ i, i < n → ∃ y ∈ L.map ncOf, y.real ∧ y.a ≤ i ∧ i < y.b)
    (ha : ∀ y ∈ L.map ncOf, ∃ x ∈ l, x.a ≤ y.a ∧ y.b ≤ x.b ∧ x.c ≤ y.c ∧ y.d ≤ x.d) (hb : ∀ x ∈ l, ∀ p q, x.has p → x.has q → Tog (L.map ncOf) p q) : FinIs n m L l :=
  ⟨fun h => absurd h hn, fun _ => by
    rw [fills_none hin hn, List.append_nil]
    exact (hf.2 hn).again hcov ha hb⟩
end Go.Proofs.Ytmgoakfnmgngoaa
/- One map behind another one, as mathematics: the links that go through. No program in this text. -/
namespace Go.Proofs.Ytmgoakfnmgngoaa

/-- Two spans share a place. -/
def ov (s t : Sp) : Prop := s.1 < t.2 ∧ t.1 < s.2
/-- Spans one behind the other, each with a place. -/
structure Run (l : List Sp) : Prop where
  real : ∀ (p : Nat) (s : Sp), l[p]? = some s → s.1 < s.2
  next : ∀ (p : Nat) (s t : Sp), l[p]? = some s → l[p + 1]? = some t → t.1 = s.2
theorem Run.before {l : List Sp} (h : Run l) : ∀ (d p : Nat) (s t : Sp), l[p]? = some s → l[p + d + 1]? = some t → s.2 ≤ t.1
  | 0, p, s, t, hs, ht => by rw [h.next p s t hs ht]; exact Int.le_refl _
  | d + 1, p, s, t, hs, ht => by
    have hlt := (List.getElem?_eq_some_iff.1 ht).1
    obtain ⟨u, hu⟩ : ∃ u, l[p + d + 1]? = some u := ⟨_, List.getElem?_eq_getElem (by omega)⟩
    have h1 := h.before d p s u hs hu
    have h2 := h.next (p + d + 1) u t hu ht
    have h3 := h.real _ _ hu
    omega
theorem Run.lt {l : List Sp} (h : Run l) {p q : Nat} {s t : Sp} (hs : l[p]? = some s) (ht : l[q]? = some t) (hpq : p < q) : s.2 ≤ t.1 :=
  h.before (q - p - 1) p s t hs (by rw [show p + (q - p - 1) + 1 = q by omega]; exact ht)
theorem run_of : ∀ {l : List Sp} {e n : Int}, partsFrom e l n = true → Run l ∧ ∀ s, l[0]? = some s → s.1 = e
  | [], _, _, _ => ⟨⟨fun p s h => by simp at h, fun p s t h => by simp at h⟩, fun s h => by simp at h⟩
  | x :: l, e, n, h => by
    unfold partsFrom at h
    rw [Bool.and_eq_true, Bool.and_eq_true] at h
    obtain ⟨⟨h1, h2⟩, h3⟩ := h
    obtain ⟨hr, h0⟩ := run_of h3
    have hx : x.1 < x.2 := by unfold rightB at h1; exact (of_decide_eq_true h1).2
    have he : x.1 = e := by simpa using h2
    refine ⟨⟨fun p s hs => ?_, fun p s t hs ht => ?_⟩, fun s hs => ?_⟩
    · cases p with
      | zero => simp at hs; subst hs; exact hx
      | succ p => exact hr.real p s (by simpa using hs)
    · cases p with
      | zero => simp at hs ht; subst hs; exact h0 t (by simpa using ht)
      | succ p => exact hr.next p s t (by simpa using hs) (by simpa using ht)
    · simp at hs; subst hs; exact he
/-- The links so far: of all that share a place, where one of both is done. -/
def Lk (xs ys : List Cl) (i j : Nat) (L : List Cl) : Prop := ∀ x, x ∈ L ↔ ∃ p q u v, xs[p]? = some u ∧ ys[q]? = some v ∧ (p < i ∨ q < j) ∧ ov u.1 v.1 ∧ x = (u.2, v.2)
theorem Lk.zero (xs ys : List Cl) : Lk xs ys 0 0 [] := fun x => ⟨fun h => (by simp at h), fun ⟨p, q, u, v, _, _, h, _⟩ => by omega⟩
/-- The heads share a place. -/
def Hd (xs ys : List Cl) (i j : Nat) : Prop := ∀ s t, xs[i]? = some s → ys[j]? = some t → ov s.1 t.1
theorem at_fst {l : List Cl} {p : Nat} {s : Cl} (h : l[p]? = some s) : (l.map Prod.fst)[p]? = some s.1 := by rw [List.getElem?_map, h]; rfl
theorem Lk.step {xs ys : List Cl} {i j i' j' : Nat} {L : List Cl} {s t : Cl} (hx : Run (xs.map Prod.fst)) (hy : Run (ys.map Prod.fst)) (h : Lk xs ys i j L) (hd : Hd xs ys i j) (hs : xs[i]? = some s) (ht : ys[j]? = some t)
    (hi : i' = if s.1.2 ≤ t.1.2 then i + 1 else i) (hj : j' = if t.1.2 ≤ s.1.2 then j + 1 else j) : Lk xs ys i' j' (L ++ [(s.2, t.2)]) ∧ Hd xs ys i' j' := by
  have ho := hd s t hs ht
  have rs := hx.real _ _ (at_fst hs)
  have rt := hy.real _ _ (at_fst ht)
  constructor
  · intro x
    rw [List.mem_append, List.mem_singleton, h x]
    constructor
    · rintro (⟨p, q, u, v, h1, h2, h3, h4, h5⟩ | rfl)
      · refine ⟨p, q, u, v, h1, h2, ?_, h4, h5⟩
        split at hi <;> split at hj <;> omega
      · refine ⟨i, j, s, t, hs, ht, ?_, ho, rfl⟩
        split at hi <;> split at hj <;> omega
    · rintro ⟨p, q, u, v, h1, h2, h3, h4, h5⟩
      by_cases hpq : p < i ∨ q < j
      · exact .inl ⟨p, q, u, v, h1, h2, hpq, h4, h5⟩
      · right
        obtain ⟨o1, o2⟩ := h4
        have e : p = i ∧ q = j := by
          by_cases hp : p = i
          · subst hp
            rw [hs] at h1
            obtain rfl := Option.some.inj h1
            by_cases hq : q = j
            · exact ⟨rfl, hq⟩
            · exfalso
              have := hy.lt (at_fst ht) (at_fst h2) (by omega)
              split at hi <;> split at hj <;> omega
          · by_cases hq : q = j
            · subst hq
              rw [ht] at h2
              obtain rfl := Option.some.inj h2
              exfalso
              have := hx.lt (at_fst hs) (at_fst h1) (by omega)
              split at hi <;> split at hj <;> omega
            · exfalso
              split at hi <;> split at hj <;> omega
        obtain ⟨rfl, rfl⟩ := e
        rw [hs] at h1; rw [ht] at h2
        obtain rfl := Option.some.inj h1
        obtain rfl := Option.some.inj h2
        exact h5
  · intro u v hu hv
    unfold ov at ho ⊢
    have ru := hx.real _ _ (at_fst hu)
    have rv := hy.real _ _ (at_fst hv)
    by_cases c1 : s.1.2 ≤ t.1.2
    · rw [if_pos c1] at hi
      subst hi
      have e1 := hx.next _ _ _ (at_fst hs) (at_fst hu)
      by_cases c2 : t.1.2 ≤ s.1.2
      · rw [if_pos c2] at hj
        subst hj
        have e2 := hy.next _ _ _ (at_fst ht) (at_fst hv)
        omega
      · rw [if_neg c2] at hj
        subst hj
        rw [ht] at hv
        obtain rfl := Option.some.inj hv
        omega
    · rw [if_neg c1] at hi
      subst hi
      rw [hs] at hu
      obtain rfl := Option.some.inj hu
      rw [if_pos (by omega)] at hj
      subst hj
      have e2 := hy.next _ _ _ (at_fst ht) (at_fst hv)
      omega
/-- All links that go through. -/
def Thr (xs ys : List Cl) (L : List Cl) : Prop := ∀ x, x ∈ L ↔ ∃ u ∈ xs, ∃ v ∈ ys, ov u.1 v.1 ∧ x = (u.2, v.2)
theorem Lk.stop {xs ys : List Cl} {i j : Nat} {L : List Cl} (h : Lk xs ys i j L) (he : xs.length ≤ i ∨ ys.length ≤ j) : Thr xs ys L := fun x => by
  rw [h x]
  constructor
  · rintro ⟨p, q, u, v, h1, h2, _, h4, h5⟩
    exact ⟨u, List.mem_of_getElem? h1, v, List.mem_of_getElem? h2, h4, h5⟩
  · rintro ⟨u, hu, v, hv, h4, h5⟩
    obtain ⟨p, hp⟩ := List.getElem?_of_mem hu
    obtain ⟨q, hq⟩ := List.getElem?_of_mem hv
    have := (List.getElem?_eq_some_iff.1 hp).1
    have := (List.getElem?_eq_some_iff.1 hq).1
    exact ⟨p, q, u, v, hp, hq, by omega, h4, h5⟩
theorem Thr.swap {a ys b L M : List Cl} (hs : Same (a.map swapC) ys) (h : Thr ys b L) (k : ∀ x, x ∈ M ↔ ∃ u ∈ a, ∃ v ∈ b, ov u.2 v.1 ∧ x = (u.1, v.2)) : ∀ x, x ∈ L ↔ x ∈ M := fun x => by
  rw [h x, k x]
  constructor
  · rintro ⟨u, hu, v, hv, h4, h5⟩
    obtain ⟨y, hy, rfl⟩ := List.mem_map.1 ((hs.mem u).2 hu)
    exact ⟨y, hy, v, hv, h4, h5⟩
  · rintro ⟨u, hu, v, hv, h4, h5⟩
    exact ⟨swapC u, (hs.mem _).1 (List.mem_map.2 ⟨u, hu, rfl⟩), v, hv, h4, h5⟩
theorem all_mem {α : Type} {l k : List α} (h : ∀ x, x ∈ l ↔ x ∈ k) (f : α → Bool) : l.all f = k.all f := by
  rw [Bool.eq_iff_iff, List.all_eq_true, List.all_eq_true]
  exact ⟨fun g x hx => g x ((h x).2 hx), fun g x hx => g x ((h x).1 hx)⟩
theorem fitB_mem {n m : Int} {l k : List Cl} (h : ∀ x, x ∈ l ↔ x ∈ k) : fitB n m l = fitB n m k := by
  unfold fitB; rw [all_mem h]
theorem covP_mem {m : Int} {l k : List Cl} (h : ∀ x, x ∈ l ↔ x ∈ k) : CovP m l ↔ CovP m k := by
  unfold CovP
  have : ∀ s, s ∈ l.map Prod.snd ↔ s ∈ k.map Prod.snd := fun s => by
    rw [List.mem_map, List.mem_map]
    exact ⟨fun ⟨x, hx, e⟩ => ⟨x, (h x).1 hx, e⟩, fun ⟨x, hx, e⟩ => ⟨x, (h x).2 hx, e⟩⟩
  exact ⟨fun g j h1 h2 => by obtain ⟨s, hs, r⟩ := g j h1 h2; exact ⟨s, (this s).1 hs, r⟩, fun g j h1 h2 => by obtain ⟨s, hs, r⟩ := g j h1 h2; exact ⟨s, (this s).2 hs, r⟩⟩
theorem finE_mem {n m : Int} {l k : List Cl} (h : ∀ x, x ∈ l ↔ x ∈ k) : finE n m l = finE n m k := by
  unfold finE
  rw [fitB_mem h]
  congr 1
  congr 1
  congr 1
  by_cases c : CovP m l
  · rw [if_pos c, if_pos ((covP_mem h).1 c)]
  · rw [if_neg c, if_neg (fun q => c ((covP_mem h).2 q))]
theorem fills_mem {n : Nat} {L M : List NC} (h : ∀ x, x ∈ L ↔ x ∈ M) : ∀ x, x ∈ L ++ fillsOf n L ↔ x ∈ M ++ fillsOf n M := by
  have ex : (fun y : NC => y ∈ L) = fun y => y ∈ M := funext fun y => propext (h y)
  have hf : fillsOf n L = fillsOf n M := by
    have hF : FirstOf L = FirstOf M := by
      funext f
      unfold FirstOf
      simp only [h]
    have hA : fillAhead L = fillAhead M := by
      unfold fillAhead
      rw [hF]
    have hT : fillAt L = fillAt M := by
      funext i
      unfold fillAt
      simp only [h]
    unfold fillsOf
    rw [hA, hT]
  intro x
  rw [List.mem_append, List.mem_append, h x, hf]
theorem finIs_mem {n m : Nat} {l k : List Cl} {l' : List NC} (h : ∀ x, x ∈ l ↔ x ∈ k) (f : FinIs n m l l') : FinIs n m k l' := by
  refine ⟨f.1, fun hn => (f.2 hn).same (fills_mem fun x => ?_)⟩
  rw [List.mem_map, List.mem_map]
  exact ⟨fun ⟨y, hy, e⟩ => ⟨y, (h y).1 hy, e⟩, fun ⟨y, hy, e⟩ => ⟨y, (h y).2 hy, e⟩⟩
end Go.Proofs.Ytmgoakfnmgngoaa
/- cluster's through, walked. -/
namespace Go.Proofs.Ytmgoakfnmgngoaa
open Go.RowKit

/-- How many elements a slice has. -/
def slLen : Value → Nat
  | .slice _ n _ => n
  | _ => 0
set_option maxRecDepth 100000 in
set_option maxHeartbeats 2000000 in
theorem prThrough_any (A B : Option Addr) (n m c d : Nat) (xs ys : List Cl) (w : World) (hA : Rd w 4 A n (cellsC xs)) (hB : Rd w 4 B m (cellsC ys)) (hn : n ≤ 1000000) (hm : m ≤ 1000000) (hnc : n ≤ c) (hmd : m ≤ d) (hc9 : c ≤ 9223372036854775807) (hd9 : d ≤ 9223372036854775807) (hx : Run (xs.map Prod.fst)) (hy : Run (ys.map Prod.fst)) (h0 : Hd xs ys 0 0) :
    Calls Try.prog 57 #[.slice A n c, .slice B m d] w fun e w' => ∃ v L, e = .returned v ∧ L.length ≤ n + m ∧ w'.ownsRow w.heap.size 33 4 v L.length (cellsC L) ∧ Thr xs ys L ∧ Below w.heap.size w w' := by
  have hlen : xs.length = n := by have := hA.1; rw [cellsC_len] at this; omega
  have hlen2 : ys.length = m := by have := hB.1; rw [cellsC_len] at this; omega
  have HLX := Lib.hid hlen
  have HLY := Lib.hid hlen2
  have HA := Lib.hid hA
  have HB := Lib.hid hB
  have HX := Lib.hid hx
  have HY := Lib.hid hy
  have H0 := Lib.hid h0
  clear hlen hlen2 hA hB hx hy h0
  obtain ⟨t, ht⟩ : ∃ t, n + m = t := ⟨_, rfl⟩
  have it : (n : Int) + (m : Int) = (t : Int) := by omega
  have ht2 : t ≤ 2000000 := by omega
  have HT := Lib.hid ht
  clear ht
  go_enter Try.func57, Try.ntmps57
  go_wp2_with (at_make; obtain ⟨iC, hC1, hC2, hC3, hC4⟩ := info_parts clusInfo; refine wpList_make_own _ rfl _ _ _ rfl w.heap.size 33 iC (.agg #[.int .i64 0, .int .i64 0, .int .i64 0, .int .i64 0]) 4 Try.underlying22 hC1 hC2 hC3 .i64 .i64 (t : Int) t rfl rfl rfl (by rw [hC4]; omega) (by unfold maxLen; omega) (Nat.le_refl _) ?_; intro w1 hown hg1)
  have hb1 := below_make (w := w) (w' := w1) hg1
  have HO := Lib.hid hown
  clear hown hg1 it hC1 hC2 hC3 hC4
  go_loopw [0, 1, 5] (fun a b v wr => ∃ (i j p q ca cb : Nat) (A' B' : Option Addr) (L : List Cl), a = .slice A' p ca ∧ b = .slice B' q cb ∧ (p + i = n ∧ q + j = m) ∧ (p ≤ ca ∧ ca ≤ 9223372036854775807) ∧ (q ≤ cb ∧ cb ≤ 9223372036854775807) ∧ Rd w 4 A' p (cellsC (xs.drop i)) ∧ Rd w 4 B' q (cellsC (ys.drop j)) ∧ Lk xs ys i j L ∧ Hd xs ys i j ∧ L.length ≤ i + j ∧ wr.ownsRow w.heap.size 33 4 v L.length (cellsC L) ∧ Below w.heap.size w wr) (fun a b _ _ => slLen a + slLen b)
  case atStart => exact ⟨0, 0, n, m, c, d, A, B, [], rfl, rfl, ⟨rfl, rfl⟩, ⟨hnc, hc9⟩, ⟨hmd, hd9⟩, HA.out, HB.out, Lk.zero _ _, H0.out, Nat.le_refl _, HO.out, hb1⟩
  case round =>
    clear HO hb1
    obtain ⟨i, j, p, q, ca, cb, A', B', L, rfl, rfl, hpq, hca, hcb, hA, hB, hlk, hhd, hle, hown, hb⟩ := hrel
    have HPQ := Lib.hid hpq
    have HA' := Lib.hid hA
    have HB' := Lib.hid hB
    have HLK := Lib.hid hlk
    have HHD := Lib.hid hhd
    have HLE := Lib.hid hle
    have HOW := Lib.hid hown
    have hpn : p ≤ 1000000 := by omega
    have hqm : q ≤ 1000000 := by omega
    clear hpq hA hB hlk hhd hle hown
    by_cases hgo : 0 < p ∧ 0 < q
    · obtain ⟨hp0, hq0⟩ := hgo
      obtain ⟨s, hs⟩ : ∃ s, xs[i]? = some s := ⟨_, List.getElem?_eq_getElem (by have := HPQ.out; have := HLX.out; omega)⟩
      obtain ⟨t, ht⟩ : ∃ t, ys[j]? = some t := ⟨_, List.getElem?_eq_getElem (by have := HPQ.out; have := HLY.out; omega)⟩
      have hs0 : (xs.drop i)[0]? = some s := by rw [List.getElem?_drop]; simpa using hs
      have ht0 : (ys.drop j)[0]? = some t := by rw [List.getElem?_drop]; simpa using ht
      obtain ⟨ad, rfl, hab, c0, c1, c2, c3⟩ := HA'.out.clus hs0
      obtain ⟨bd, rfl, hbb, d0, d1, d2, d3⟩ := HB'.out.clus ht0
      have HST := Lib.hid (fun i' j' h1 h2 => HLK.out.step (i' := i') (j' := j') HX.out HY.out HHD.out hs ht h1 h2)
      clear hs ht hs0 ht0
      obtain ⟨⟨s1, s2⟩, s3, s4⟩ := s
      obtain ⟨⟨t1, t2⟩, t3, t4⟩ := t
      simp only at c0 c1 c2 c3 d0 d1 d2 d3
      have HKB := Lib.hid (show ∀ w', Below w.heap.size w w' → w'.cell? { block := ad.block, off := ad.off + 2 } = some (.int .i64 s3) ∧ w'.cell? { block := ad.block, off := ad.off + 2 + 1 } = some (.int .i64 s4) ∧ w'.cell? { block := bd.block, off := bd.off + 2 } = some (.int .i64 t3) ∧ w'.cell? { block := bd.block, off := bd.off + 2 + 1 } = some (.int .i64 t4) from
        fun w' h => ⟨cell_below h c2, cell_below h c3, cell_below h d2, cell_below h d3⟩)
      have HK1 := Lib.hid (show ∀ w', Below w.heap.size w w' → w'.cell? { block := ad.block, off := ad.off + 1 } = some (.int .i64 s2) ∧ w'.cell? { block := bd.block, off := bd.off + 1 } = some (.int .i64 t2) from
        fun w' h => ⟨cell_below h c1, cell_below h d1⟩)
      obtain ⟨N, hN⟩ : ∃ N, L.length = N := ⟨_, rfl⟩
      have hNb : N ≤ 3000000 := by have := HLE.out; have := HPQ.out; omega
      have HN := Lib.hid hN
      have hown := HOW.out
      rw [hN] at hown
      obtain ⟨V, cv, rfl, hcv⟩ := own_form hown
      have HOW2 := Lib.hid hown
      clear hN hown
      go_upto_region 3 with fail
      have HL1 := Lib.hid (show cellsC (L ++ [((s3, s4), (t3, t4))]) = cellsC L ++ [.int .i64 s3, .int .i64 s4, .int .i64 t3, .int .i64 t4] by rw [cellsC_snoc])
      go_cut [5] (fun v wx => wx.ownsRow w.heap.size 33 4 v (N + 1) (cellsC (L ++ [((s3, s4), (t3, t4))])) ∧ Below w.heap.size w wx)
      case first =>
        go_region_held3 (fun w' => w'.cell? { block := ad.block, off := ad.off + 2 } = some (.int .i64 s3) ∧ w'.cell? { block := ad.block, off := ad.off + 2 + 1 } = some (.int .i64 s4) ∧ w'.cell? { block := bd.block, off := bd.off + 2 } = some (.int .i64 t3) ∧ w'.cell? { block := bd.block, off := bd.off + 2 + 1 } = some (.int .i64 t4))
          (first
            | exact HKB.out _ hb
            | exact HKB.out _ hb.drew
            | exact HKB.out _ (hb.alloc hb.size (.cells #[.int .i64 s3, .int .i64 s4, .int .i64 t3, .int .i64 t4] 33))
            | exact HKB.out _ (hb.alloc hb.size (.cells #[.int .i64 s3, .int .i64 s4, .int .i64 t3, .int .i64 t4] 33)).drew
            | exact HKB.out _ HB1
            | fail)
          (first
            | (refine step_appR rfl _ _ _ rfl clusSlice (by decide) (.slice V N cv) N _ rfl (HOW2.out.alloc (.cells #[.int .i64 s3, .int .i64 s4, .int .i64 t3, .int .i64 t4] 33)).drew _ 1 1 [.int .i64 s3, .int .i64 s4, .int .i64 t3, .int .i64 t4] rfl (rd_blk (m := 1) (cs := [.int .i64 s3, .int .i64 s4, .int .i64 t3, .int .i64 t4]) 4 (heap_alloc_new wr (.cells #[.int .i64 s3, .int .i64 s4, .int .i64 t3, .int .i64 t4] 33)) rfl) (oneInt4 _ _ _ _ _) (by omega) (by unfold maxLen; omega) (by have := hb.size; simp; omega) _ rfl ?_; intro v1 w1 hown1 hgr1 hat1; have HB1 : Below w.heap.size w w1 := (hb.alloc hb.size (.cells #[.int .i64 s3, .int .i64 s4, .int .i64 t3, .int .i64 t4] 33)).drew.grown hgr1 (by have := hb.size; simp; omega) (fun k h => (HOW2.out.lt k h).1))
            | fail)
        all_goals
          have HOF := Lib.hid (show w1.ownsRow w.heap.size 33 4 v1 (N + 1) (cellsC (L ++ [((s3, s4), (t3, t4))])) by rw [HL1.out]; exact hown1)
          clear hat1 hgr1
          go_wp2_with fail
          go_meet
          case rel => exact ⟨HOF.out, HB1⟩
      case rest =>
        obtain ⟨hown1, hb1⟩ := hcut
        have HO1 := Lib.hid hown1
        obtain ⟨f1, f2⟩ := HK1.out _ hb1
        clear hown1 HKB HOW2 HOW c0 c1 c2 c3 d0 d1 d2 d3
        have HO2 := Lib.hid (show wc.drew.ownsRow w.heap.size 33 4 u5 (L ++ [((s3, s4), (t3, t4))]).length (cellsC (L ++ [((s3, s4), (t3, t4))])) by
          rw [List.length_append, HN.out]; exact World.ownsRow.drew HO1.out)
        have HB2 := Lib.hid (show Below w.heap.size w wc.drew from hb1.drew)
        have HA1 := Lib.hid (show ca = 1 → Rd w 4 (some ad) (p - 1) (cellsC (xs.drop (i + 1))) from fun h => by
          have := HA'.out.dropC (k := 1) hp0 hca.1
          rw [if_pos h, List.drop_drop] at this
          exact this)
        have HA2 := Lib.hid (show ¬ ca = 1 → Rd w 4 (some ⟨ad.block, ad.off + 4, none⟩) (p - 1) (cellsC (xs.drop (i + 1))) from fun h => by
          have := HA'.out.dropC (k := 1) hp0 hca.1
          rw [if_neg h, List.drop_drop] at this
          exact this)
        have HB1' := Lib.hid (show cb = 1 → Rd w 4 (some bd) (q - 1) (cellsC (ys.drop (j + 1))) from fun h => by
          have := HB'.out.dropC (k := 1) hq0 hcb.1
          rw [if_pos h, List.drop_drop] at this
          exact this)
        have HB2' := Lib.hid (show ¬ cb = 1 → Rd w 4 (some ⟨bd.block, bd.off + 4, none⟩) (q - 1) (cellsC (ys.drop (j + 1))) from fun h => by
          have := HB'.out.dropC (k := 1) hq0 hcb.1
          rw [if_neg h, List.drop_drop] at this
          exact this)
        have hcc : (s2 ≤ t2 ∧ ¬ t2 ≤ s2) ∨ (¬ s2 ≤ t2 ∧ t2 ≤ s2) ∨ (s2 ≤ t2 ∧ t2 ≤ s2) := by omega
        rcases hcc with ⟨e1, e2⟩ | ⟨e1, e2⟩ | ⟨e1, e2⟩
        · by_cases hk1 : ca = 1
          · go_wp2_with fail
            go_region
            go_wp2_with fail
            go_roundw
            case rel => exact ⟨i + 1, j, p - 1, q, 0, cb, _, _, L ++ [((s3, s4), (t3, t4))], rfl, rfl, ⟨by have := HPQ.out; omega, by have := HPQ.out; omega⟩, ⟨by omega, by omega⟩, ⟨by omega, by omega⟩, HA1.out hk1, HB'.out, (HST.out _ _ (by first | rw [if_pos (by omega)] | rw [if_neg (by omega)]) (by first | rw [if_pos (by omega)] | rw [if_neg (by omega)])).1, (HST.out _ _ (by first | rw [if_pos (by omega)] | rw [if_neg (by omega)]) (by first | rw [if_pos (by omega)] | rw [if_neg (by omega)])).2, by rw [List.length_append, List.length_singleton]; have := HLE.out; omega, HO2.out, HB2.out⟩
            case measure => simp only [slLen]; omega
          · go_wp2_with fail
            go_region
            go_wp2_with fail
            go_roundw
            case rel => exact ⟨i + 1, j, p - 1, q, (ca - 1), cb, _, _, L ++ [((s3, s4), (t3, t4))], rfl, rfl, ⟨by have := HPQ.out; omega, by have := HPQ.out; omega⟩, ⟨by omega, by omega⟩, ⟨by omega, by omega⟩, HA2.out hk1, HB'.out, (HST.out _ _ (by first | rw [if_pos (by omega)] | rw [if_neg (by omega)]) (by first | rw [if_pos (by omega)] | rw [if_neg (by omega)])).1, (HST.out _ _ (by first | rw [if_pos (by omega)] | rw [if_neg (by omega)]) (by first | rw [if_pos (by omega)] | rw [if_neg (by omega)])).2, by rw [List.length_append, List.length_singleton]; have := HLE.out; omega, HO2.out, HB2.out⟩
            case measure => simp only [slLen]; omega
        · by_cases hk2 : cb = 1
          · go_wp2_with fail
            go_region
            go_wp2_with fail
            go_roundw
            case rel => exact ⟨i, j + 1, p, q - 1, ca, 0, _, _, L ++ [((s3, s4), (t3, t4))], rfl, rfl, ⟨by have := HPQ.out; omega, by have := HPQ.out; omega⟩, ⟨by omega, by omega⟩, ⟨by omega, by omega⟩, HA'.out, HB1'.out hk2, (HST.out _ _ (by first | rw [if_pos (by omega)] | rw [if_neg (by omega)]) (by first | rw [if_pos (by omega)] | rw [if_neg (by omega)])).1, (HST.out _ _ (by first | rw [if_pos (by omega)] | rw [if_neg (by omega)]) (by first | rw [if_pos (by omega)] | rw [if_neg (by omega)])).2, by rw [List.length_append, List.length_singleton]; have := HLE.out; omega, HO2.out, HB2.out⟩
            case measure => simp only [slLen]; omega
          · go_wp2_with fail
            go_region
            go_wp2_with fail
            go_roundw
            case rel => exact ⟨i, j + 1, p, q - 1, ca, (cb - 1), _, _, L ++ [((s3, s4), (t3, t4))], rfl, rfl, ⟨by have := HPQ.out; omega, by have := HPQ.out; omega⟩, ⟨by omega, by omega⟩, ⟨by omega, by omega⟩, HA'.out, HB2'.out hk2, (HST.out _ _ (by first | rw [if_pos (by omega)] | rw [if_neg (by omega)]) (by first | rw [if_pos (by omega)] | rw [if_neg (by omega)])).1, (HST.out _ _ (by first | rw [if_pos (by omega)] | rw [if_neg (by omega)]) (by first | rw [if_pos (by omega)] | rw [if_neg (by omega)])).2, by rw [List.length_append, List.length_singleton]; have := HLE.out; omega, HO2.out, HB2.out⟩
            case measure => simp only [slLen]; omega
        · by_cases hk1 : ca = 1 <;> by_cases hk2 : cb = 1
          · go_wp2_with fail
            go_region
            go_wp2_with fail
            go_roundw
            case rel => exact ⟨i + 1, j + 1, p - 1, q - 1, 0, 0, _, _, L ++ [((s3, s4), (t3, t4))], rfl, rfl, ⟨by have := HPQ.out; omega, by have := HPQ.out; omega⟩, ⟨by omega, by omega⟩, ⟨by omega, by omega⟩, HA1.out hk1, HB1'.out hk2, (HST.out _ _ (by first | rw [if_pos (by omega)] | rw [if_neg (by omega)]) (by first | rw [if_pos (by omega)] | rw [if_neg (by omega)])).1, (HST.out _ _ (by first | rw [if_pos (by omega)] | rw [if_neg (by omega)]) (by first | rw [if_pos (by omega)] | rw [if_neg (by omega)])).2, by rw [List.length_append, List.length_singleton]; have := HLE.out; omega, HO2.out, HB2.out⟩
            case measure => simp only [slLen]; omega
          · go_wp2_with fail
            go_region
            go_wp2_with fail
            go_roundw
            case rel => exact ⟨i + 1, j + 1, p - 1, q - 1, 0, (cb - 1), _, _, L ++ [((s3, s4), (t3, t4))], rfl, rfl, ⟨by have := HPQ.out; omega, by have := HPQ.out; omega⟩, ⟨by omega, by omega⟩, ⟨by omega, by omega⟩, HA1.out hk1, HB2'.out hk2, (HST.out _ _ (by first | rw [if_pos (by omega)] | rw [if_neg (by omega)]) (by first | rw [if_pos (by omega)] | rw [if_neg (by omega)])).1, (HST.out _ _ (by first | rw [if_pos (by omega)] | rw [if_neg (by omega)]) (by first | rw [if_pos (by omega)] | rw [if_neg (by omega)])).2, by rw [List.length_append, List.length_singleton]; have := HLE.out; omega, HO2.out, HB2.out⟩
            case measure => simp only [slLen]; omega
          · go_wp2_with fail
            go_region
            go_wp2_with fail
            go_roundw
            case rel => exact ⟨i + 1, j + 1, p - 1, q - 1, (ca - 1), 0, _, _, L ++ [((s3, s4), (t3, t4))], rfl, rfl, ⟨by have := HPQ.out; omega, by have := HPQ.out; omega⟩, ⟨by omega, by omega⟩, ⟨by omega, by omega⟩, HA2.out hk1, HB1'.out hk2, (HST.out _ _ (by first | rw [if_pos (by omega)] | rw [if_neg (by omega)]) (by first | rw [if_pos (by omega)] | rw [if_neg (by omega)])).1, (HST.out _ _ (by first | rw [if_pos (by omega)] | rw [if_neg (by omega)]) (by first | rw [if_pos (by omega)] | rw [if_neg (by omega)])).2, by rw [List.length_append, List.length_singleton]; have := HLE.out; omega, HO2.out, HB2.out⟩
            case measure => simp only [slLen]; omega
          · go_wp2_with fail
            go_region
            go_wp2_with fail
            go_roundw
            case rel => exact ⟨i + 1, j + 1, p - 1, q - 1, (ca - 1), (cb - 1), _, _, L ++ [((s3, s4), (t3, t4))], rfl, rfl, ⟨by have := HPQ.out; omega, by have := HPQ.out; omega⟩, ⟨by omega, by omega⟩, ⟨by omega, by omega⟩, HA2.out hk1, HB2'.out hk2, (HST.out _ _ (by first | rw [if_pos (by omega)] | rw [if_neg (by omega)]) (by first | rw [if_pos (by omega)] | rw [if_neg (by omega)])).1, (HST.out _ _ (by first | rw [if_pos (by omega)] | rw [if_neg (by omega)]) (by first | rw [if_pos (by omega)] | rw [if_neg (by omega)])).2, by rw [List.length_append, List.length_singleton]; have := HLE.out; omega, HO2.out, HB2.out⟩
            case measure => simp only [slLen]; omega
    · have HF := Lib.hid (show Thr xs ys L from HLK.out.stop (by have := HPQ.out; have := HLX.out; have := HLY.out; omega))
      have HLN := Lib.hid (show L.length ≤ n + m by have := HLE.out; have := HPQ.out; omega)
      have hgo2 : p = 0 ∨ (0 < p ∧ q = 0) := by omega
      clear hgo
      rcases hgo2 with rfl | ⟨hp0, rfl⟩
      all_goals
        go_wp2_with fail
        go_ret
        exact ⟨_, L, rfl, HLN.out, HOW.out, HF.out, hb⟩
end Go.Proofs.Ytmgoakfnmgngoaa
/- The reference's links and what it adds to them: the same as what fills. No program in this text. -/
namespace Go.Proofs.Ytmgoakfnmgngoaa

theorem fillB_get {xs : List Bool} {lo hi : Nat} (h : lo ≤ hi) (hk : hi ≤ xs.length) (i : Nat) : (fillB xs lo hi)[i]? = if lo ≤ i ∧ i < hi then some true else xs[i]? := by
  unfold fillB
  rcases Nat.lt_or_ge i lo with h1 | h1
  · rw [if_neg (by omega), List.append_assoc, List.getElem?_append_left (by simp; omega), List.getElem?_take, if_pos h1]
  · rcases Nat.lt_or_ge i hi with h2 | h2
    · rw [if_pos ⟨h1, h2⟩, List.getElem?_append_left (by simp; omega), List.getElem?_append_right (by simp; omega), List.getElem?_replicate, if_pos (by simp; omega)]
    · rw [if_neg (by omega), List.getElem?_append_right (by simp; omega), List.getElem?_drop]
      congr 1
      simp; omega
/-- A link in range, its ends natural numbers. -/
def RealC (n m : Nat) (c : Cl) : Prop := c = (ncOf c).cl ∧ (ncOf c).real ∧ (ncOf c).b ≤ n ∧ (ncOf c).d ≤ m
theorem linked_fold {n m : Nat} (i : Nat) : ∀ (l : List Cl) (xs : List Bool), xs.length = n → (∀ x ∈ l, RealC n m x) → (l.foldl linkStep xs).length = n ∧ ((l.foldl linkStep xs)[i]? = some true ↔ xs[i]? = some true ∨ ∃ y ∈ l.map ncOf, y.a ≤ i ∧ i < y.b)
  | [], xs, hl, _ => ⟨hl, by simp⟩
  | c :: l, xs, hl, h => by
    obtain ⟨e, h1, h2, h3⟩ := h c (List.mem_cons_self ..)
    have e1 : linkStep xs c = fillB xs (ncOf c).a (ncOf c).b := rfl
    have hb : (ncOf c).b ≤ xs.length := by omega
    have hle := Nat.le_of_lt h1.1
    obtain ⟨r1, r2⟩ := linked_fold i l (linkStep xs c) (by rw [e1, fillB_len hle hb, hl]) (fun x hx => h x (List.mem_cons_of_mem _ hx))
    rw [List.foldl_cons]
    refine ⟨r1, r2.trans ?_⟩
    rw [e1, fillB_get hle hb]
    simp only [List.map_cons, List.mem_cons, exists_eq_or_imp]
    by_cases hc : (ncOf c).a ≤ i ∧ i < (ncOf c).b
    · simp [hc]
    · simp [hc]
theorem linked_iff {n m : Nat} {l : List Cl} (h : ∀ x ∈ l, RealC n m x) (i : Nat) : (linkedS n l)[i]? = some true ↔ ∃ y ∈ l.map ncOf, y.a ≤ i ∧ i < y.b := by
  have := (linked_fold (m := m) i l (List.replicate n false) (by simp) h).2
  unfold linkedS
  rw [this, List.getElem?_replicate]
  constructor
  · rintro (h | h)
    · split at h <;> cases h
    · exact h
  · exact .inr
theorem linked_len {n m : Nat} {l : List Cl} (h : ∀ x ∈ l, RealC n m x) : (linkedS n l).length = n := (linked_fold (m := m) 0 l (List.replicate n false) (by simp) h).1
/-- What joins each place that no link has to the one ahead of it, below k. -/
def backC (i : Nat) : Cl := (((i : Int) - 1, (i : Int) + 1), (0, 0))
def backAt (h : List Bool) (i : Nat) : Option Cl := if i = 0 then none else if h[i]? = some true then none else some (backC i)
def backTo (h : List Bool) (k : Nat) : List Cl := (List.range k).filterMap (backAt h)
theorem backTo_one (h : List Bool) : backTo h 1 = [] := rfl
theorem backTo_yes {h : List Bool} {k : Nat} (hk : h[k]? = some true) : backTo h (k + 1) = backTo h k := by
  unfold backTo
  rw [List.range_succ, List.filterMap_append]
  simp [backAt, hk]
theorem backTo_no {h : List Bool} {k : Nat} (h0 : 0 < k) (hk : h[k]? = some false) : backTo h (k + 1) = backTo h k ++ [backC k] := by
  unfold backTo
  rw [List.range_succ, List.filterMap_append]
  have : k ≠ 0 := by omega
  simp [backAt, hk, this]
theorem backTo_len (h : List Bool) (k : Nat) : (backTo h k).length ≤ k := by
  unfold backTo
  exact Nat.le_trans (List.length_filterMap_le _ _) (by simp)
theorem ncOf_back {i : Nat} (h : i ≠ 0) : ncOf (backC i) = ⟨i - 1, i + 1, 0, 0⟩ := by
  unfold ncOf backC
  simp only [NC.mk.injEq]
  omega
theorem aheadFrom_no : ∀ (l : List Bool) (k : Nat), (∀ j : Nat, l[j]? ≠ some true) → aheadFrom l k = []
  | [], _, _ => rfl
  | true :: _, _, h => absurd rfl (h 0)
  | false :: l, k, h => by
    rw [aheadFrom]
    exact aheadFrom_no l (k + 1) (fun j hj => h (j + 1) (by simpa using hj))
theorem aheadFrom_at : ∀ (l : List Bool) (k j : Nat), l[j]? = some true → (∀ i : Nat, i < j → l[i]? ≠ some true) → aheadFrom l k = if 0 < k + j then [((0, ((k + j : Nat) : Int) + 1), (0, 0))] else []
  | [], _, _, h, _ => by simp at h
  | true :: l, k, j, h, h2 => by
    have : j = 0 := by
      rcases Nat.eq_zero_or_pos j with e | e
      · exact e
      · exact absurd rfl (h2 0 e)
    subst this
    rfl
  | false :: l, k, 0, h, _ => by simp at h
  | false :: l, k, j + 1, h, h2 => by
    rw [aheadFrom, aheadFrom_at l (k + 1) j (by simpa using h) (fun i hi h9 => h2 (i + 1) (by omega) (by simpa using h9)), show k + 1 + j = k + (j + 1) by omega]
theorem ahead_fill {n m : Nat} {l : List Cl} (h : ∀ x ∈ l, RealC n m x) (hne : l ≠ []) : (aheadS (linkedS n l)).map ncOf = fillAhead (l.map ncOf) := by
  have hreal : ∀ y ∈ l.map ncOf, y.real := fun y hy => by
    obtain ⟨x, hx, rfl⟩ := List.mem_map.1 hy
    exact (h x hx).2.1
  obtain ⟨c, l', e⟩ := List.exists_cons_of_ne_nil hne
  obtain ⟨f, hf⟩ := first_of (L := l.map ncOf) ⟨ncOf c, by rw [e]; exact List.mem_cons_self .., hreal _ (by rw [e]; exact List.mem_cons_self ..)⟩
  obtain ⟨⟨y, hy, hyr, hya⟩, hmin⟩ := id hf
  have h1 : (linkedS n l)[f]? = some true := (linked_iff h f).2 ⟨y, hy, by omega, by have := hyr.1; omega⟩
  have h2 : ∀ i, i < f → (linkedS n l)[i]? ≠ some true := fun i hi h9 => by
    obtain ⟨z, hz, z1, z2⟩ := (linked_iff h i).1 h9
    have := hmin z hz (hreal z hz)
    omega
  unfold aheadS
  rw [aheadFrom_at _ 0 f h1 h2, Nat.zero_add]
  unfold fillAhead
  by_cases h0 : 0 < f
  · have hex : ∃ f, FirstOf (l.map ncOf) f ∧ 0 < f := ⟨f, hf, h0⟩
    rw [if_pos h0, dif_pos hex]
    have e := (Classical.choose_spec hex).1.only hf
    rw [e]
    unfold ncOf
    simp
  · rw [if_neg h0, dif_neg (fun ⟨g, hg, hg0⟩ => h0 (by rw [← hg.only hf]; exact hg0))]
    rfl
/-- All links of the reference. -/
def allC (n : Nat) (l : List Cl) : List Cl := l ++ backTo (linkedS n l) n ++ aheadS (linkedS n l)
theorem all_fills {n m : Nat} {l : List Cl} (h : ∀ x ∈ l, RealC n m x) (hne : l ≠ []) (x : NC) : x ∈ l.map ncOf ++ fillsOf n (l.map ncOf) ↔ x ∈ (allC n l).map ncOf := by
  unfold allC fillsOf
  rw [List.map_append, List.map_append, ahead_fill h hne, List.append_assoc]
  simp only [List.mem_append]
  have key : x ∈ (List.range n).filterMap (fillAt (l.map ncOf)) ↔ x ∈ (backTo (linkedS n l) n).map ncOf := by
    unfold backTo
    simp only [List.mem_filterMap, List.mem_map, List.mem_range]
    constructor
    · rintro ⟨i, hi, hf⟩
      unfold fillAt at hf
      split at hf
      · cases hf
      · rename_i hno
        injection hf with hf
        have h0 : i ≠ 0 := fun e => hno (.inl e)
        refine ⟨backC i, ⟨i, hi, ?_⟩, by rw [ncOf_back h0, hf]⟩
        unfold backAt
        rw [if_neg h0, if_neg (fun h9 => hno (.inr ((linked_iff h i).1 h9)))]
    · rintro ⟨c, ⟨i, hi, hb⟩, rfl⟩
      unfold backAt at hb
      split at hb
      · cases hb
      · rename_i h0
        split at hb
        · cases hb
        · rename_i h1
          injection hb with hb
          subst hb
          refine ⟨i, hi, ?_⟩
          unfold fillAt
          rw [if_neg (fun h9 => by rcases h9 with h9 | h9; exact h0 h9; exact h1 ((linked_iff h i).2 h9)), ncOf_back h0]
  rw [key]
/-- A link of all: its ends. -/
def LinkC (n m : Nat) (c : Cl) : Prop := c = (ncOf c).cl ∧ (ncOf c).a < (ncOf c).b ∧ (ncOf c).b ≤ n ∧ (((ncOf c).c < (ncOf c).d ∧ (ncOf c).d ≤ m) ∨ ((ncOf c).c = 0 ∧ (ncOf c).d = 0))
theorem all_link {n m : Nat} {l : List Cl} (h : ∀ x ∈ l, RealC n m x) {c : Cl} (hc : c ∈ allC n l) : LinkC n m c := by
  unfold allC at hc
  rcases List.mem_append.1 hc with hc | hc
  · rcases List.mem_append.1 hc with hc | hc
    · obtain ⟨e, h1, h2, h3⟩ := h c hc
      exact ⟨e, h1.1, h2, .inl ⟨h1.2, h3⟩⟩
    · unfold backTo at hc
      obtain ⟨i, hi, hb⟩ := List.mem_filterMap.1 hc
      rw [List.mem_range] at hi
      unfold backAt at hb
      split at hb
      · cases hb
      · rename_i h0
        split at hb
        · cases hb
        · injection hb with hb
          subst hb
          unfold LinkC
          rw [ncOf_back h0]
          refine ⟨?_, by simp only; omega, by simp only; omega, .inr ⟨rfl, rfl⟩⟩
          unfold backC NC.cl
          simp only [Prod.mk.injEq]
          omega
  · have hl := linked_len (m := m) h
    have hh : ∀ (l : List Bool) (k : Nat), c ∈ aheadFrom l k → ∃ j, k ≤ j ∧ j < k + l.length ∧ 0 < j ∧ c = ((0, (j : Int) + 1), (0, 0)) := by
      intro l
      induction l with
      | nil => intro k hk; cases hk
      | cons b l ih =>
        intro k hk
        cases b with
        | true =>
          rw [aheadFrom] at hk
          split at hk
          · exact ⟨k, Nat.le_refl _, by simp, by assumption, List.mem_singleton.1 hk⟩
          · cases hk
        | false =>
          rw [aheadFrom] at hk
          obtain ⟨j, j1, j2, j3, j4⟩ := ih (k + 1) hk
          exact ⟨j, by omega, by simp; omega, j3, j4⟩
    obtain ⟨j, j1, j2, j3, rfl⟩ := hh _ 0 hc
    rw [hl] at j2
    unfold LinkC ncOf NC.cl
    simp only [Prod.mk.injEq]
    omega
theorem all_len {n m : Nat} {l : List Cl} (h : ∀ x ∈ l, RealC n m x) : (allC n l).length ≤ l.length + n + 1 := by
  unfold allC
  rw [List.length_append, List.length_append]
  have h1 := backTo_len (linkedS n l) n
  have h2 : ∀ (l : List Bool) (k : Nat), (aheadFrom l k).length ≤ 1 := by
    intro l
    induction l with
    | nil => intro k; simp [aheadFrom]
    | cons b l ih =>
      intro k
      cases b with
      | true => rw [aheadFrom]; split <;> simp
      | false => rw [aheadFrom]; exact ih _
  have h3 := h2 (linkedS n l) 0
  unfold aheadS
  omega
end Go.Proofs.Ytmgoakfnmgngoaa
/- The reference's turn, walked: labels of both sides in memory. -/
namespace Go.Proofs.Ytmgoakfnmgngoaa
open Go.RowKit

/-- Both sides' labels, each in a row of its own. -/
structure LabM (w : World) (gi go ci co n m : Nat) (lab : Bool → List Int) : Prop where
  hi : w.ownsRow 0 3 1 (.slice (some ⟨gi, 0, none⟩) n ci) n ((lab false).map (Value.int .i64))
  ho : w.ownsRow 0 3 1 (.slice (some ⟨go, 0, none⟩) m co) m ((lab true).map (Value.int .i64))
  ne : gi ≠ go
section
variable {w w' : World} {gi go ci co n m : Nat} {lab : Bool → List Int}
theorem LabM.below (h : LabM w gi go ci co n m lab) (hb : Below w.heap.size w w') : LabM w' gi go ci co n m lab := ⟨own_below h.hi hb, own_below h.ho hb, h.ne⟩
theorem LabM.alloc (h : LabM w gi go ci co n m lab) (o : Obj) : LabM (w.alloc o) gi go ci co n m lab := h.below (below_new w o)
theorem LabM.lt (h : LabM w gi go ci co n m lab) : gi < w.heap.size ∧ go < w.heap.size := ⟨(h.hi.lt _ rfl).2, (h.ho.lt _ rfl).2⟩
theorem LabM.out (h : LabM w gi go ci co n m lab) {zs : List Int} (ho : w'.ownsRow 0 3 1 (.slice (some ⟨go, 0, none⟩) m co) m (zs.map (Value.int .i64))) (hg : w.grownBy w' (some go)) : LabM w' gi go ci co n m (put lab true zs) :=
  ⟨h.hi.kept hg (.inr (fun e => h.ne (Option.some.inj e))), by rw [put_at]; exact ho, h.ne⟩
theorem LabM.in_ (h : LabM w gi go ci co n m lab) {zs : List Int} (ho : w'.ownsRow 0 3 1 (.slice (some ⟨gi, 0, none⟩) n ci) n (zs.map (Value.int .i64))) (hg : w.grownBy w' (some gi)) : LabM w' gi go ci co n m (put lab false zs) :=
  ⟨by rw [put_at]; exact ho, h.ho.kept hg (.inr (fun e => h.ne (Option.some.inj e).symm)), h.ne⟩
end
theorem Rd.kept {w w' : World} {size n : Nat} {A : Option Addr} {xs : List Value} {S : List Nat} (h : Rd w size A n xs) (hA : ∀ ad, A = some ad → ad.block ∉ S) (hk : Kept w w' S) : Rd w' size A n xs :=
  ⟨h.1, fun hn => by
    obtain ⟨ad, e, hlt, hc⟩ := h.2 hn
    refine ⟨ad, e, Nat.lt_of_lt_of_le hlt hk.size, fun j u hu => ?_⟩
    have := hc j u hu
    unfold World.cell? at this ⊢
    have hb : (ad.add j).block = ad.block := blockAdd ad j
    rw [hb] at this ⊢
    rw [hk.block _ hlt (hA ad e)]
    exact this⟩
theorem in_two {gi go b : Nat} (h1 : gi < b) (h2 : go < b) : b ∉ [gi, go] := by simp; omega
set_option maxRecDepth 100000 in
set_option maxHeartbeats 4000000 in
theorem refTurn_any (gi go ci co n m q c : Nat) (A : Option Addr) (l : List Cl) (lab : Bool → List Int) (w : World) (hM : LabM w gi go ci co n m lab) (hr : Rd w 4 A q (cellsC l)) (hA : ∀ ad, A = some ad → ad.block ∉ [gi, go]) (hl : ∀ x ∈ l, LinkC n m x)
    (hs : SoundLab (l.map ncOf) lab) (hp : PosLab lab) (hlx : (lab false).length = n) (hly : (lab true).length = m) (hn : n ≤ 16777216) (hm : m ≤ 16777216) (hq : q ≤ 100000000) :
    Calls Try.prog 54 #[.slice (some ⟨gi, 0, none⟩) n ci, .slice (some ⟨go, 0, none⟩) m co, .slice A q c] w fun e w' => ∃ lab' ch, e = .returned (.bool ch) ∧ LabM w' gi go ci co n m lab' ∧ TurnOk (l.map ncOf) n m lab lab' ch ∧ Kept w w' [gi, go] := by
  have hlen : l.length = q := by have := hr.1; rw [cellsC_len] at this; omega
  have HL := Lib.hid hlen
  have HR := Lib.hid hr
  have HS0 := Lib.hid (show LinkSt (l.map ncOf) n m 0 lab lab false from ⟨hlx, hly, hs, hp, Went.refl _, fun _ j x hj => absurd hj (Nat.not_lt_zero _)⟩)
  have HM := Lib.hid hM
  obtain ⟨g1, g2⟩ := hM.lt
  clear hlen hr hs hp hlx hly hM
  go_enter Try.func54, Try.ntmps54
  go_wp2_with fail
  go_loopw [7, 8] (fun b i wr => ∃ (k : Nat) (lab' : Bool → List Int) (ch : Bool), k ≤ q ∧ i = .int .i64 (k : Int) ∧ b = .bool ch ∧ LabM wr gi go ci co n m lab' ∧ LinkSt (l.map ncOf) n m k lab lab' ch ∧ Kept w wr [gi, go]) (fun _ i _ => q - (intOf i).toNat)
  case atStart => exact ⟨0, lab, false, Nat.zero_le _, rfl, rfl, HM.out, HS0.out, Kept.refl _ _⟩
  case round =>
    obtain ⟨k, lab1, ch, hk, rfl, rfl, hM1, hS1, hK1⟩ := hrel
    by_cases hlt : k < q
    · obtain ⟨x, hx⟩ : ∃ x, l[k]? = some x := ⟨_, List.getElem?_eq_getElem (by rw [HL.out]; exact hlt)⟩
      obtain ⟨hxe, ha, hbn, hcd⟩ := hl x (List.mem_of_getElem? hx)
      have hN : (l.map ncOf)[k]? = some (ncOf x) := by rw [List.getElem?_map, hx]; rfl
      obtain ⟨ad, rfl, hab, c0, c1, c2, c3⟩ := (HR.out.kept hA hK1).clus hx
      obtain ⟨y, hy⟩ : ∃ y, ncOf x = y := ⟨_, rfl⟩
      rw [hy] at hxe ha hbn hcd hN
      rw [hxe] at c0 c1 c2 c3
      obtain ⟨a, b, cc, d⟩ := y
      simp only [NC.cl] at c0 c1 c2 c3 ha hbn hcd
      clear hxe hy hx
      have hLx := hS1.lx
      have hLy := hS1.ly
      have l1 := hM1.lt
      have HS1 := Lib.hid hS1
      have HN := Lib.hid hN
      have HLX := Lib.hid hLx
      have HLY := Lib.hid hLy
      have HK1 := Lib.hid hK1
      clear hS1 hN hLx hLy hK1
      have hM2 := hM1.alloc (.cells #[.int .i64 (a : Int), .int .i64 (b : Int), .int .i64 (cc : Int), .int .i64 (d : Int)] 33)
      have hnw := cells_new wr [.int .i64 (a : Int), .int .i64 (b : Int), .int .i64 (cc : Int), .int .i64 (d : Int)] 33
      have d0 := hnw 0 _ rfl
      have d1 := hnw 1 _ rfl
      have d2 := hnw 2 _ rfl
      have d3 := hnw 3 _ rfl
      rw [addNew] at d0 d1 d2 d3
      have HK2 := Lib.hid (HK1.out.trans (Kept.of_below (below_new wr (.cells #[.int .i64 (a : Int), .int .i64 (b : Int), .int .i64 (cc : Int), .int .i64 (d : Int)] 33)) [gi, go]))
      have HLE := Lib.hid (fun (w : World) (h : LabM w gi go ci co n m lab1) => refLeast_any (some ⟨gi, 0, none⟩) n ci a b (lab1 false) w (Rd.of_own h.hi) (by omega) hbn (by omega))
      have HM2 := Lib.hid hM2
      clear hnw hM1 hM2
      obtain ⟨v0, hv0⟩ : ∃ v0, leastS (lab1 false) a b = v0 := ⟨_, rfl⟩
      rw [hv0] at HLE
      have HV0 := Lib.hid hv0
      clear hv0
      go_wp2_with fail
      refine (HLE.out _ HM2.out).mono ?_
      rintro e w1 ⟨rfl, hb1⟩
      have HM3 := Lib.hid (HM2.out.below hb1)
      have HK3 := Lib.hid (HK2.out.trans (Kept.of_below hb1 [gi, go]))
      have e0 := cell_below hb1 d0
      have e1 := cell_below hb1 d1
      have e2 := cell_below hb1 d2
      have e3 := cell_below hb1 d3
      clear hb1 d0 d1 d2 d3 c0 c1 c2 c3
      obtain ⟨bk, hbk⟩ : ∃ bk, wr.heap.size = bk := ⟨_, rfl⟩
      simp only [hbk] at e0 e1 e2 e3 l1
      go_wp2_with fail
      try simp only [hbk]
      refine (refRight_any (cc : Int) (d : Int) _).mono ?_
      rintro e w2 ⟨rfl, hb2⟩
      have HM4 := Lib.hid (HM3.out.below hb2)
      have HK4 := Lib.hid (HK3.out.trans (Kept.of_below hb2 [gi, go]))
      have f0 := cell_below hb2 e0
      have f1 := cell_below hb2 e1
      have f2 := cell_below hb2 e2
      have f3 := cell_below hb2 e3
      clear hb2 e0 e1 e2 e3
      obtain ⟨hcd, hdm⟩ | ⟨rfl, rfl⟩ := hcd
      · rw [show rightB ((cc : Int), (d : Int)) = true by unfold rightB; exact decide_eq_true (by omega)]
        have HL2 := Lib.hid (fun (w : World) (h : LabM w gi go ci co n m lab1) => refLeast_any (some ⟨go, 0, none⟩) m co cc d (lab1 true) w (Rd.of_own h.ho) (by omega) hdm (by omega))
        obtain ⟨v1, hv1⟩ : ∃ v1, leastS (lab1 true) cc d = v1 := ⟨_, rfl⟩
        rw [hv1] at HL2
        have HV1 := Lib.hid hv1
        clear hv1
        go_wp2_with fail
        refine (HL2.out _ HM4.out).mono ?_
        rintro e w3 ⟨rfl, hb3⟩
        have HM5 := Lib.hid (HM4.out.below hb3)
        have HK5 := Lib.hid (HK4.out.trans (Kept.of_below hb3 [gi, go]))
        have g0 := cell_below hb3 f0
        have g1 := cell_below hb3 f1
        have g2 := cell_below hb3 f2
        have g3 := cell_below hb3 f3
        clear hb3 f0 f1 f2 f3
        have hstep : ∀ v, v = minI v0 v1 → LinkSt (l.map ncOf) n m (k + 1) lab (put (put lab1 true (setTo (lab1 true) cc d v)) false (setTo (lab1 false) a b v)) (changedB (lab1 false) a b v || (changedB (lab1 true) cc d v || ch)) := fun v hv => link_both HS1.out HN.out ha hbn hcd hdm v (by rw [hv, HV0.out, HV1.out])
        have HST := Lib.hid hstep
        clear hstep
        obtain ⟨v, hv⟩ : ∃ v, min v0 v1 = v := ⟨_, rfl⟩
        have HST2 := Lib.hid (HST.out v (by rw [← hv]; unfold minI; omega))
        have HSM := Lib.hid (fun (w : World) (h : LabM w gi go ci co n m lab1) => refSame_any 0 go co m cc d (lab1 true) v w HLY.out h.ho (Nat.zero_le _) (by omega) hdm (by omega))
        have HSI := Lib.hid (fun (w : World) (h : LabM w gi go ci co n m (put lab1 true (setTo (lab1 true) cc d v))) => refSame_any 0 gi ci n a b (lab1 false) v w HLX.out h.hi (Nat.zero_le _) (by omega) hbn (by omega))
        obtain ⟨p1, hp1⟩ : ∃ p1, changedB (lab1 true) cc d v = p1 := ⟨_, rfl⟩
        obtain ⟨p2, hp2⟩ : ∃ p2, changedB (lab1 false) a b v = p2 := ⟨_, rfl⟩
        rw [hp1] at HST2 HSM
        rw [hp2] at HST2 HSI
        have HVE := Lib.hid hv
        clear hp1 hp2 HST hv
        go_wp2_with fail
        simp only [HVE.out]
        refine (HSM.out _ HM5.out).mono ?_
        rintro e w4 ⟨rfl, ho4, hg4⟩
        have hM6 := HM5.out.out ho4 hg4
        have HM6 := Lib.hid hM6
        have HK6 := Lib.hid (HK5.out.trans (Kept.of_grown hg4 (show go ∈ [gi, go] by simp)))
        have i0 := (hg4.cell_far ⟨bk, 0, none⟩ (cell_lt g0) (by simp; omega)).trans g0
        have i1 := (hg4.cell_far ⟨bk, 1, none⟩ (cell_lt g1) (by simp; omega)).trans g1
        clear g0 g1 g2 g3 ho4 hg4 hM6
        cases p1 <;> cases p2
        all_goals
          go_wp2_with fail
          refine (HSI.out _ HM6.out).mono ?_
          rintro e w5 ⟨rfl, ho5, hg5⟩
          have HM7 := Lib.hid (HM6.out.in_ ho5 hg5)
          have HK7 := Lib.hid (HK6.out.trans (Kept.of_grown hg5 (show gi ∈ [gi, go] by simp)))
          clear i0 i1 ho5 hg5
          go_wp2_with fail
          go_roundw
          case rel => exact ⟨k + 1, _, _, by omega, by go_num, rfl, HM7.out, HST2.out, HK7.out⟩
          case measure => simp [intOf]; omega
      · rw [show rightB (((0 : Nat) : Int), ((0 : Nat) : Int)) = false by decide]
        have HST2 := Lib.hid (link_in HS1.out HN.out ha hbn (Nat.le_refl 0) v0 HV0.out.symm)
        have HSI := Lib.hid (fun (w : World) (h : LabM w gi go ci co n m lab1) => refSame_any 0 gi ci n a b (lab1 false) v0 w HLX.out h.hi (Nat.zero_le _) (by omega) hbn (by omega))
        simp only at HST2
        obtain ⟨p2, hp2⟩ : ∃ p2, changedB (lab1 false) a b v0 = p2 := ⟨_, rfl⟩
        rw [hp2] at HST2 HSI
        clear hp2 f2 f3
        cases p2
        all_goals
          go_wp2_with fail
          refine (HSI.out _ HM4.out).mono ?_
          rintro e w5 ⟨rfl, ho5, hg5⟩
          have HM7 := Lib.hid (HM4.out.in_ ho5 hg5)
          have HK7 := Lib.hid (HK4.out.trans (Kept.of_grown hg5 (show gi ∈ [gi, go] by simp)))
          clear ho5 hg5
          go_wp2_with fail
          go_roundw
          case rel => exact ⟨k + 1, _, _, by omega, by go_num, rfl, HM7.out, HST2.out, HK7.out⟩
          case measure => simp [intOf]; omega
    · have hkq : k = q := by omega
      have HE := Lib.hid (turn_end (show LinkSt (l.map ncOf) n m (l.map ncOf).length lab lab1 ch by rw [List.length_map, HL.out, ← hkq]; exact hS1))
      obtain ⟨p1, p2, h1, h2, h3⟩ := HE.out
      have HW1 := Lib.hid (fun (w : World) (h : LabM w gi go ci co n m lab1) => refWhole_any 0 gi ci n (lab1 false) w hS1.lx h.hi (Nat.zero_le _) (by omega))
      have HW2 := Lib.hid (fun (w : World) (h : LabM w gi go ci co n m (put lab1 false (wholeFrom n 0 (lab1 false, false)).1)) => refWhole_any 0 go co m (lab1 true) w hS1.ly h.ho (Nat.zero_le _) (by omega))
      have HT := Lib.hid h3
      rw [h1] at HW1
      rw [h2] at HW2
      have HM1 := Lib.hid hM1
      have HK1 := Lib.hid hK1
      clear h1 h2 h3 HE hkq hS1 hM1 hK1
      have e2 : put (put lab1 false (wholeFrom n 0 (lab1 false, false)).1) true (wholeFrom m 0 (lab1 true, false)).1 = labs (wholeFrom n 0 (lab1 false, false)).1 (wholeFrom m 0 (lab1 true, false)).1 := by
        funext t; cases t <;> rfl
      have HE2 := Lib.hid e2
      clear e2
      cases ch <;> cases p1 <;> cases p2
      all_goals
        go_wp2_with fail
        refine (HW1.out _ HM1.out).mono ?_
        rintro e w4 ⟨rfl, ho4, hg4⟩
        have HM6 := Lib.hid (HM1.out.in_ ho4 hg4)
        have HK6 := Lib.hid (HK1.out.trans (Kept.of_grown hg4 (show gi ∈ [gi, go] by simp)))
        clear ho4 hg4
        go_wp2_with fail
        refine (HW2.out _ HM6.out).mono ?_
        rintro e w5 ⟨rfl, ho5, hg5⟩
        have HM7 := Lib.hid (HM6.out.out ho5 hg5)
        have HK7 := Lib.hid (HK6.out.trans (Kept.of_grown hg5 (show go ∈ [gi, go] by simp)))
        rw [HE2.out] at HM7
        clear ho5 hg5
        go_wp2_with fail
        go_ret
        exact ⟨_, _, rfl, HM7.out, HT.out, HK7.out⟩
end Go.Proofs.Ytmgoakfnmgngoaa
/- The reference's wrong: what is wrong with links. -/
namespace Go.Proofs.Ytmgoakfnmgngoaa
open Go.RowKit

def outStep (xs : List Bool) (c : Cl) : List Bool := fillB xs c.2.1.toNat c.2.2.toNat
def outedS (m : Nat) (l : List Cl) : List Bool := l.foldl outStep (List.replicate m false)
/-- What is wrong with links, as a number. -/
def wrongS (n m : Nat) (l : List Cl) : Int := if fitB (n : Int) (m : Int) l = false then 1 else if m = 0 ∧ 0 < n then 8 else if n = 0 ∧ 0 < m then 13 else if (outedS m l).all id = true then 0 else 13
theorem boolSliceB : SliceOf Try.prog 77 4 1 1 := .mk_ (z := .bool false) Try.underlying77 (by kernel_rfl) rfl
theorem all_take {xs : List Bool} {k : Nat} (h : xs[k]? = some true) (ht : (xs.take k).all id = true) : (xs.take (k + 1)).all id = true := by
  rw [List.take_add_one, h, List.all_append, ht]
  rfl
theorem all_not {xs : List Bool} {k : Nat} (h : xs[k]? = some false) : xs.all id = false := by
  rw [List.all_eq_false]
  exact ⟨false, List.mem_of_getElem? h, by simp⟩
set_option maxRecDepth 100000 in
set_option maxHeartbeats 4000000 in
theorem refWrong_any (n m q c : Nat) (A : Option Addr) (l : List Cl) (w : World) (hr : Rd w 4 A q (cellsC l)) (hq : q ≤ 1000000) (hn : n ≤ 16777216) (hm : m ≤ 16777216) :
    Calls Try.prog 51 #[.int .i64 (n : Int), .int .i64 (m : Int), .slice A q c] w fun e w' => e = .returned (.int .i64 (wrongS n m l)) ∧ Below w.heap.size w w' := by
  have hlen : l.length = q := by have := hr.1; rw [cellsC_len] at this; omega
  have HL := Lib.hid hlen
  have HR := Lib.hid hr
  have HN := Lib.hid (show fitN (n : Int) (m : Int) = true by unfold fitN; exact decide_eq_true (by omega))
  have HW : Hid (wrongS n m l = if fitB (n : Int) (m : Int) l = false then 1 else if m = 0 ∧ 0 < n then 8 else if n = 0 ∧ 0 < m then 13 else if (outedS m l).all id = true then 0 else 13) := Lib.hid rfl
  clear hlen hr
  generalize wrongS n m l = W at *
  go_enter Try.func51, Try.ntmps51
  go_wp2_with (at_make; refine wpList_mkFull rfl _ _ _ rfl (base := w.heap.size) (z := .bool false) (bytes := 1) Try.underlying77 (by kernel_rfl) rfl _ _ m rfl rfl rfl rfl (by omega) (by unfold maxLen; omega) (Nat.le_refl _) ?_; intro w0 hown0 hg0)
  have hb0 : Below w.heap.size w w0 := (Below.refl _ _).grown hg0 (Nat.le_refl _) (fun k h => by cases h)
  go_loopw [8] (fun i wr => ∃ (k : Nat) (xs : List Bool), k ≤ q ∧ i = .int .i64 (k : Int) ∧ fitB (n : Int) (m : Int) l = (l.drop k).all (fitC n m) ∧ outedS m l = (l.drop k).foldl outStep xs ∧ xs.length = m ∧ wr.ownsRow w.heap.size 4 1 (.slice (some ⟨w.heap.size, 0, none⟩) m m) m (xs.map Value.bool) ∧ Below w.heap.size w wr ∧ w.heap.size < wr.heap.size) (fun i _ => q - (intOf i).toNat)
  case atStart =>
    exact ⟨0, List.replicate m false, Nat.zero_le _, rfl, by unfold fitB; rw [HN.out, List.drop_zero]; rfl, rfl, by simp, by rw [List.map_replicate]; exact hown0, hb0, (hown0.lt _ rfl).2⟩
  case round =>
    obtain ⟨k, xs, hk, rfl, hf, hh, hxl, hown, hb, hlt0⟩ := hrel
    have HF := Lib.hid hf
    have HH := Lib.hid hh
    have HX := Lib.hid hxl
    clear hf hh hxl hown0 hg0 hb0
    by_cases hlt : k < q
    · obtain ⟨x, hx⟩ : ∃ x, l[k]? = some x := ⟨_, List.getElem?_eq_getElem (by rw [HL.out]; exact hlt)⟩
      have HS := Lib.hid (all_split (fitC n m) hx)
      have HD := Lib.hid (dropCons hx)
      obtain ⟨ad, rfl, hab, c0, c1, c2, c3⟩ := (HR.out.below hb).clus hx
      obtain ⟨⟨x1, x2⟩, ⟨x3, x4⟩⟩ := x
      simp only at c0 c1 c2 c3
      clear hx
      have hb1 := hb.alloc hb.size (.cells #[.int .i64 x1, .int .i64 x2, .int .i64 x3, .int .i64 x4] 33)
      have hown1 := hown.alloc (.cells #[.int .i64 x1, .int .i64 x2, .int .i64 x3, .int .i64 x4] 33)
      have hnw := cells_new wr [.int .i64 x1, .int .i64 x2, .int .i64 x3, .int .i64 x4] 33
      have d1 := hnw 1 _ rfl
      have d2 := hnw 2 _ rfl
      have d3 := hnw 3 _ rfl
      rw [addNew] at d1 d2 d3
      have HO1 := Lib.hid hown1
      have HO := Lib.hid hown
      clear hnw hown1 hown
      have HFC := Lib.hid (show fitC n m ((x1, x2), (x3, x4)) = (rightB (x1, x2) && decide (x2 ≤ n) && (rightB (x3, x4) && decide (x4 ≤ m))) from rfl)
      go_wp2_with fail
      refine (refRight_any x1 x2 _).mono ?_
      rintro e w1 ⟨rfl, hw1⟩
      have g1 := cell_below hw1 d1
      have g2 := cell_below hw1 d2
      have g3 := cell_below hw1 d3
      have hb2 := hb1.trans (hw1.mono hb1.size)
      have HO2 := Lib.hid (own_below HO1.out hw1)
      clear d1 d2 d3
      rcases h1 : rightB (x1, x2) with _ | _
      · have HV := Lib.hid (show W = 1 by rw [HW.out, HF.out, HS.out, HFC.out, h1]; rfl)
        go_wp2_with fail
        go_ret
        exact ⟨by rw [HV.out]; rfl, hb2⟩
      · go_wp2_with fail
        refine (refRight_any x3 x4 _).mono ?_
        rintro e w2 ⟨rfl, hw2⟩
        have f1 := cell_below hw2 g1
        have f2 := cell_below hw2 g2
        have f3 := cell_below hw2 g3
        have hb3 := hb2.trans (hw2.mono hb2.size)
        have HO3 := Lib.hid (own_below HO2.out hw2)
        have hsz : wr.heap.size < w2.heap.size := cell_lt f1
        clear g1 g2 g3
        rcases h3 : rightB (x3, x4) with _ | _
        · have HV := Lib.hid (show W = 1 by rw [HW.out, HF.out, HS.out, HFC.out, h1, h3]; simp)
          go_wp2_with fail
          go_ret
          exact ⟨by rw [HV.out]; rfl, hb3⟩
        · by_cases h2 : x2 ≤ n
          · by_cases h4 : x4 ≤ m
            · have hx34 : 0 ≤ x3 ∧ x3 < x4 := by unfold rightB at h3; simpa using h3
              obtain ⟨lo, rfl⟩ : ∃ lo : Nat, x3 = lo := ⟨x3.toNat, by omega⟩
              obtain ⟨hi, rfl⟩ : ∃ hi : Nat, x4 = hi := ⟨x4.toNat, by omega⟩
              have hlh : lo < hi ∧ hi ≤ m := by omega
              obtain ⟨hlh, hhn⟩ := hlh
              have HFN := Lib.hid (show fitB (n : Int) (m : Int) l = (l.drop (k + 1)).all (fitC n m) by rw [HF.out, HS.out, HFC.out, h1, h3]; simp [h2, h4])
              have HHN := Lib.hid (show outedS m l = (l.drop (k + 1)).foldl outStep (fillB xs lo hi) by rw [HH.out, HD.out]; rfl)
              have HLE := Lib.hid (show (fillB xs lo hi).length = m by rw [fillB_len (by omega) (by rw [HX.out]; exact hhn), HX.out])
              clear hx34 h1 h3
              obtain ⟨b, hbb⟩ : ∃ b, wr.heap.size = b := ⟨_, rfl⟩
              simp only [hbb] at f1 f2 f3 hsz hlt0
              go_wp2_with fail
              try simp only [hbb]
              go_loopw [10] (fun i ws => ∃ j : Nat, lo ≤ j ∧ j ≤ hi ∧ i = .int .i64 (j : Int) ∧ ws.ownsRow w.heap.size 4 1 (.slice (some ⟨w.heap.size, 0, none⟩) m m) m ((fillB xs lo j).map Value.bool) ∧ Below w.heap.size w ws ∧ ws.cell? ⟨b, 3, none⟩ = some (.int .i64 (hi : Int)) ∧ b < ws.heap.size) (fun i _ => hi - (intOf i).toNat)
              case atStart => exact ⟨lo, Nat.le_refl _, Nat.le_of_lt hlh, rfl, by rw [fillB_start]; exact HO3.out, hb3, f3, hsz⟩
              case round =>
                obtain ⟨j, hlj, hjh, rfl, hownr, hbr, hc3, hbs⟩ := hrel
                clear f1 f2 f3
                by_cases hjt : j < hi
                · have HST0 := Lib.hid (fillB_step (xs := xs) hlj (by rw [HX.out]; omega))
                  have hfx := hownr.frozenAt j
                  obtain ⟨bj, hbj⟩ : ∃ bj, wr.cell? ⟨w.heap.size, j, none⟩ = some bj := ⟨_, by rw [hownr.cellAt j (by omega)]; exact List.getElem?_eq_getElem (by rw [List.length_map, fillB_len hlj (by rw [HX.out]; omega), HX.out]; omega)⟩
                  have hst := hownr.stored j (.bool true)
                  rw [← List.map_set] at hst
                  have HST := Lib.hid hst
                  have hbe := hbr.setCell (p := ⟨w.heap.size, j, none⟩) (Nat.le_refl _) (.bool true)
                  have hc4 : (wr.setCell ⟨w.heap.size, j, none⟩ (.bool true)).cell? ⟨b, 3, none⟩ = some (.int .i64 (hi : Int)) := (World.cell?_setCell_other (h := by first | (simp; done) | (simp; omega)) ..).trans hc3
                  clear hst
                  go_wp2_with fail
                  go_roundw
                  case rel => exact ⟨j + 1, by omega, by omega, by go_num, by rw [← HST0.out]; exact HST.out.1, hbe, hc4, by simpa [World.setCell] using hbs⟩
                  case measure => simp [intOf]; omega
                · have HJ := Lib.hid (show j = hi by omega)
                  go_wp2_with fail
                  go_roundw
                  case rel => exact ⟨k + 1, fillB xs lo hi, by omega, by go_num, HFN.out, HHN.out, HLE.out, by rw [← HJ.out]; exact hownr, hbr, by omega⟩
                  case measure => simp [intOf]; omega
            · have HV := Lib.hid (show W = 1 by rw [HW.out, HF.out, HS.out, HFC.out, h1, h3, decide_eq_false h4]; simp)
              go_wp2_with fail
              go_ret
              exact ⟨by rw [HV.out]; rfl, hb3⟩
          · have HV := Lib.hid (show W = 1 by rw [HW.out, HF.out, HS.out, HFC.out, h1, h3, decide_eq_false h2]; simp)
            go_wp2_with fail
            go_ret
            exact ⟨by rw [HV.out]; rfl, hb3⟩
    · have hkq : k = q := by omega
      have HFT := Lib.hid (show fitB (n : Int) (m : Int) l = true by rw [HF.out, hkq, ← HL.out, List.drop_length]; rfl)
      have HXS := Lib.hid (show outedS m l = xs by rw [HH.out, hkq, ← HL.out, List.drop_length]; rfl)
      have HV : Hid (W = if m = 0 ∧ 0 < n then 8 else if n = 0 ∧ 0 < m then 13 else if xs.all id = true then 0 else 13) := Lib.hid (by rw [HW.out, HFT.out, HXS.out]; rfl)
      clear HFT HXS HW HF HH hkq
      have hc : (m = 0 ∧ 0 < n) ∨ (0 < m ∧ n = 0) ∨ ¬ ((m = 0 ∧ 0 < n) ∨ (n = 0 ∧ 0 < m)) := by omega
      rcases hc with h | h | h
      · have HZ := Lib.hid (show W = 8 by rw [HV.out, if_pos h])
        have g1 : ((m : Int) == 0) = true := by simp; omega
        have g2 : 0 < (n : Int) := by omega
        clear h HV
        go_wp2_with fail
        go_ret
        exact ⟨by rw [HZ.out]; rfl, hb⟩
      · have HZ := Lib.hid (show W = 13 by rw [HV.out, if_neg (by omega), if_pos ⟨h.2, h.1⟩])
        have g1 : ((m : Int) == 0) = false := by simp; omega
        have g2 : ((n : Int) == 0) = true := by simp; omega
        have g3 : 0 < (m : Int) := by omega
        clear h HV
        go_wp2_with fail
        go_ret
        exact ⟨by rw [HZ.out]; rfl, hb⟩
      · have HZ := Lib.hid (show W = if xs.all id = true then 0 else 13 by rw [HV.out, if_neg (fun e => h (.inl e)), if_neg (fun e => h (.inr e))])
        have h2 : (m = 0 ∧ n = 0) ∨ (0 < m ∧ 0 < n) := by omega
        clear h HV
        have hg : ∃ p, ((m : Int) == 0) = p ∧ ((n : Int) == 0) = p ∧ (p = true → ¬ 0 < (n : Int) ∧ ¬ 0 < (m : Int)) := by
          rcases h2 with h2 | h2
          · exact ⟨true, by simp; omega, by simp; omega, fun _ => by omega⟩
          · exact ⟨false, by simp; omega, by simp; omega, fun e => by cases e⟩
        clear h2
        obtain ⟨p, g1, g2, g3⟩ := hg
        have hdone : ∀ (k : Nat), ¬ k < m → k ≤ m → (xs.take k).all id = true → W = 0 := fun k h1 h2 h3 => by
          rw [HZ.out, if_pos]
          rwa [List.take_of_length_le (by rw [HX.out]; omega)] at h3
        have HDN := Lib.hid hdone
        have HBAD := Lib.hid (fun (k : Nat) (h : xs[k]? = some false) => show W = 13 by rw [HZ.out, all_not h]; rfl)
        clear hdone HZ
        cases p
        case' true => obtain ⟨g4, g5⟩ := g3 rfl
        all_goals
          clear g3
          go_wp2_with fail
          go_loopw [11] (fun i ws => ∃ j : Nat, j ≤ m ∧ i = .int .i64 (j : Int) ∧ (xs.take j).all id = true ∧ ws.ownsRow w.heap.size 4 1 (.slice (some ⟨w.heap.size, 0, none⟩) m m) m (xs.map Value.bool) ∧ Below w.heap.size w ws) (fun i _ => m - (intOf i).toNat)
          case atStart => exact ⟨0, Nat.zero_le _, rfl, rfl, hown, hb⟩
          case round =>
            clear hown hb
            obtain ⟨j, hj, rfl, ha, hown, hb⟩ := hrel
            have HA := Lib.hid ha
            clear ha
            by_cases hjm : j < m
            · obtain ⟨y, hy⟩ : ∃ y, xs[j]? = some y := ⟨_, List.getElem?_eq_getElem (by rw [HX.out]; exact hjm)⟩
              have cj : wr.cell? ⟨w.heap.size, j, none⟩ = some (.bool y) := by rw [hown.cellAt j (by omega), List.getElem?_map, hy]; rfl
              have HY := Lib.hid hy
              clear hy
              cases y with
              | true =>
                go_wp2_with fail
                go_roundw
                case rel => exact ⟨j + 1, by omega, by go_num, all_take HY.out HA.out, hown, hb⟩
                case measure => simp [intOf]; omega
              | false =>
                go_wp2_with fail
                go_ret
                exact ⟨by rw [HBAD.out j HY.out]; rfl, hb⟩
            · have HE := Lib.hid (HDN.out j hjm hj HA.out)
              go_wp2_with fail
              go_ret
              exact ⟨by rw [HE.out]; rfl, hb⟩
end Go.Proofs.Ytmgoakfnmgngoaa
/- The reference's Finest, walked: labels, turns till nothing changes, the clusters that they tell. -/
namespace Go.Proofs.Ytmgoakfnmgngoaa
open Go.RowKit

def upI (off : Int) (n k : Nat) : List Int := (List.range n).map fun j => if j < k then off + (j : Int) else 0
theorem upI_len (off : Int) (n k : Nat) : (upI off n k).length = n := by simp [upI]
theorem upI_zero (off : Int) (n : Nat) : upI off n 0 = List.replicate n 0 := by
  apply List.ext_getElem <;> simp [upI]
theorem upI_succ {off : Int} {n k : Nat} : (upI off n k).set k (off + (k : Int)) = upI off n (k + 1) := by
  apply List.ext_getElem
  · simp [upI]
  · intro j h1 h2
    simp only [upI, List.getElem_set, List.getElem_map, List.getElem_range]
    split <;> split <;> (try split) <;> omega
theorem upI_at {off : Int} {n i : Nat} {v : Int} (h : (upI off n n)[i]? = some v) : i < n ∧ v = off + (i : Int) := by
  have hi := (List.getElem?_eq_some_iff.1 h).1
  rw [upI_len] at hi
  unfold upI at h
  rw [List.getElem?_map, List.getElem?_range hi] at h
  simp only [Option.map_some, Option.some.injEq] at h
  rw [if_pos hi] at h
  exact ⟨hi, h.symm⟩
/-- The labels that the reference begins with. -/
def lab0 (n m : Nat) : Bool → List Int := labs (upI 0 n n) (upI (n : Int) m m)
theorem lab0_at {n m : Nat} {p : Pl} {v : Int} (h : lamOf (lab0 n m) p = some v) : (p.1 = false ∧ p.2 < n ∧ v = (p.2 : Int)) ∨ (p.1 = true ∧ v = (n : Int) + (p.2 : Int)) := by
  obtain ⟨s, i⟩ := p
  cases s with
  | false =>
    obtain ⟨h1, h2⟩ := upI_at (off := 0) (show (upI 0 n n)[i]? = some v from h)
    exact .inl ⟨rfl, h1, by omega⟩
  | true =>
    obtain ⟨h1, h2⟩ := upI_at (show (upI (n : Int) m m)[i]? = some v from h)
    exact .inr ⟨rfl, h2⟩
theorem lab0_sound (L : List NC) (n m : Nat) : SoundLab L (lab0 n m) := fun p q v h1 h2 => by
  have : p = q := by
    obtain ⟨s, i⟩ := p
    obtain ⟨t, j⟩ := q
    rcases lab0_at h1 with ⟨a1, a2, a3⟩ | ⟨a1, a2⟩ <;> rcases lab0_at h2 with ⟨b1, b2, b3⟩ | ⟨b1, b2⟩ <;> simp only at a1 b1 <;> subst a1 b1 <;> simp only [Prod.mk.injEq, true_and, reduceCtorEq, false_and]
    all_goals first | omega | (simp only at *; omega)
  rw [this]
  exact .refl _
theorem lab0_pos (n m : Nat) : PosLab (lab0 n m) := fun p v h => by
  rcases lab0_at h with ⟨_, _, h⟩ | ⟨_, h⟩ <;> omega
theorem sum_pos : ∀ (l : List Int), (∀ x ∈ l, 0 ≤ x) → 0 ≤ l.sum
  | [], _ => Int.le_refl _
  | x :: l, h => by
    rw [List.sum_cons]
    have h1 := h x (List.mem_cons_self ..)
    have h2 := sum_pos l (fun y hy => h y (List.mem_cons_of_mem _ hy))
    omega
theorem tot_pos {lab : Bool → List Int} (h : PosLab lab) : 0 ≤ totLab lab := by
  have key : ∀ s, 0 ≤ (lab s).sum := fun s => sum_pos _ fun x hx => by
    obtain ⟨i, hi⟩ := List.getElem?_of_mem hx
    exact h (s, i) x hi
  have h1 := key false
  have h2 := key true
  unfold totLab
  omega
theorem own_blkZ {W : World} {g n : Nat} {xs : List Int} (h : W.heap[g]? = some (.cells (intsZ xs).toArray 3 (0, 0))) (hl : xs.length = n) (hn : n ≤ 100000000) : W.ownsRow 0 3 1 (.slice (some ⟨g, 0, none⟩) n n) n (xs.map (Value.int .i64)) := by
  refine ⟨by simp [hl], .inr ⟨g, n, _, rfl, Nat.zero_le _, h, Nat.le_refl _, by unfold maxLen; omega, ?_, ?_⟩⟩
  · simp [intsZ, hl]
  · simp only [intsZ, Nat.mul_one, List.drop_zero]
    exact List.take_of_length_le (by simp [hl])
theorem labM_new {w1 w2 : World} {n m gi go : Nat} {xs ys : List Int} (h1 : w2.heap[gi]? = some (.cells (intsZ xs).toArray 3 (0, 0))) (h2 : w2.heap[go]? = some (.cells (intsZ ys).toArray 3 (0, 0))) (l1 : xs.length = n) (l2 : ys.length = m) (b1 : n ≤ 100000000) (b2 : m ≤ 100000000) (hne : gi ≠ go) :
    LabM w2 gi go n m n m (labs xs ys) := ⟨own_blkZ h1 l1 b1, own_blkZ h2 l2 b2, hne⟩
theorem two_heap (w : World) (o0 o1 : Obj) : ((w.alloc o0).alloc o1).drew.heap[w.heap.size]? = some o0 ∧ ((w.alloc o0).alloc o1).drew.heap[w.heap.size + 1]? = some o1 ∧ Below w.heap.size w ((w.alloc o0).alloc o1).drew := by
  have h1 := heap_alloc_new (w.alloc o0) o1
  simp only [World.size_alloc] at h1
  refine ⟨?_, by simp only [heap_drew]; exact h1, (((Below.refl _ _).alloc (Nat.le_refl _) _).alloc (by simp) _).drew⟩
  simp only [heap_drew]
  rw [heap_alloc_old (h := by simp)]
  exact heap_alloc_new w _
end Go.Proofs.Ytmgoakfnmgngoaa
/- Labels in memory: one stored; the turns' measure; what the clusters are made of. -/
namespace Go.Proofs.Ytmgoakfnmgngoaa
open Go.RowKit

section
variable {w : World} {gi go ci co n m : Nat} {lab : Bool → List Int}
theorem LabM.set_in (h : LabM w gi go ci co n m lab) (k : Nat) (v : Int) : LabM (w.setCell ⟨gi, k, none⟩ (.int .i64 v)) gi go ci co n m (put lab false ((lab false).set k v)) := by
  refine ⟨?_, own_set_far (show w.ownsRow 0 3 1 (.slice (some ⟨go, 0, none⟩) m co) m (((put lab false ((lab false).set k v)) true).map (Value.int .i64)) by rw [put_other lab (by decide)]; exact h.ho) (fun e => h.ne (Option.some.inj e).symm), h.ne⟩
  have := h.hi.stored k (.int .i64 v)
  rw [put_at, List.map_set]
  exact this.1
theorem LabM.set_out (h : LabM w gi go ci co n m lab) (k : Nat) (v : Int) : LabM (w.setCell ⟨go, k, none⟩ (.int .i64 v)) gi go ci co n m (put lab true ((lab true).set k v)) := by
  refine ⟨own_set_far (show w.ownsRow 0 3 1 (.slice (some ⟨gi, 0, none⟩) n ci) n (((put lab true ((lab true).set k v)) false).map (Value.int .i64)) by rw [put_other lab (by decide)]; exact h.hi) (fun e => h.ne (Option.some.inj e)), ?_, h.ne⟩
  have := h.ho.stored k (.int .i64 v)
  rw [put_at, List.map_set]
  exact this.1
theorem LabM.grown {w' : World} {b : Option Nat} (h : LabM w gi go ci co n m lab) (hg : w.grownBy w' b) (h1 : b ≠ some gi) (h2 : b ≠ some go) : LabM w' gi go ci co n m lab :=
  ⟨h.hi.kept hg (.inr (fun e => h1 e.symm)), h.ho.kept hg (.inr (fun e => h2 e.symm)), h.ne⟩
end
theorem cellsC_one : ∀ (l : List Cl), ∀ u ∈ cellsC l, u.oneCell' = true
  | [], u, h => by simp [cellsC] at h
  | c :: l, u, h => by
    have h' : u ∈ encC c ++ cellsC l := h
    rcases List.mem_append.1 h' with h | h
    · simp [encC] at h
      rcases h with rfl | rfl | rfl | rfl <;> rfl
    · exact cellsC_one l u h
theorem cellsC_append (a b : List Cl) : cellsC (a ++ b) = cellsC a ++ cellsC b := by simp [cellsC]
theorem below_self' {w a b : World} (h : Below w.heap.size w a) (k : Below a.heap.size a b) : Below w.heap.size w b := h.trans (k.mono h.size)
/-- The state while the reference puts its links together. -/
structure L3 (w ws : World) (gi go n m : Nat) (lab : Bool → List Int) (H : Option Addr) (ch : Nat) (h : List Bool) (b0 : Nat) (v : Value) (L : List Cl) : Prop where
  lab : LabM ws gi go n m n m lab
  has : ws.ownsRow 0 4 1 (.slice H n ch) n (h.map Value.bool)
  all : ws.ownsRow b0 33 4 v L.length (cellsC L)
  far : gi < b0 ∧ go < b0 ∧ w.heap.size ≤ b0 ∧ b0 ≤ ws.heap.size
  ne : (Value.slice H n ch).ownBlock = none ∨ (Value.slice H n ch).ownBlock ≠ v.ownBlock
  below : Below w.heap.size w ws
theorem L3.low {w ws w' : World} {gi go n m : Nat} {lab : Bool → List Int} {H : Option Addr} {ch : Nat} {h : List Bool} {b0 : Nat} {v : Value} {L : List Cl} (s : L3 w ws gi go n m lab H ch h b0 v L) (hb : Below ws.heap.size ws w') : L3 w w' gi go n m lab H ch h b0 v L :=
  ⟨s.lab.below hb, own_below s.has hb, own_below s.all hb, ⟨s.far.1, s.far.2.1, s.far.2.2.1, Nat.le_trans s.far.2.2.2 hb.size⟩, s.ne, below_self' s.below hb⟩
theorem L3.app {w ws w' : World} {gi go n m : Nat} {lab : Bool → List Int} {H : Option Addr} {ch : Nat} {h : List Bool} {b0 k : Nat} {v v' : Value} {L M : List Cl} (s : L3 w ws gi go n m lab H ch h b0 v L) (hl : M.length = k) (hown : w'.ownsRow b0 33 4 v' (L.length + k) (cellsC L ++ cellsC M)) (hg : ws.grownBy w' v.ownBlock) (hat : v'.ownBlock = v.ownBlock ∨ v'.ownBlock = some ws.heap.size) : L3 w w' gi go n m lab H ch h b0 v' (L ++ M) := by
  have hv : ∀ b, v.ownBlock = some b → b0 ≤ b := fun b hb => (s.all.lt b hb).1
  refine ⟨s.lab.grown hg (fun e => by have := hv _ e; have := s.far.1; omega) (fun e => by have := hv _ e; have := s.far.2.1; omega), s.has.kept hg s.ne, by rw [List.length_append, cellsC_append, hl]; exact hown, ⟨s.far.1, s.far.2.1, s.far.2.2.1, Nat.le_trans s.far.2.2.2 hg.size⟩, ?_, s.below.grown hg (Nat.le_trans s.far.2.2.1 s.far.2.2.2) (fun b hb => Nat.le_trans s.far.2.2.1 (hv b hb))⟩
  rcases hat with e | e
  · rw [e]; exact s.ne
  · rcases hH : (Value.slice H n ch).ownBlock with _ | g
    · exact .inl rfl
    · refine .inr (fun e2 => ?_)
      rw [e] at e2
      have := (s.has.lt g hH).2
      have := Option.some.inj e2
      omega
end Go.Proofs.Ytmgoakfnmgngoaa
