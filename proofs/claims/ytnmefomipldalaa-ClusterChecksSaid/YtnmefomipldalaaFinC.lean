/- The finest map: the clusters that a side tells are the finest ones. No program in this text. -/
import Derived.Test.YtnmefomipldalaaFinI
namespace Go.Proofs.Ytnmefomipldalaa

/-- The clusters of the first j places: those that are done, and the last one. -/
def clusAt (M : Nat → Option Sp) : Nat → List NC × Option NC
  | 0 => ([], none)
  | j + 1 => match M j with
    | some s => ((clusAt M j).1 ++ (clusAt M j).2.toList, some ⟨if (clusAt M j).2 = none then 0 else j, j + 1, s.1.toNat, s.2.toNat⟩)
    | none => ((clusAt M j).1, (clusAt M j).2.map fun x => { x with b := j + 1 })
def clusL (M : Nat → Option Sp) (n : Nat) : List NC := (clusAt M n).1 ++ (clusAt M n).2.toList
/-- A cluster and the place that it is known by. -/
def KeyOf (M : Nat → Option Sp) (y : NC) (k : Nat) : Prop := M k = some ((y.c : Int), (y.d : Int)) ∧ y.a ≤ k ∧ k < y.b ∧ (∀ i, y.a ≤ i → i < y.b → i ≠ k → M i = none) ∧ (y.a < k → y.a = 0)
theorem Tiles.snoc : ∀ {l : List NC} {s n : Nat} {x : NC}, Tiles s l n → x.a = n → x.a < x.b → Tiles s (l ++ [x]) x.b
  | [], s, n, x, h, h1, h2 => ⟨h1.trans (show s = n from h).symm, h2, rfl⟩
  | y :: l, s, n, x, ⟨e1, e2, e3⟩, h1, h2 => ⟨e1, e2, Tiles.snoc e3 h1 h2⟩
theorem Tiles.last : ∀ {l : List NC} {s n : Nat} {x : NC}, Tiles s (l ++ [x]) n → x.b = n ∧ Tiles s l x.a ∧ x.a < x.b
  | [], s, n, x, h => by
    obtain ⟨h1, h2, h3⟩ := h
    exact ⟨h3, h1.symm, h2⟩
  | y :: l, s, n, x, h => by
    obtain ⟨h1, h2, h3⟩ := h
    obtain ⟨a1, a2, a3⟩ := Tiles.last h3
    exact ⟨a1, ⟨h1, h2, a2⟩, a3⟩
theorem Tiles.cover : ∀ {l : List NC} {s n : Nat}, Tiles s l n → ∀ i, s ≤ i → i < n → ∃ x ∈ l, x.a ≤ i ∧ i < x.b
  | [], s, n, h, i, h1, h2 => by have : s = n := h; omega
  | x :: l, s, n, ⟨e1, e2, e3⟩, i, h1, h2 => by
    by_cases c : i < x.b
    · exact ⟨x, List.mem_cons_self .., by omega, c⟩
    · obtain ⟨y, hy, h3⟩ := Tiles.cover e3 i (by omega) h2
      exact ⟨y, List.mem_cons_of_mem _ hy, h3⟩
theorem Tiles.one : ∀ {l : List NC} {s n : Nat}, Tiles s l n → ∀ x ∈ l, ∀ y ∈ l, ∀ i, x.a ≤ i → i < x.b → y.a ≤ i → i < y.b → x = y
  | z :: l, s, n, ⟨e1, e2, e3⟩, x, hx, y, hy, i, h1, h2, h3, h4 => by
    rcases List.mem_cons.1 hx with ex | hx1
    · rcases List.mem_cons.1 hy with ey | hy1
      · rw [ex, ey]
      · have := Tiles.from_ e3 y hy1; rw [ex] at h1 h2; omega
    · rcases List.mem_cons.1 hy with ey | hy1
      · have := Tiles.from_ e3 x hx1; rw [ey] at h3 h4; omega
      · exact Tiles.one e3 x hx1 y hy1 i h1 h2 h3 h4
theorem clus_inv {M : Nat → Option Sp} {m : Nat} (hv : ∀ k s, M k = some s → ∃ a b : Nat, s = ((a : Int), (b : Int)) ∧ a < b ∧ b ≤ m) : ∀ j, ((clusAt M j).2 = none → (clusAt M j).1 = [] ∧ ∀ i, i < j → M i = none) ∧
    ∀ x, (clusAt M j).2 = some x → Tiles 0 ((clusAt M j).1 ++ [x]) j ∧ ∀ y ∈ (clusAt M j).1 ++ [x], ∃ k, KeyOf M y k
  | 0 => ⟨fun _ => ⟨rfl, fun i hi => by omega⟩, fun x hx => by simp [clusAt] at hx⟩
  | j + 1 => by
    obtain ⟨h1, h2⟩ := clus_inv hv j
    rcases hM : M j with _ | s
    · have e : clusAt M (j + 1) = ((clusAt M j).1, (clusAt M j).2.map fun x => { x with b := j + 1 }) := by rw [clusAt, hM]
      rw [e]
      constructor
      · intro hn
        have hn' : (clusAt M j).2 = none := by simpa using hn
        obtain ⟨h3, h4⟩ := h1 hn'
        refine ⟨h3, fun i hi => ?_⟩
        by_cases c : i = j
        · rw [c]; exact hM
        · exact h4 i (by omega)
      · intro x hx
        obtain ⟨z, hz, rfl⟩ : ∃ z, (clusAt M j).2 = some z ∧ { z with b := j + 1 } = x := by simpa using hx
        obtain ⟨h3, h4⟩ := h2 z hz
        obtain ⟨a1, a2, a3⟩ := Tiles.last h3
        refine ⟨Tiles.snoc (x := { z with b := j + 1 }) a2 rfl (show z.a < j + 1 by omega), fun y hy => ?_⟩
        rcases List.mem_append.1 hy with hy | hy
        · exact h4 y (List.mem_append_left _ hy)
        · obtain rfl := List.mem_singleton.1 hy
          obtain ⟨k, k1, k2, k3, k4, k5⟩ := h4 z (by simp)
          refine ⟨k, k1, k2, show k < j + 1 by omega, fun i g1 g2 g3 => ?_, k5⟩
          by_cases c : i = j
          · rw [c]; exact hM
          · exact k4 i g1 (by have : i < j + 1 := g2; omega) g3
    · obtain ⟨a, b, rfl, hab, hb⟩ := hv _ _ hM
      have e : clusAt M (j + 1) = ((clusAt M j).1 ++ (clusAt M j).2.toList, some ⟨if (clusAt M j).2 = none then 0 else j, j + 1, a, b⟩) := by
        rw [clusAt, hM]; simp
      rw [e]
      refine ⟨fun hn => absurd hn (by simp), fun x hx => ?_⟩
      injection hx with hx
      subst hx
      rcases ho : (clusAt M j).2 with _ | z
      · obtain ⟨h3, h4⟩ := h1 ho
        simp only [h3, Option.toList, List.nil_append, if_true]
        refine ⟨⟨rfl, by simp, rfl⟩, fun y hy => ?_⟩
        obtain rfl := List.mem_singleton.1 hy
        exact ⟨j, hM, Nat.zero_le _, Nat.lt_succ_self j, fun i g1 g2 g3 => h4 i (by have : i < j + 1 := g2; omega), fun _ => rfl⟩
      · obtain ⟨h3, h4⟩ := h2 z ho
        simp only [Option.toList, reduceCtorEq, if_false]
        refine ⟨Tiles.snoc (x := ⟨j, j + 1, a, b⟩) h3 rfl (Nat.lt_succ_self j), fun y hy => ?_⟩
        rcases List.mem_append.1 hy with hy | hy
        · exact h4 y hy
        · obtain rfl := List.mem_singleton.1 hy
          exact ⟨j, hM, Nat.le_refl _, Nat.lt_succ_self j, fun i g1 g2 g3 => by have : i < j + 1 := g2; have : j ≤ i := g1; omega, fun h => absurd h (Nat.lt_irrefl _)⟩
/-- Where the first of the links begins. -/
def FirstOf (L : List NC) (f : Nat) : Prop := (∃ y ∈ L, y.real ∧ y.a = f) ∧ ∀ y ∈ L, y.real → f ≤ y.a
theorem first_of {L : List NC} (h : ∃ y ∈ L, y.real) : ∃ f, FirstOf L f := by
  obtain ⟨y, hy, hr⟩ := h
  have key : ∀ a, ∀ y ∈ L, y.real → y.a = a → ∃ f, FirstOf L f := fun a => by
    induction a using Nat.strongRecOn with
    | _ a ih =>
      intro y hy hr e
      by_cases h : ∀ z ∈ L, z.real → a ≤ z.a
      · exact ⟨a, ⟨y, hy, hr, e⟩, h⟩
      · have h' : ∃ z ∈ L, z.real ∧ z.a < a := Classical.byContradiction fun h9 => h fun z hz hzr => by
          rcases Nat.lt_or_ge z.a a with h8 | h8
          · exact absurd ⟨z, hz, hzr, h8⟩ h9
          · exact h8
        obtain ⟨z, hz, hzr, hlt⟩ := h'
        exact ih z.a hlt z hz hzr rfl
  exact key _ y hy hr rfl
/-- The links, and what joins each place that no link has to the one ahead of it, and those ahead of all to the first. -/
structure Fills (n : Nat) (L : List NC) : Prop where
  each : ∀ x ∈ L, ¬ x.real → (∃ i, i < n ∧ 0 < i ∧ (∀ y ∈ L, y.real → ¬(y.a ≤ i ∧ i < y.b)) ∧ x = ⟨i - 1, i + 1, 0, 0⟩) ∨ ∃ f, f < n ∧ FirstOf L f ∧ x = ⟨0, f + 1, 0, 0⟩
  back : ∀ i, i < n → 0 < i → (∀ y ∈ L, y.real → ¬(y.a ≤ i ∧ i < y.b)) → (⟨i - 1, i + 1, 0, 0⟩ : NC) ∈ L
  on : ∀ f, FirstOf L f → 0 < f → (⟨0, f + 1, 0, 0⟩ : NC) ∈ L
theorem finest_of {L : List NC} {n m : Nat} {A B : Sd} (hb : Both n m A B) (hs : Sound L false n A) (hl : ∀ x ∈ L, x.real → Lies A x.a x.b x.c x.d) (hf : Fills n L) (hk : ∃ k s, A.M k = some s) : Finest L 0 n m (clusL A.M n) := by
  have hP := hb.okA.part
  obtain ⟨i1, i2⟩ := clus_inv hb.okA.val n
  -- there is a last cluster
  obtain ⟨z, hz⟩ : ∃ z, (clusAt A.M n).2 = some z := by
    rcases ho : (clusAt A.M n).2 with _ | z
    · exfalso
      obtain ⟨k, s, hks⟩ := hk
      have := (i1 ho).2 k (hb.okA.doms.dom _ _ hks).1
      rw [hks] at this
      exact absurd this (by simp)
    · exact ⟨z, rfl⟩
  obtain ⟨hT, hK⟩ := i2 z hz
  have hcl : clusL A.M n = (clusAt A.M n).1 ++ [z] := by unfold clusL; rw [hz]; rfl
  rw [← hcl] at hT hK
  generalize clusL A.M n = l at hT hK
  clear hcl i1 i2 hz hk
  have key_root : ∀ {k : Nat} {s : Sp}, A.M k = some s → A.r k = k ∧ k < n ∧ k < A.e k := fun h => matched_key hb.okA h
  -- a place that a real link has lies in a linked set
  have in_set : ∀ i, i < n → (∃ y ∈ L, y.real ∧ y.a ≤ i ∧ i < y.b) → ∃ k s, A.M k = some s ∧ A.r i = k := by
    rintro i hi ⟨y, hy, hr, h1, h2⟩
    obtain ⟨k, u, v, hk, h3, h4, _, _⟩ := hl y hy hr
    obtain ⟨r1, r2, r3⟩ := key_root hk
    exact ⟨k, _, hk, (hP.same k i r2 (by rw [r1]; omega) (by rw [r1]; omega)).trans r1⟩
  -- where a cluster does not begin at 0 it begins with its key
  have first : ∀ y ∈ l, 0 < y.a → ∃ s, A.M y.a = some s := fun y hy h0 => by
    obtain ⟨k, k1, k2, k3, k4, k5⟩ := hK y hy
    rcases Nat.lt_or_ge y.a k with h | h
    · have := k5 h; omega
    · exact ⟨_, (show y.a = k by omega) ▸ k1⟩
  -- a linked set lies in the cluster of its key
  have whole : ∀ y ∈ l, ∀ k, KeyOf A.M y k → A.e k ≤ y.b := fun y hy k ⟨k1, k2, k3, k4, k5⟩ => by
    obtain ⟨r1, r2, r3⟩ := key_root k1
    have htop := hP.top k r2
    rw [r1] at htop
    rcases Nat.lt_or_ge y.b (A.e k) with hlt | hge
    · exfalso
      obtain ⟨y2, hy2, g1, g2⟩ := hT.cover y.b (Nat.zero_le _) (by omega)
      have hya := hT.from_ y hy
      have h2a : y2.a = y.b := by
        rcases Nat.lt_or_ge y2.a y.b with h | h
        · have h9 : y2 = y := hT.one y2 hy2 y hy (y.b - 1) (by omega) (by omega) (by omega) (by omega)
          rw [h9] at g2
          exact absurd g2 (Nat.lt_irrefl _)
        · omega
      obtain ⟨s, hs2⟩ := first y2 hy2 (by omega)
      obtain ⟨r4, r5, r6⟩ := key_root hs2
      have := hP.apart r1 r4 (by omega) r5
      omega
    · exact hge
  have key_in : ∀ k s, A.M k = some s → ∃ y ∈ l, KeyOf A.M y k := fun k s hks => by
    obtain ⟨r1, r2, r3⟩ := key_root hks
    obtain ⟨y, hy, g1, g2⟩ := hT.cover k (Nat.zero_le _) r2
    obtain ⟨k', k1, k2, k3, k4, k5⟩ := hK y hy
    by_cases c : k = k'
    · rw [← c] at k1 k2 k3 k4 k5; exact ⟨y, hy, k1, k2, k3, k4, k5⟩
    · have := k4 k g1 g2 c
      rw [hks] at this
      exact absurd this (by simp)
  -- each place is together with the key of its cluster
  have tokey : ∀ y ∈ l, ∀ k, KeyOf A.M y k → ∀ i, y.a ≤ i → i < y.b → Tog L (false, i) (false, k) := fun y hy k hkey => by
    obtain ⟨k1, k2, k3, k4, k5⟩ := hkey
    have hya := hT.from_ y hy
    obtain ⟨r1, r2, r3⟩ := key_root k1
    have linked : ∀ i, y.a ≤ i → i < y.b → ∀ s, A.M (A.r i) = some s → A.r i = k := fun i g1 g2 s hsi => by
      have hin : i < n := by omega
      have hle := hP.le i hin
      have hlt := hP.lt i hin
      obtain ⟨q1, q2, q3⟩ := key_root hsi
      by_cases c : A.r i = k
      · exact c
      · exfalso
        rcases Nat.lt_or_ge (A.r i) y.a with h | h
        · obtain ⟨s', hs'⟩ := first y hy (by omega)
          obtain ⟨p1, p2, p3⟩ := key_root hs'
          have := hP.apart q1 p1 h p2
          omega
        · have := k4 (A.r i) h (by omega) c
          rw [hsi] at this
          exact absurd this (by simp)
    have alone : ∀ i, i < n → A.M (A.r i) = none → ∀ y ∈ L, y.real → ¬(y.a ≤ i ∧ i < y.b) := fun i hi hn x hx hr hh => by
      obtain ⟨k', s', h1, h2⟩ := in_set i hi ⟨x, hx, hr, hh.1, hh.2⟩
      rw [h2, h1] at hn
      exact absurd hn (by simp)
    have behind : ∀ j i, i = k + j → i < y.b → Tog L (false, i) (false, k) := fun j => by
      induction j with
      | zero => intro i e _; rw [e]; exact .refl _
      | succ j ih =>
        intro i e hi
        rcases hm : A.M (A.r i) with _ | s
        · have hbk := hf.back i (by omega) (by omega) (alone i (by omega) hm)
          refine .trans _ _ _ (.link _ (false, i) (false, i - 1) hbk ?_ ?_) (ih (i - 1) (by omega) (by omega))
          · show i - 1 ≤ i ∧ i < i + 1; omega
          · show i - 1 ≤ i - 1 ∧ i - 1 < i + 1; omega
        · have h9 := linked i (by omega) hi s hm
          have h8 := hs.set i (by omega)
          rwa [h9] at h8
    have ahead : ∀ j i, i + j = k → y.a ≤ i → Tog L (false, i) (false, k) := fun j => by
      induction j with
      | zero => intro i e _; rw [show i = k by omega]; exact .refl _
      | succ j ih =>
        intro i e hi
        rcases hm : A.M (A.r i) with _ | s
        · obtain ⟨x, hx, hr, hst⟩ := (hs.keys _ _ _ k1).1
          obtain ⟨f, hff⟩ := first_of ⟨x, hx, hr⟩
          have hif : i < f := by
            rcases Nat.lt_or_ge i f with h | h
            · exact h
            · exfalso
              obtain ⟨x', hx', hr', hst'⟩ := hff.1
              obtain ⟨k', u, v, hk', g1, _⟩ := hl x' hx' hr'
              have h0 := k5 (by omega)
              have := k4 k' (by omega) (by omega) (by omega)
              rw [hk'] at this
              exact absurd this (by simp)
          have hbk := hf.on f hff (by omega)
          refine .trans _ _ _ (.link _ (false, i) (false, i + 1) hbk ?_ ?_) (ih (i + 1) (by omega) (by omega))
          · show 0 ≤ i ∧ i < f + 1; omega
          · show 0 ≤ i + 1 ∧ i + 1 < f + 1; omega
        · have h9 := linked i hi (by omega) s hm
          have := hP.le i (by omega)
          omega
    intro i g1 g2
    rcases Nat.lt_or_ge i k with h | h
    · exact ahead (k - i) i (by omega) g1
    · exact behind (i - k) i (by omega) g2
  -- one cluster at most has a place
  have one : ∀ x ∈ l, ∀ y ∈ l, ∀ q : Pl, x.has q → y.has q → x = y := by
    rintro x hx y hy ⟨sd, j⟩ h1 h2
    cases sd with
    | false => exact hT.one x hx y hy j (show x.a ≤ j ∧ j < x.b from h1).1 (show x.a ≤ j ∧ j < x.b from h1).2 (show y.a ≤ j ∧ j < y.b from h2).1 (show y.a ≤ j ∧ j < y.b from h2).2
    | true =>
      have h1' : x.c ≤ j ∧ j < x.d := h1
      have h2' : y.c ≤ j ∧ j < y.d := h2
      obtain ⟨kx, a1, a2, a3, _⟩ := hK x hx
      obtain ⟨ky, b1, b2, b3, _⟩ := hK y hy
      obtain ⟨c, m1, m2⟩ := hb.ab _ _ a1
      obtain ⟨c', m3, m4⟩ := hb.ab _ _ b1
      rw [a1] at m1
      rw [b1] at m3
      injection m1 with m1
      injection m1 with e1 e2
      injection m3 with m3
      injection m3 with e3 e4
      obtain ⟨p1, p2, p3⟩ := matched_key hb.okB m2
      obtain ⟨p4, p5, p6⟩ := matched_key hb.okB m4
      rcases Nat.lt_trichotomy c c' with h | h | h
      · have := hb.okB.part.apart p1 p4 h p5; omega
      · subst h
        rw [m2] at m4
        injection m4 with m4
        injection m4 with e5 _
        exact hT.one x hx y hy kx a2 a3 (by omega) (by omega)
      · have := hb.okB.part.apart p4 p1 h p2; omega
  refine ⟨hT, fun x hx => ?_, fun i _ hi q hq => ⟨fun ht => ?_, ?_⟩⟩
  · obtain ⟨k, k1, _⟩ := hK x hx
    obtain ⟨a, b, e1, e2, e3⟩ := hb.okA.val _ _ k1
    injection e1 with e4 e5
    omega
  · obtain ⟨x0, hx0, g1, g2⟩ := hT.cover i (Nat.zero_le _) hi
    have hS := Tog.least (S := fun p q => p = q ∨ ∃ x ∈ l, x.has p ∧ x.has q) (fun p => .inl rfl) (fun p q h => ?_) (fun p q r h h' => ?_) (fun x hx p q hp hq => ?_) (fun s i k j h1 h2 h => ?_) ht
    · rcases hS with rfl | h
      · exact ⟨x0, hx0, ⟨g1, g2⟩, ⟨g1, g2⟩⟩
      · exact h
    · rcases h with h | ⟨x, h1, h2, h3⟩
      · exact .inl h.symm
      · exact .inr ⟨x, h1, h3, h2⟩
    · rcases h with rfl | ⟨x, h1, h2, h3⟩
      · exact h'
      · rcases h' with rfl | ⟨y, h4, h5, h6⟩
        · exact .inr ⟨x, h1, h2, h3⟩
        · obtain rfl := one x h1 y h4 q h3 h5
          exact .inr ⟨x, h1, h2, h6⟩
    · by_cases hr : x.real
      · obtain ⟨k, u, v, hk', f1, f2, f3, f4⟩ := hl x hx hr
        obtain ⟨y, hy, hkey⟩ := key_in _ _ hk'
        have hw := whole y hy k hkey
        obtain ⟨k1, k2, k3, _⟩ := hkey
        rw [k1] at hk'
        injection hk' with hk'
        injection hk' with e1 e2
        have hin : ∀ p : Pl, x.has p → y.has p := by
          rintro ⟨sd, j⟩ h
          cases sd with
          | false => have h' : x.a ≤ j ∧ j < x.b := h; show y.a ≤ j ∧ j < y.b; omega
          | true => have h' : x.c ≤ j ∧ j < x.d := h; show y.c ≤ j ∧ j < y.d; omega
        exact .inr ⟨y, hy, hin p hp, hin q hq⟩
      · rcases hf.each x hx hr with ⟨t, ht1, h0, ht2, rfl⟩ | ⟨t, ht1, ht2, rfl⟩
        · obtain ⟨y, hy, u1, u2⟩ := hT.cover t (Nat.zero_le _) ht1
          have hya : y.a ≤ t - 1 := by
            rcases Nat.lt_or_ge (t - 1) y.a with h | h
            · exfalso
              have e : y.a = t := by omega
              obtain ⟨s', hs'⟩ := first y hy (by omega)
              rw [e] at hs'
              obtain ⟨a, b, rfl, _, _⟩ := hb.okA.val _ _ hs'
              obtain ⟨x', hx', hr', hst⟩ := (hs.keys _ _ _ hs').1
              have h9 : x'.a = t := hst
              exact ht2 x' hx' hr' ⟨by omega, by have := hr'.1; omega⟩
            · exact h
          have hin : ∀ p : Pl, (⟨t - 1, t + 1, 0, 0⟩ : NC).has p → y.has p := by
            rintro ⟨sd, j⟩ h
            cases sd with
            | false => have h' : t - 1 ≤ j ∧ j < t + 1 := h; show y.a ≤ j ∧ j < y.b; omega
            | true => have h' : 0 ≤ j ∧ j < 0 := h; omega
          exact .inr ⟨y, hy, hin p hp, hin q hq⟩
        · obtain ⟨y, hy, u1, u2⟩ := hT.cover t (Nat.zero_le _) ht1
          have hya : y.a = 0 := by
            rcases Nat.eq_zero_or_pos y.a with h | h
            · exact h
            · exfalso
              obtain ⟨y0, hy0, w1, w2⟩ := hT.cover (y.a - 1) (Nat.zero_le _) (by omega)
              obtain ⟨k0, z1, z2, z3, _⟩ := hK y0 hy0
              obtain ⟨x', hx', hr', hst⟩ := (hs.keys _ _ _ z1).1
              have h9 : x'.a = k0 := hst
              have h8 := ht2.2 x' hx' hr'
              have : y0 = y := hT.one y0 hy0 y hy y.a (by omega) (by omega) (Nat.le_refl _) (by omega)
              rw [this] at w1
              omega
          have hin : ∀ p : Pl, (⟨0, t + 1, 0, 0⟩ : NC).has p → y.has p := by
            rintro ⟨sd, j⟩ h
            cases sd with
            | false => have h' : 0 ≤ j ∧ j < t + 1 := h; show y.a ≤ j ∧ j < y.b; omega
            | true => have h' : 0 ≤ j ∧ j < 0 := h; omega
          exact .inr ⟨y, hy, hin p hp, hin q hq⟩
    · rcases h with h | ⟨x, hx, h3, h4⟩
      · injection h with _ h
        subst h
        have : i = k := by omega
        subst this
        exact .inl rfl
      · refine .inr ⟨x, hx, h3, ?_⟩
        cases s with
        | false => have e3 : x.a ≤ i ∧ i < x.b := h3; have e4 : x.a ≤ j ∧ j < x.b := h4; show x.a ≤ k ∧ k < x.b; omega
        | true => have e3 : x.c ≤ i ∧ i < x.d := h3; have e4 : x.c ≤ j ∧ j < x.d := h4; show x.c ≤ k ∧ k < x.d; omega
  · rintro ⟨x, hx, h1, h2⟩
    obtain ⟨k, hkey⟩ := hK x hx
    have h1' : x.a ≤ i ∧ i < x.b := h1
    have t1 := tokey x hx k hkey i h1'.1 h1'.2
    obtain ⟨sd, j⟩ := q
    cases sd with
    | false =>
      have h2' : x.a ≤ j ∧ j < x.b := h2
      exact .trans _ _ _ t1 (.symm _ _ (tokey x hx k hkey j h2'.1 h2'.2))
    | true =>
      have h2' : x.c ≤ j ∧ j < x.d := h2
      exact .trans _ _ _ t1 (hs.bey k x.c x.d hkey.1 j h2'.1 h2'.2)
end Go.Proofs.Ytnmefomipldalaa
