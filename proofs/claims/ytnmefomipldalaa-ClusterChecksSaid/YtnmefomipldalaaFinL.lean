/- The finest map: what taking a span does to a side, as mathematics. No program in this text. -/
import Derived.Test.YtnmefomipldalaaFinK
namespace Go.Proofs.Ytnmefomipldalaa

/-- Two sets of a side lie apart. -/
theorem Part.apart {n : Nat} {r e : Nat → Nat} (h : Part n r e) {u v : Nat} (hu : r u = u) (hv : r v = v) (huv : u < v) (hvn : v < n) : e u ≤ v := by
  rcases Nat.lt_or_ge v (e u) with hlt | hge
  · have := h.same u v (by omega) (by rw [hu]; omega) (by rw [hu]; exact hlt)
    rw [hv, hu] at this
    omega
  · exact hge
/-- A side as mathematics: the first place of each place's set, where a set ends, what belongs to it. -/
structure Sd where
  r : Nat → Nat
  e : Nat → Nat
  M : Nat → Option Sp
/-- A side of n places, m on the other side. -/
structure Ok (n m : Nat) (S : Sd) : Prop where
  part : Part n S.r S.e
  doms : Doms n S.r S.M
  val : ∀ k s, S.M k = some s → ∃ a b : Nat, s = ((a : Int), (b : Int)) ∧ a < b ∧ b ≤ m
def takeS (S : Sd) (p E : Nat) (y : Sp) : Sd := ⟨cutR S.r p E, cutE S.e p E, putM (cutM S.M p E) p y⟩
/-- From p to E: whole sets. -/
structure Cut (n : Nat) (S : Sd) (p E : Nat) : Prop where
  lt : p < E
  le : E ≤ n
  root : S.r p = p
  sep : ∀ x, x < n → (x < p → S.e (S.r x) ≤ p) ∧ (E ≤ x → E ≤ S.r x) ∧ (p ≤ x → x < E → p ≤ S.r x ∧ S.e (S.r x) ≤ E)
theorem cut_of {n m : Nat} {S : Sd} (h : Ok n m S) {lo hi : Nat} (h1 : lo < hi) (h2 : hi ≤ n) : Cut n S (S.r lo) (S.e (S.r (hi - 1))) ∧ S.r lo ≤ lo ∧ hi ≤ S.e (S.r (hi - 1)) := by
  have hP := h.part
  have a1 := hP.le lo (by omega)
  have a2 := hP.root (show lo < n by omega)
  have a3 := hP.lt (hi - 1) (by omega)
  have a4 := hP.top (hi - 1) (by omega)
  have a5 := hP.root (show hi - 1 < n by omega)
  have a6 := hP.le (hi - 1) (by omega)
  refine ⟨⟨by omega, a4, a2, fun x hx => ⟨fun hxp => ?_, fun hEx => ?_, fun hpx hxE => ⟨?_, ?_⟩⟩⟩, a1, by omega⟩
  · have b1 := hP.le x hx
    exact hP.apart (hP.root hx) a2 (by omega) (by omega)
  · have b1 := hP.root hx
    have b2 := hP.lt x hx
    rcases Nat.lt_or_ge (S.r x) (S.e (S.r (hi - 1))) with hlt | hge
    · exfalso
      rcases Nat.lt_trichotomy (S.r x) (S.r (hi - 1)) with c | c | c
      · have := hP.apart b1 a5 c (by omega)
        omega
      · rw [c] at b2; omega
      · have := hP.apart a5 b1 c (by omega)
        omega
    · exact hge
  · have b1 := hP.root hx
    have b2 := hP.lt x hx
    rcases Nat.lt_or_ge (S.r x) (S.r lo) with hlt | hge
    · have := hP.apart b1 a2 hlt (by omega)
      omega
    · exact hge
  · have b1 := hP.root hx
    have b2 := hP.lt x hx
    have b3 := hP.le x hx
    rcases Nat.lt_trichotomy (S.r x) (S.r (hi - 1)) with c | c | c
    · have := hP.apart b1 a5 c (by omega)
      omega
    · rw [c]; exact Nat.le_refl _
    · have := hP.apart a5 b1 c (by omega)
      omega
section
variable {n m : Nat} {S : Sd} {p E : Nat}
theorem take_part (h : Ok n m S) (hc : Cut n S p E) : Part n (cutR S.r p E) (cutE S.e p E) := by
  have hP := h.part
  have hin : ∀ i, p ≤ i → i < E → cutR S.r p E i = p := fun i h1 h2 => if_pos ⟨h1, h2⟩
  have hout : ∀ i, ¬(p ≤ i ∧ i < E) → cutR S.r p E i = S.r i := fun i h1 => if_neg h1
  have hE : cutE S.e p E p = E := if_pos rfl
  have hne : ∀ i, i < n → ¬(p ≤ i ∧ i < E) → cutE S.e p E (S.r i) = S.e (S.r i) := fun i hi hno => if_neg (fun e9 => by
    have := hP.lt i hi
    have := hP.le i hi
    have := (hc.sep i hi).2.1
    have := hc.lt
    omega)
  refine ⟨fun i hi => ?_, fun i hi => ?_, fun i hi => ?_, fun i j hi h1 h2 => ?_⟩
  · by_cases hb : p ≤ i ∧ i < E
    · rw [hin i hb.1 hb.2]; exact hb.1
    · rw [hout i hb]; exact hP.le i hi
  · by_cases hb : p ≤ i ∧ i < E
    · rw [hin i hb.1 hb.2, hE]; exact hb.2
    · rw [hout i hb, hne i hi hb]; exact hP.lt i hi
  · by_cases hb : p ≤ i ∧ i < E
    · rw [hin i hb.1 hb.2, hE]; exact hc.le
    · rw [hout i hb, hne i hi hb]; exact hP.top i hi
  · by_cases hb : p ≤ i ∧ i < E
    · rw [hin i hb.1 hb.2] at h1 h2 ⊢
      rw [hE] at h2
      exact hin j h1 h2
    · rw [hout i hb] at h1 h2 ⊢
      rw [hne i hi hb] at h2
      have hs := hc.sep i hi
      rw [hout j (by omega)]
      exact hP.same i j hi h1 h2
theorem take_ok (h : Ok n m S) (hc : Cut n S p E) {a b : Nat} (hab : a < b) (hb : b ≤ m) : Ok n m (takeS S p E ((a : Int), (b : Int))) := by
  refine ⟨take_part h hc, ⟨fun k s hk => ?_, fun k s hk => ?_⟩, fun k s hk => ?_⟩
  all_goals
    simp only [takeS, putM] at hk
    split at hk
    · rename_i hkp
      injection hk with hk
      subst hk
      first
        | exact ⟨by rw [hkp]; have := hc.lt; have := hc.le; omega, by rw [hkp]; exact cutR_root hc.lt⟩
        | (unfold rightB; simp; omega)
        | exact ⟨a, b, rfl, hab, hb⟩
    · rename_i hkp
      unfold cutM at hk
      split at hk
      · exact absurd hk (by simp)
      · first
          | exact ⟨(h.doms.dom k s hk).1, (if_neg (by omega)).trans (h.doms.dom k s hk).2⟩
          | exact h.doms.right k s hk
          | exact h.val k s hk
/-- What a side says of a set that is not touched. -/
theorem take_far (y : Sp) {k : Nat} (hk : k < p ∨ E ≤ k) (hpE : p < E) : (takeS S p E y).M k = S.M k ∧ (takeS S p E y).e k = S.e k := by
  constructor
  · show putM (cutM S.M p E) p y k = S.M k
    unfold putM cutM
    rw [if_neg (by omega), if_neg (by omega)]
  · show cutE S.e p E k = S.e k
    unfold cutE
    rw [if_neg (by omega)]
theorem take_at (y : Sp) : (takeS S p E y).M p = some y ∧ (takeS S p E y).e p = E := ⟨if_pos rfl, if_pos rfl⟩
theorem take_key (y : Sp) {k : Nat} {s : Sp} (hk : (takeS S p E y).M k = some s) : (k = p ∧ s = y) ∨ ((k < p ∨ E ≤ k) ∧ S.M k = some s) := by
  simp only [takeS, putM] at hk
  split at hk
  · rename_i e9
    injection hk with hk
    exact .inl ⟨e9, hk.symm⟩
  · rename_i e9
    unfold cutM at hk
    split at hk
    · exact absurd hk (by simp)
    · exact .inr ⟨by omega, hk⟩
/-- The hull of what belongs to some places: it holds all of it, and no more than what lies between. -/
theorem hul_nat (hv : ∀ k s, S.M k = some s → ∃ a b : Nat, s = ((a : Int), (b : Int)) ∧ a < b ∧ b ≤ m) {a b : Nat} (hab : a < b) (hb : b ≤ m) (p : Nat) : ∀ j, ∃ c d : Nat, hulT ((a : Int), (b : Int)) S.M p j = ((c : Int), (d : Int)) ∧ c ≤ a ∧ b ≤ d ∧ d ≤ m ∧
      (∀ k x z : Nat, p ≤ k → k < p + j → S.M k = some ((x : Int), (z : Int)) → c ≤ x ∧ z ≤ d) ∧
      (∀ Q : Nat → Prop, (∀ i k j : Nat, i ≤ k → k ≤ j → Q i → Q j → Q k) → (∀ i, a ≤ i → i < b → Q i) → (∀ k x z : Nat, p ≤ k → k < p + j → S.M k = some ((x : Int), (z : Int)) → ∀ i, x ≤ i → i < z → Q i) → ∀ i, c ≤ i → i < d → Q i)
  | 0 => ⟨a, b, rfl, Nat.le_refl _, Nat.le_refl _, hb, fun _ _ _ h1 h2 => by omega, fun _ _ h _ => h⟩
  | j + 1 => by
    obtain ⟨c, d, e1, e2, e3, e4, e5, e6⟩ := hul_nat hv hab hb p j
    rcases hM : S.M (p + j) with _ | s
    · refine ⟨c, d, ?_, e2, e3, e4, fun k x z h1 h2 hk => ?_, fun Q hQ h1 h2 => e6 Q hQ h1 (fun k x z h3 h4 => h2 k x z h3 (by omega))⟩
      · show hulO (hulT _ _ p j) (S.M (p + j)) = _
        rw [hM]; exact e1
      · by_cases ek : k = p + j
        · rw [ek, hM] at hk; exact absurd hk (by simp)
        · exact e5 k x z h1 (by omega) hk
    · obtain ⟨x, z, rfl, hxz, hzm⟩ := hv _ _ hM
      refine ⟨min c x, max d z, ?_, by omega, by omega, by omega, fun k x' z' h1 h2 hk => ?_, fun Q hQ h1 h2 => ?_⟩
      · show hulO (hulT _ _ p j) (S.M (p + j)) = _
        rw [hM, e1]
        show hullMore _ _ = _
        unfold hullMore
        simp only [Prod.mk.injEq]
        constructor
        · split <;> omega
        · split <;> omega
      · by_cases ek : k = p + j
        · rw [ek, hM] at hk
          injection hk with hk
          injection hk with hk1 hk2
          omega
        · have := e5 k x' z' h1 (by omega) hk
          omega
      · have h3 := e6 Q hQ h1 (fun k x z h3 h4 => h2 k x z h3 (by omega))
        have h4 := h2 (p + j) x z (by omega) (by omega) hM
        intro i hi1 hi2
        have q1 : Q (min c x) := by
          rcases Nat.le_total c x with h9 | h9
          · rw [Nat.min_eq_left h9]; exact h3 c (Nat.le_refl _) (by omega)
          · rw [Nat.min_eq_right h9]; exact h4 x (Nat.le_refl _) (by omega)
        have q2 : Q (max d z - 1) := by
          rcases Nat.le_total d z with h9 | h9
          · rw [Nat.max_eq_right h9]; exact h4 (z - 1) (by omega) (by omega)
          · rw [Nat.max_eq_left h9]; exact h3 (d - 1) (by omega) (by omega)
        exact hQ _ i _ hi1 (by omega) q1 q2
end
end Go.Proofs.Ytnmefomipldalaa
