/- Breaks by where they are: the last line that a paragraph's breaks make; what stands ahead of each with a smaller number; a chain of them gives the lines. No function of the program. -/
import Derived.Test.YtdgomaoikeffhaaLnD
namespace Go.Proofs.Ytdgomaoikeffhaa
open Go.RowKit

/-- The last line of a paragraph: from the greatest break within it, the first one that is there, on. -/
theorem cut_last {hi : Int} : ∀ {bs : List Int} {lo b : Int} {w : Nat}, bs[w]? = some b → lo < b → b < hi → (∀ (j : Nat) (x : Int), bs[j]? = some x → x < hi → x ≤ b) → (∀ (j : Nat) (x : Int), j < w → bs[j]? = some x → x < hi → x < b) → lnCut hi lo bs = lnCut b lo (bs.take w) ++ [(b, hi)]
  | [], _, _, _, h, _, _, _, _ => by simp at h
  | c :: bs, lo, b, 0, h, hl, hh, h1, _ => by
    obtain rfl := Option.some.inj h
    rw [lnCut, if_pos ⟨hl, hh⟩, List.take_zero]
    have : ∀ (bs : List Int), (∀ (j : Nat) (x : Int), bs[j]? = some x → x < hi → x ≤ c) → lnCut hi c bs = [(c, hi)] := by
      intro bs
      induction bs with
      | nil => intro _; rfl
      | cons d bs ih =>
        intro h
        have hd := h 0 d rfl
        rw [lnCut, if_neg (by intro h'; have := hd h'.2; omega)]
        exact ih fun j x hj => h (j + 1) x (by simpa using hj)
    rw [this bs fun j x hj => h1 (j + 1) x (by simpa using hj)]
    rfl
  | c :: bs, lo, b, w + 1, h, hl, hh, h1, h2 => by
    have hc := h2 0 c (by omega) rfl
    have ih := fun lo' hl' => cut_last (lo := lo') (w := w) (b := b) (bs := bs) (by simpa using h) hl' hh (fun j x hj => h1 (j + 1) x (by simpa using hj)) (fun j x hw hj => h2 (j + 1) x (by omega) (by simpa using hj))
    rw [List.take_succ_cons, lnCut, lnCut]
    by_cases hcc : lo < c ∧ c < hi
    · rw [if_pos hcc, if_pos ⟨hcc.1, hc hcc.2⟩, ih c (hc hcc.2)]
      rfl
    · rw [if_neg hcc, if_neg (fun h' => hcc ⟨h'.1, by omega⟩), ih lo hl]
theorem cut_none {hi : Int} : ∀ {bs : List Int} {lo : Int}, (∀ x ∈ bs, ¬ (lo < x ∧ x < hi)) → lnCut hi lo bs = [(lo, hi)]
  | [], _, _ => rfl
  | c :: bs, lo, h => by
    rw [lnCut, if_neg (h c (by simp))]
    exact cut_none fun x hx => h x (by simp [hx])

/-- The last one below j whose number is not above x; -1 where there is none. -/
def near (ws : List Int) (x : Int) : Nat → Int
  | 0 => -1
  | j + 1 => if ws.getD j 0 ≤ x then (j : Int) else near ws x j
theorem near_le (ws : List Int) (x : Int) : ∀ j, -1 ≤ near ws x j ∧ near ws x j < j
  | 0 => by simp [near]
  | j + 1 => by
    rw [near]
    split
    · omega
    · have := near_le ws x j
      omega
theorem near_is (ws : List Int) (x : Int) : ∀ (j h : Nat), near ws x j = (h : Int) → ws.getD h 0 ≤ x
  | 0, h, e => by simp [near] at e
  | j + 1, h, e => by
    rw [near] at e
    split at e
    · obtain rfl : j = h := by omega
      assumption
    · exact near_is ws x j h e
theorem near_over (ws : List Int) (x : Int) : ∀ (j k : Nat), near ws x j < (k : Int) → k < j → x < ws.getD k 0
  | 0, k, _, h => by omega
  | j + 1, k, e, h => by
    rw [near] at e
    split at e
    · omega
    · rename_i h'
      by_cases hk : k = j
      · subst hk; omega
      · exact near_over ws x j k e (by omega)
/-- What stands behind h is above x all the way: it is passed by. -/
theorem near_skip (ws : List Int) (x : Int) (h : Nat) : ∀ (j : Nat), h ≤ j → (∀ k, h ≤ k → k < j → x < ws.getD k 0) → near ws x j = near ws x h
  | 0, hj, _ => by obtain rfl : h = 0 := by omega
                   rfl
  | j + 1, hj, hk => by
    by_cases e : h = j + 1
    · rw [e]
    · rw [near, if_neg (by have := hk j (by omega) (by omega); omega)]
      exact near_skip ws x h j (by omega) fun k h1 h2 => hk k h1 (by omega)
/-- One step of the search: the one at h is above x, so is all between h and the one that h tells. -/
theorem near_step {ws : List Int} {x : Int} {h h' : Nat} (hx : x < ws.getD h 0) (e : near ws (ws.getD h 0) h = (h' : Int) - 1) : near ws x (h + 1) = near ws x h' := by
  have hb := near_le ws (ws.getD h 0) h
  refine near_skip ws x h' (h + 1) (by omega) fun k h1 h2 => ?_
  by_cases hk : k = h
  · rw [hk]; exact hx
  · have := near_over ws (ws.getD h 0) h k (by omega) (by omega)
    omega
theorem near_here {ws : List Int} {x : Int} {h : Nat} (hx : ws.getD h 0 ≤ x) : near ws x (h + 1) = h := by rw [near, if_pos hx]

/-- Breaks with their numbers. -/
def numB (bs : List Int) : List Sp := bs.zipIdx.map fun p => (p.1, (p.2 : Int))
theorem numB_len (bs : List Int) : (numB bs).length = bs.length := by simp [numB]
theorem numB_get {bs : List Int} {k : Nat} {b : Int} (h : bs[k]? = some b) : (numB bs)[k]? = some (b, (k : Int)) := by
  simp [numB, h]
theorem numB_mem {bs : List Int} {s : Sp} (h : s ∈ numB bs) : ∃ k : Nat, s.2 = k ∧ bs[k]? = some s.1 := by
  obtain ⟨i, hi, rfl⟩ := List.getElem_of_mem h
  rw [numB_len] at hi
  have := numB_get (bs := bs) (k := i) (List.getElem?_eq_getElem hi)
  obtain ⟨_, e⟩ := List.getElem?_eq_some_iff.1 this
  rw [e]
  exact ⟨i, rfl, List.getElem?_eq_getElem hi⟩
/-- The order: by where they are; of those at one place the first one last. -/
def aftB (a b : Sp) : Bool := decide (a.1 < b.1) || (decide (a.1 = b.1) && decide (b.2 < a.2))
/-- Breaks in order. -/
structure OrdB (Q : List Sp) (bs : List Int) : Prop where
  perm : Q.Perm (numB bs)
  rise : Q.Pairwise fun a b => aftB b a = false
theorem OrdB.mem {Q : List Sp} {bs : List Int} (h : OrdB Q bs) {s : Sp} (hs : s ∈ Q) : ∃ k : Nat, s.2 = k ∧ bs[k]? = some s.1 := numB_mem (h.perm.mem_iff.1 hs)
theorem OrdB.has {Q : List Sp} {bs : List Int} (h : OrdB Q bs) {k : Nat} {b : Int} (hb : bs[k]? = some b) : ∃ i : Nat, Q[i]? = some (b, (k : Int)) :=
  List.mem_iff_getElem?.1 (h.perm.mem_iff.2 (List.mem_of_getElem? (numB_get hb)))
theorem OrdB.up {Q : List Sp} {bs : List Int} (h : OrdB Q bs) {i j : Nat} {s t : Sp} (hi : Q[i]? = some s) (hj : Q[j]? = some t) (hij : i < j) : s.1 < t.1 ∨ (s.1 = t.1 ∧ t.2 ≤ s.2) := by
  obtain ⟨hi', rfl⟩ := List.getElem?_eq_some_iff.1 hi
  obtain ⟨hj', rfl⟩ := List.getElem?_eq_some_iff.1 hj
  have := (List.pairwise_iff_getElem.1 h.rise) i j hi' hj' hij
  simp only [aftB, Bool.or_eq_false_iff, Bool.and_eq_false_iff, decide_eq_false_iff_not] at this
  omega
theorem numB_nodup (bs : List Int) : ((numB bs).map (·.2)).Nodup := by
  rw [List.nodup_iff_pairwise_ne, List.pairwise_iff_getElem]
  intro i j hi hj hij
  simp only [numB, List.getElem_map, List.getElem_zipIdx]
  omega
theorem OrdB.one {Q : List Sp} {bs : List Int} (h : OrdB Q bs) {i j : Nat} {s t : Sp} (hi : Q[i]? = some s) (hj : Q[j]? = some t) (hij : i ≠ j) : s.2 ≠ t.2 := by
  have hn : (Q.map (·.2)).Nodup := (h.perm.map _).nodup_iff.2 (numB_nodup bs)
  intro e
  have h1 : (Q.map (·.2))[i]? = some s.2 := by rw [List.getElem?_map, hi]; rfl
  have h2 : (Q.map (·.2))[j]? = some s.2 := by rw [List.getElem?_map, hj, e]; rfl
  exact hij (by
    obtain ⟨a1, a2⟩ := List.getElem?_eq_some_iff.1 h1
    obtain ⟨b1, b2⟩ := List.getElem?_eq_some_iff.1 h2
    exact (List.getElem_inj hn).1 (a2.trans b2.symm))
theorem getD_of {Q : List Sp} {i : Nat} {s : Sp} (h : Q[i]? = some s) : (Q.map (·.2)).getD i 0 = s.2 := by
  rw [List.getD_eq_getElem?_getD, List.getElem?_map, h]; rfl
/-- The one at hand: the last stop (at i - 1) ahead of number w and below e; none where i is 0. -/
structure TopB (Q : List Sp) (e : Int) (w i : Nat) : Prop where
  le : i ≤ Q.length
  is : ∀ s, 0 < i → Q[i - 1]? = some s → s.1 < e ∧ s.2 < w
  no : ∀ (j : Nat) s, i ≤ j → Q[j]? = some s → s.1 < e → ¬ s.2 < w
theorem top_begin {Q : List Sp} {bs : List Int} (h : OrdB Q bs) (hi : Int) {i : Nat} (hle : i ≤ Q.length) (h1 : ∀ (j : Nat) s, j < i → Q[j]? = some s → s.1 < hi) (h2 : ∀ (j : Nat) s, i ≤ j → Q[j]? = some s → ¬ s.1 < hi) : TopB Q hi bs.length i where
  le := hle
  is s hi' hs := by
    refine ⟨h1 _ s (by omega) hs, ?_⟩
    obtain ⟨k, hk, hb⟩ := h.mem (List.mem_of_getElem? hs)
    have := (List.getElem?_eq_some_iff.1 hb).1
    omega
  no j s hj hs he := absurd he (h2 j s hj hs)
/-- A line ends at the one at hand; the next one is told there. -/
theorem top_next {Q : List Sp} {bs : List Int} (h : OrdB Q bs) {e lo : Int} {w i i' : Nat} (ht : TopB Q e w (i + 1)) {s : Sp} (hs : Q[i]? = some s) (hlo : lo < s.1) (hn : near (Q.map (·.2)) s.2 i = (i' : Int) - 1) :
    ∃ k : Nat, s.2 = k ∧ k < w ∧ TopB Q s.1 k i' ∧ i' ≤ i ∧ lnCut e lo (bs.take w) = lnCut s.1 lo (bs.take k) ++ [(s.1, e)] := by
  obtain ⟨k, hk, hb⟩ := h.mem (List.mem_of_getElem? hs)
  obtain ⟨h1, h2⟩ := ht.is s (by omega) hs
  have hkw : k < w := by omega
  have hnb := near_le (Q.map (·.2)) s.2 i
  refine ⟨k, hk, hkw, ?_, by omega, ?_⟩
  · refine ⟨by have := ht.le; omega, fun t hi' ht' => ?_, fun j t hj ht' he hw' => ?_⟩
    · have hin : near (Q.map (·.2)) s.2 i = ((i' - 1 : Nat) : Int) := by omega
      have hle := near_is _ _ _ _ hin
      rw [getD_of ht'] at hle
      have hne := h.one ht' hs (by omega)
      rcases h.up ht' hs (by omega) with h3 | h3 <;> omega
    · rcases Nat.lt_trichotomy j i with hji | rfl | hji
      · have := near_over (Q.map (·.2)) s.2 i j (by omega) hji
        rw [getD_of ht'] at this
        omega
      · obtain rfl := Option.some.inj (hs.symm.trans ht')
        omega
      · rcases h.up hs ht' hji with h3 | h3 <;> omega
  · have hget : ∀ (j : Nat) (x : Int), (bs.take w)[j]? = some x → j < w ∧ bs[j]? = some x := fun j x hj => by
      rw [List.getElem?_take] at hj
      split at hj
      · exact ⟨by assumption, hj⟩
      · cases hj
    have hall : ∀ (j : Nat) (x : Int), j < w → bs[j]? = some x → x < e → x ≤ s.1 ∧ (j < k → x < s.1) := fun j x hjw hx hxe => by
      obtain ⟨q, hq⟩ := h.has hx
      by_cases hqi : i + 1 ≤ q
      · exact absurd (show ((j : Int)) < w by omega) (ht.no q _ hqi hq hxe)
      · rcases Nat.lt_or_ge q i with hqi' | hqi'
        · rcases h.up hq hs hqi' with h3 | h3
          · exact ⟨by simpa using Int.le_of_lt h3, fun _ => h3⟩
          · simp only at h3
            exact ⟨by omega, fun hjk => by omega⟩
        · obtain rfl : q = i := by omega
          obtain rfl := Option.some.inj (hs.symm.trans hq)
          exact ⟨Int.le_refl _, fun hjk => by simp only at hk; omega⟩
    have := cut_last (hi := e) (lo := lo) (b := s.1) (w := k) (bs := bs.take w) (by rw [List.getElem?_take, if_pos hkw, hb]) hlo h1 (fun j x hj hxe => (hall j x (hget j x hj).1 (hget j x hj).2 hxe).1) (fun j x hjk hj hxe => (hall j x (hget j x hj).1 (hget j x hj).2 hxe).2 hjk)
    rw [this, List.take_take, Nat.min_eq_left (by omega)]
/-- Nothing more is within: the line that begins the paragraph. -/
theorem top_end {Q : List Sp} {bs : List Int} (h : OrdB Q bs) {e lo : Int} {w i : Nat} (ht : TopB Q e w i) (hlo : ∀ s, 0 < i → Q[i - 1]? = some s → s.1 ≤ lo) : lnCut e lo (bs.take w) = [(lo, e)] := by
  refine cut_none fun x hx hb => ?_
  obtain ⟨j, hj⟩ := List.mem_iff_getElem?.1 hx
  rw [List.getElem?_take] at hj
  split at hj
  · rename_i hjw
    obtain ⟨q, hq⟩ := h.has hj
    by_cases hqi : i ≤ q
    · exact ht.no q _ hqi hq hb.2 (by simp only; omega)
    · obtain ⟨s, hs⟩ : ∃ s, Q[i - 1]? = some s := ⟨_, List.getElem?_eq_getElem (by have := ht.le; omega)⟩
      have h1 := hlo s (by omega) hs
      by_cases hqe : q = i - 1
      · subst hqe
        obtain rfl := Option.some.inj (hs.symm.trans hq)
        simp only at h1
        omega
      · rcases h.up hq hs (by omega) with h3 | h3 <;> simp only at h3 <;> omega
  · cases hj
/-- Breaks in order, each with what it tells, up to i. -/
def stpL (Q : List Sp) (i : Nat) : List (Int × Int × Int) := Q.mapIdx fun j q => (q.1, q.2, if j < i then near (Q.map (·.2)) q.2 j else 0)
theorem stpL_len (Q : List Sp) (i : Nat) : (stpL Q i).length = Q.length := by simp [stpL]
theorem stpL_get {Q : List Sp} {i j : Nat} {q : Sp} (h : Q[j]? = some q) : (stpL Q i)[j]? = some (q.1, q.2, if j < i then near (Q.map (·.2)) q.2 j else 0) := by
  simp [stpL, h]
end Go.Proofs.Ytdgomaoikeffhaa
