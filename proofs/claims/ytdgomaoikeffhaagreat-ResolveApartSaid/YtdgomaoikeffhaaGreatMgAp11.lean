/- Texts of one claim, one behind the other. -/
import Derived.Deep.DeepCutAuto
import Derived.Test.YtdgomaoikeffhaaGreatMgAp1
import Derived.Test.YtdgomaoikeffhaaGreatMgAp2
import Derived.Test.YtdgomaoikeffhaaGreatMgAp3
import Derived.Test.YtdgomaoikeffhaaGreatMgAp4
import Derived.Test.YtdgomaoikeffhaaGreatMgAp5
/- The reference's Runs, walked. -/
namespace Go.Proofs.YtdgomaoikeffhaaGreat
open Go.RowKit

def encN (r : List Nat) : List Int := r.map fun i => ((i : Nat) : Int)
def encR (R : List (List Nat)) : List (List Int) := R.map encN
def lastI : Option Nat → Int
  | none => -1
  | some l => (l : Int)
theorem encR_new (R : List (List Nat)) (k : Nat) : (encR R ++ [[]]).set R.length ([] ++ [(k : Int)]) = encR (R ++ [[k]]) := by
  unfold encR
  rw [List.set_append_right _ _ (by simp), List.length_map, Nat.sub_self, List.set_cons_zero, List.map_append]
  rfl
theorem encR_more (R : List (List Nat)) (r : List Nat) (k : Nat) : (encR (R ++ [r])).set R.length (encN r ++ [(k : Int)]) = encR (R ++ [r ++ [k]]) := by
  unfold encR
  rw [List.map_append, List.set_append_right _ _ (by simp), List.length_map, Nat.sub_self, List.map_append]
  simp [encN]
theorem lsSlice : SliceOf Tryz.prog 87 22 1 24 := .mk_ (z := .slice none 0 0) Tryz.underlying87 (by kernel_rfl) rfl
theorem rn_skip {lv cl : List Int} {k : Nat} (h : leftC (cl.getD k 0) = true) : rnA lv cl (k + 1) = rnA lv cl k := by rw [rnA]; unfold rnS; rw [if_pos h]
theorem rn_none {lv cl : List Int} {k : Nat} (h : leftC (cl.getD k 0) = false) (hs : rnA lv cl k = ([], none)) : rnA lv cl (k + 1) = ([[k]], some k) := by rw [rnA, hs]; unfold rnS; rw [if_neg (by rw [h]; simp)]
theorem rn_new {lv cl : List Int} {k l : Nat} {r : List Nat} {rs : List (List Nat)} (h : leftC (cl.getD k 0) = false) (hs : rnA lv cl k = (r :: rs, some l)) (hl : lv.getD l 0 ≠ lv.getD k 0) : rnA lv cl (k + 1) = ([k] :: r :: rs, some k) := by
  rw [rnA, hs]
  unfold rnS
  rw [if_neg (by rw [h]; simp)]
  show (if lv.getD l 0 = lv.getD k 0 then _ else _) = _
  rw [if_neg hl]
theorem rn_more {lv cl : List Int} {k l : Nat} {r : List Nat} {rs : List (List Nat)} (h : leftC (cl.getD k 0) = false) (hs : rnA lv cl k = (r :: rs, some l)) (hl : lv.getD l 0 = lv.getD k 0) : rnA lv cl (k + 1) = ((r ++ [k]) :: rs, some k) := by
  rw [rnA, hs]
  unfold rnS
  rw [if_neg (by rw [h]; simp)]
  show (if lv.getD l 0 = lv.getD k 0 then _ else _) = _
  rw [if_pos hl]
/-- How the runs stand: none, or a last one that ends at a place behind us. -/
theorem rn_form (lv cl : List Int) (k : Nat) : rnA lv cl k = ([], none) ∨ ∃ r rs l, rnA lv cl k = (r :: rs, some l) ∧ l < k ∧ r.length ≤ k ∧ rs.length < k := by
  obtain ⟨h1, h2, h3, h4⟩ := rn_ok lv cl k
  obtain ⟨o, la, hs⟩ : ∃ o la, rnA lv cl k = (o, la) := ⟨_, _, rfl⟩
  rw [hs] at h1 h2 h3 h4
  cases o with
  | nil =>
    left
    have := h4 rfl
    simp only at this
    rw [hs, this]
  | cons r rs =>
    right
    have hne := (h2 r (by simp)).1
    have hla := h3 r rs rfl
    simp only at hla
    have hsub : ∀ x ∈ (r :: rs).reverse.flatten, x < k := fun x hx => by
      simp only at h1
      rw [h1] at hx
      exact List.mem_range.1 (List.mem_filter.1 hx).1
    obtain ⟨l, hl⟩ : ∃ l, r.getLast? = some l := by
      cases h : r.getLast? with
      | none => exact absurd (List.getLast?_eq_none_iff.1 h) hne
      | some l => exact ⟨l, rfl⟩
    have hlen : (r :: rs).reverse.flatten.length ≤ k := by
      simp only at h1
      rw [h1]
      exact Nat.le_trans (List.length_filter_le _ _) (by simp)
    have hrs : ∀ L : List (List Nat), (∀ x ∈ L, x ≠ []) → L.length ≤ L.flatten.length := fun L => by
      induction L with
      | nil => simp
      | cons a L ih =>
        intro h
        have h5 := ih (fun x hx => h x (by simp [hx]))
        have h6 : a.length ≠ 0 := fun e => h a (by simp) (List.eq_nil_of_length_eq_zero e)
        simp only [List.flatten_cons, List.length_append, List.length_cons]
        omega
    have h5 := hrs (r :: rs).reverse (fun x hx => (h2 x (List.mem_reverse.1 hx)).1)
    have h6 : r.length ≤ (r :: rs).reverse.flatten.length := by
      rw [List.reverse_cons, List.flatten_append, List.length_append]
      simp
    rw [List.length_reverse, List.length_cons] at h5
    refine ⟨r, rs, l, by rw [hs, hla, hl], hsub l ?_, by omega, by omega⟩
    rw [List.reverse_cons, List.flatten_append]
    exact List.mem_append_right _ (by simpa using List.mem_of_getLast? hl)
end Go.Proofs.YtdgomaoikeffhaaGreat
/- The runs as the law asks them; lengths of slices of slices. -/
namespace Go.Proofs.YtdgomaoikeffhaaGreat
open Go.RowKit

def runsG (lv cl : List Int) : List (List Nat) := if lv.length = cl.length then runsF lv cl else []
theorem oneNil : ∀ u ∈ [Value.slice none 0 0], u.oneCell' = true := by
  intro u hu
  simp at hu
  subst hu
  rfl
theorem len_ls (w : World) (A : Option Addr) (n c : Nat) : (Builtin.len_ #[87] 3 #[.slice A n c]).run Tryz.prog w = .ok (.int .i64 (n : Int)) w := run_len_slice w _ _ A n c (by kernel_rfl)
end Go.Proofs.YtdgomaoikeffhaaGreat
/- The direction of two levels; the levels around a place. No function of the program. -/
namespace Go.Proofs.YtdgomaoikeffhaaGreat
open Go.RowKit

/-- The direction of two levels. -/
def dirF (a b : Int) : Int := if max a b % 2 = 0 then 0 else 1
/-- The level of the last place ahead of p that is not left out. -/
def ahF (lv cl : List Int) (level : Int) : Nat → Int
  | 0 => level
  | k + 1 => if leftC (cl.getD k 0) = true then ahF lv cl level k else lv.getD k 0
/-- The level of the first place from p on that is not left out. -/
def bhF (lv cl : List Int) (level : Int) (p : Nat) : Int := match ((List.range lv.length).drop p).find? (fun i => !leftC (cl.getD i 0)) with
  | some i => lv.getD i 0
  | none => level
theorem bh_end {lv cl : List Int} {level : Int} {p : Nat} (h : lv.length ≤ p) : bhF lv cl level p = level := by
  unfold bhF
  rw [List.drop_of_length_le (by simpa using h)]
  rfl
theorem bh_step {lv cl : List Int} {level : Int} {p : Nat} (h : p < lv.length) : bhF lv cl level p = if leftC (cl.getD p 0) = true then bhF lv cl level (p + 1) else lv.getD p 0 := by
  have hd : (List.range lv.length).drop p = p :: (List.range lv.length).drop (p + 1) := by
    rw [List.drop_eq_getElem_cons (by simpa using h)]
    simp
  unfold bhF
  rw [hd, List.find?_cons]
  by_cases hl : leftC (cl.getD p 0) = true
  · simp only [hl, Bool.not_true, if_true]
  · have hl' : leftC (cl.getD p 0) = false := by simpa using hl
    simp only [hl', Bool.not_false, Bool.false_eq_true, if_false]
end Go.Proofs.YtdgomaoikeffhaaGreat
/- Sequences as mathematics, as they lie in memory. -/
namespace Go.Proofs.YtdgomaoikeffhaaGreat
open Go.RowKit

/-- A sequence: its places, level, sos, eos. -/
structure SqE where
  at_ : List Nat
  lev : Int
  sos : Int
  eos : Int
/-- The sequence of some places. -/
def sqAns (lv cl bf mt : List Int) (level : Int) (P : List Nat) : SqE :=
  let f := P.headD 0
  let l := P.getLastD 0
  ⟨P, lv.getD f 0, dirF (lv.getD f 0) (ahF lv cl level f), if opB (bf.getD l 0) = true ∧ mt.getD l 0 = bf.length then dirF (lv.getD l 0) level else dirF (lv.getD l 0) (bhF lv cl level (l + 1))⟩
/-- The sequences of the first i runs. -/
def seqsF (lv cl bf : List Int) (level : Int) (i : Nat) : List SqE := (sqF (runsG lv cl) bf (matF bf) i).1.map fun ks => sqAns lv cl bf (matF bf) level (placesF (runsG lv cl) ks)
/-- Which runs are used. -/
def usedL (U : List Nat) (N : Nat) : List Bool := (List.range N).map fun j => decide (j ∈ U)
theorem usedL_len (U : List Nat) (N : Nat) : (usedL U N).length = N := by simp [usedL]
theorem usedL_at {U : List Nat} {N j : Nat} (h : j < N) : (usedL U N)[j]? = some (decide (j ∈ U)) := by simp [usedL, h]
theorem usedL_nil (N : Nat) : usedL [] N = List.replicate N false := by
  apply List.ext_getElem <;> simp [usedL]
theorem usedL_set {U : List Nat} {N k : Nat} : (usedL U N).set k true = usedL (U ++ [k]) N := by
  apply List.ext_getElem
  · simp [usedL]
  · intro i h1 h2
    simp [usedL, List.getElem_set]
    by_cases e : k = i
    · simp [e]
    · have e' : ¬ i = k := fun h => e h.symm
      simp [e, e']
theorem placesF_snoc (R : List (List Nat)) (ks : List Nat) (k : Nat) : placesF R (ks ++ [k]) = placesF R ks ++ R.getD k [] := by unfold placesF; simp
theorem encN_app (a b : List Nat) : encN (a ++ b) = encN a ++ encN b := by simp [encN]
/-- A sequence as it lies: its places' slice. -/
structure SqO where
  V : Value
  e : SqE
def cQ (o : SqO) : List Value := [o.V, .int .i64 o.e.lev, .int .i64 o.e.sos, .int .i64 o.e.eos]
end Go.Proofs.YtdgomaoikeffhaaGreat
/- The reference's Sequences: the steps of one sequence, as mathematics. -/
namespace Go.Proofs.YtdgomaoikeffhaaGreat
open Go.RowKit

section
variable {R : List (List Nat)} {bf mt : List Int}
theorem ch_none (f : Nat) (u : List Nat) : chF R bf mt f none u = u := by cases f <;> rw [chF]
theorem ch_used {f k : Nat} {u : List Nat} (h : k ∈ u) : chF R bf mt f (some k) u = u := by
  cases f with
  | zero => rw [chF]
  | succ f => rw [chF, if_pos h]
theorem ch_more {f k : Nat} {u : List Nat} (h : k ∉ u) : chF R bf mt (f + 1) (some k) u = chF R bf mt f (nxF R bf mt k) (u ++ [k]) := by rw [chF, if_neg h]
/-- Where the chain stops, nothing is added. -/
theorem ch_stop {f : Nat} {ko : Option Nat} {u : List Nat} (h : ¬ ∃ k, ko = some k ∧ k ∉ u) : chF R bf mt f ko u = u := by
  cases ko with
  | none => exact ch_none f u
  | some k => exact ch_used (Classical.not_not.1 fun hk => h ⟨k, rfl, hk⟩)
theorem nodup_snoc {u : List Nat} {k : Nat} (h : u.Nodup) (hk : k ∉ u) : (u ++ [k]).Nodup := by
  rw [List.nodup_append]
  refine ⟨h, by simp, ?_⟩
  intro x hx y hy
  rw [List.mem_singleton] at hy
  subst hy
  exact fun e => hk (e ▸ hx)
/-- There is a run more, so there is a round more. -/
theorem fuel_pos {f k N : Nat} {u : List Nat} (h : u.Nodup) (hb : ∀ x ∈ u, x < N) (hk : k ∉ u) (hkN : k < N) (hf : N < f + u.length) : 0 < f := by
  have h1 := nodup_snoc h hk
  have h2 : (u ++ [k]).length ≤ (List.range N).length := h1.length_le_of_subset (fun x hx => by
    rw [List.mem_range]
    rcases List.mem_append.1 hx with hx | hx
    · exact hb x hx
    · rw [List.mem_singleton] at hx; rw [hx]; exact hkN)
  simp at h2
  omega
theorem nx_of {k la : Nat} {r : List Nat} (hr : R[k]? = some r) (hl : r.getLast? = some la) : nxF R bf mt k = if opB (bf.getD la 0) = true ∧ mt.getD la 0 < bf.length then begF R (mt.getD la 0).toNat else none := by
  unfold nxF
  rw [List.getD_eq_getElem?_getD, hr, Option.getD_some, hl]
theorem getD_of {R : List (List Nat)} {k : Nat} {r : List Nat} (hr : R[k]? = some r) : R.getD k [] = r := by rw [List.getD_eq_getElem?_getD, hr]; rfl
theorem placesF_more {k : Nat} {ks r : List Nat} (hr : R[k]? = some r) : placesF R (ks ++ [k]) = placesF R ks ++ r := by rw [placesF_snoc, getD_of hr]
/-- Where an opening place is matched. -/
theorem mat_open {xs : List Int} {i : Nat} {x : Int} (hx : xs[i]? = some x) (ho : opB x = true) : ∃ p : Nat, (matF xs)[i]? = some ((p : Nat) : Int) := ⟨_, (matF_good xs).op i (by unfold OpAt; rw [hx]; simp [ho])⟩
theorem oneEnc (r : List Nat) : ∀ u ∈ (encN r).map (Value.int .i64), u.oneCell' = true := by
  intro u hu
  obtain ⟨x, _, rfl⟩ := List.mem_map.1 hu
  rfl
theorem enc_last {P : List Nat} {r : List Nat} {la q : Nat} (hl : r.getLast? = some la) (hq : P.length + r.length = q + 1) : ((encN (P ++ r)).map (Value.int .i64))[q]? = some (.int .i64 (la : Int)) := by
  have h1 : (P ++ r)[q]? = some la := by
    have hr : r ≠ [] := fun e => by rw [e] at hl; simp at hl
    have h2 : (P ++ r).getLast? = some la := by rw [List.getLast?_append, hl]; rfl
    rw [List.getLast?_eq_getElem?, List.length_append, hq] at h2
    exact h2
  unfold encN
  rw [List.getElem?_map, List.getElem?_map, h1]
  rfl
/-- No more places in some runs than in all. -/
theorem places_len {V : List Nat} (h : V.Nodup) (hb : ∀ x ∈ V, x < R.length) : (placesF R V).length ≤ R.flatten.length := by
  have hp : (V ++ (List.range R.length).filter (fun x => decide (x ∉ V))).Perm (List.range R.length) := by
    refine (List.perm_ext_iff_of_nodup ?_ List.nodup_range).2 fun a => ?_
    · rw [List.nodup_append]
      refine ⟨h, List.nodup_range.filter _, fun x hx y hy e => ?_⟩
      have := (List.mem_filter.1 hy).2
      simp at this
      exact this (e ▸ hx)
    · rw [List.mem_append, List.mem_filter, List.mem_range]
      simp only [decide_eq_true_eq]
      constructor
      · rintro (h1 | h1)
        · exact hb a h1
        · exact h1.1
      · intro h1
        by_cases e : a ∈ V
        · exact .inl e
        · exact .inr ⟨h1, e⟩
  have e2 : placesF R (List.range R.length) = R.flatten := by
    unfold placesF
    rw [List.flatMap_def]
    congr 1
    refine List.ext_getElem? fun i => ?_
    rw [List.getElem?_map]
    by_cases hi : i < R.length
    · rw [List.getElem?_range hi, Option.map_some, List.getD_eq_getElem?_getD, List.getElem?_eq_getElem hi, Option.getD_some]
    · rw [List.getElem?_eq_none (by simpa using hi), List.getElem?_eq_none (by omega)]; rfl
  have := (hp.flatMap_right (fun k => R.getD k [])).length_eq
  rw [← e2]
  unfold placesF
  rw [← this, List.flatMap_append, List.length_append]
  exact Nat.le_add_right _ _
end
end Go.Proofs.YtdgomaoikeffhaaGreat
/- Sequences: their first and last places; how many. No function of the program. -/
namespace Go.Proofs.YtdgomaoikeffhaaGreat
open Go.RowKit

section
variable {R : List (List Nat)} {bf mt : List Int}
theorem sq_len : ∀ i, (sqF R bf mt i).1.length ≤ i
  | 0 => by simp [sqF]
  | i + 1 => by
    have := sq_len i
    rw [sqF]
    split
    · omega
    · simp; omega
theorem last_of {P : List Nat} (h : P ≠ []) : P.getLast? = some (P.getLastD 0) := by
  obtain ⟨y, hy⟩ : ∃ y, P.getLast? = some y := by
    cases e : P.getLast? with
    | none => exact absurd (List.getLast?_eq_none_iff.1 e) h
    | some y => exact ⟨y, rfl⟩
  rw [List.getLastD_eq_getLast?, hy]
  rfl
theorem enc_head {P : List Nat} (h : P ≠ []) : ((encN P).map (Value.int .i64))[0]? = some (.int .i64 ((P.headD 0 : Nat) : Int)) := by
  cases P with
  | nil => exact absurd rfl h
  | cons a P => rfl
theorem enc_tail {P : List Nat} {q : Nat} (hq : P.length = q + 1) : ((encN P).map (Value.int .i64))[q]? = some (.int .i64 ((P.getLastD 0 : Nat) : Int)) := by
  have h2 : P[q]? = P.getLast? := by rw [List.getLast?_eq_getElem?, hq]; rfl
  have h3 : P.getLast? = some (P.getLastD 0) := last_of (fun e => by rw [e] at hq; simp at hq)
  unfold encN
  rw [List.getElem?_map, List.getElem?_map, h2, h3]
  rfl
theorem sqAns_of {lv cl : List Int} {level lvf lvl x : Int} {P : List Nat} {fi la : Nat} (hf : P.headD 0 = fi) (hl : P.getLastD 0 = la) (h1 : lv.getD fi 0 = lvf) (h2 : lv.getD la 0 = lvl) (h3 : bf.getD la 0 = x) : sqAns lv cl bf mt level P = ⟨P, lvf, dirF lvf (ahF lv cl level fi), if opB x = true ∧ mt.getD la 0 = bf.length then dirF lvl level else dirF lvl (bhF lv cl level (la + 1))⟩ := by
  subst hf hl h1 h2 h3
  rfl
theorem oneSq (a : Option Addr) (m c : Nat) (x y z : Int) : ∀ u ∈ [Value.slice a m c, .int .i64 x, .int .i64 y, .int .i64 z], u.oneCell' = true := by
  intro u hu
  simp at hu
  rcases hu with rfl | rfl | rfl | rfl <;> rfl
theorem places_mem {ks : List Nat} {x : Nat} (h : x ∈ placesF R ks) : ∃ r ∈ R, x ∈ r := by
  unfold placesF at h
  obtain ⟨k, _, hk⟩ := List.mem_flatMap.1 h
  rw [List.getD_eq_getElem?_getD] at hk
  rcases hr : R[k]? with _ | r
  · rw [hr] at hk; simp at hk
  · rw [hr] at hk
    exact ⟨r, List.mem_of_getElem? hr, hk⟩
theorem head_mem {P : List Nat} (h : P ≠ []) : P.headD 0 ∈ P := by
  cases P with
  | nil => exact absurd rfl h
  | cons a P => simp
theorem last_mem {P : List Nat} (h : P ≠ []) : P.getLastD 0 ∈ P := by
  exact List.mem_of_getLast? (last_of h)
theorem places_ne {ks : List Nat} (h : ks ≠ []) (hb : ∀ k ∈ ks, k < R.length) (hR : ∀ r ∈ R, r ≠ []) : placesF R ks ≠ [] := by
  cases ks with
  | nil => exact absurd rfl h
  | cons k ks =>
    have hk := hb k (by simp)
    have := hR R[k] (List.getElem_mem hk)
    intro e
    unfold placesF at e
    rw [List.flatMap_cons] at e
    have e2 := (List.append_eq_nil_iff.1 e).1
    rw [List.getD_eq_getElem?_getD, List.getElem?_eq_getElem hk] at e2
    exact this e2
end
end Go.Proofs.YtdgomaoikeffhaaGreat
/- Sequences as the program makes them, as mathematics: which runs are free, what goes on behind a place, what is around a run. No function of the program. -/
namespace Go.Proofs.YtdgomaoikeffhaaGreat
open Go.RowKit

theorem split_uniq {a : Nat} : ∀ {X F Y G : List Nat}, a ∉ X → a ∉ F → X ++ a :: Y = F ++ a :: G → X = F ∧ Y = G
  | [], [], Y, G, _, _, h => by simpa using h
  | [], f :: F, Y, G, _, h2, h => by
    simp at h
    exact absurd (by simp [h.1]) h2
  | x :: X, [], Y, G, h1, _, h => by
    simp at h
    exact absurd (by simp [h.1]) h1
  | x :: X, f :: F, Y, G, h1, h2, h => by
    simp only [List.cons_append, List.cons.injEq] at h
    obtain ⟨e1, e2⟩ := split_uniq (fun m => h1 (by simp [m])) (fun m => h2 (by simp [m])) h.2
    exact ⟨by rw [h.1, e1], e2⟩
/-- What stays of the places ahead of one, and behind it. -/
theorem filter_split {nl : Nat → Bool} {n a : Nat} {X Y : List Nat} (h : (List.range n).filter nl = X ++ a :: Y) : (List.range a).filter nl = X ∧ ((List.range n).drop (a + 1)).filter nl = Y ∧ a < n := by
  have hm : a ∈ (List.range n).filter nl := by rw [h]; simp
  obtain ⟨hr, hn⟩ := List.mem_filter.1 hm
  have hlt := List.mem_range.1 hr
  have hnd : ((List.range n).filter nl).Nodup := List.nodup_range.filter _
  rw [h] at hnd
  have e : List.range n = List.range a ++ a :: (List.range n).drop (a + 1) := by
    have h1 := (List.take_append_drop a (List.range n)).symm
    rw [List.take_range, Nat.min_eq_left (by omega), List.drop_eq_getElem_cons (by simpa using hlt)] at h1
    simpa using h1
  have h2 := h
  rw [e, List.filter_append, List.filter_cons, if_pos hn] at h2
  have hx : a ∉ X := fun m => (List.nodup_append.1 hnd).2.2 a m a (by simp) rfl
  have hf : a ∉ (List.range a).filter nl := fun m => by
    have := List.mem_range.1 (List.mem_filter.1 m).1
    omega
  obtain ⟨e1, e2⟩ := split_uniq hf hx h2
  exact ⟨e1, e2, hlt⟩
theorem run_split {R : List (List Nat)} {k : Nat} {r : List Nat} (h : R[k]? = some r) : R.flatten = (R.take k).flatten ++ (r ++ (R.drop (k + 1)).flatten) := by
  obtain ⟨hk, hr⟩ := List.getElem?_eq_some_iff.1 h
  conv => lhs; rw [← List.take_append_drop k R, List.drop_eq_getElem_cons hk, hr]
  simp
theorem flatten_disj : ∀ {L : List (List Nat)}, L.flatten.Nodup → ∀ {i j : Nat} {a b : List Nat} {p : Nat}, L[i]? = some a → L[j]? = some b → p ∈ a → p ∈ b → i = j
  | [], _, i, _, _, _, _, h, _, _, _ => by simp at h
  | l :: L, hn, 0, 0, _, _, _, _, _, _, _ => rfl
  | l :: L, hn, 0, j + 1, a, b, p, h1, h2, h3, h4 => by
    obtain rfl := Option.some.inj h1
    rw [List.flatten_cons] at hn
    have hb : p ∈ L.flatten := List.mem_flatten.2 ⟨b, List.mem_of_getElem? (by simpa using h2), h4⟩
    exact absurd rfl ((List.nodup_append.1 hn).2.2 p h3 p hb)
  | l :: L, hn, i + 1, 0, a, b, p, h1, h2, h3, h4 => by
    obtain rfl := Option.some.inj h2
    rw [List.flatten_cons] at hn
    have hb : p ∈ L.flatten := List.mem_flatten.2 ⟨a, List.mem_of_getElem? (by simpa using h1), h3⟩
    exact absurd rfl ((List.nodup_append.1 hn).2.2 p h4 p hb)
  | l :: L, hn, i + 1, j + 1, a, b, p, h1, h2, h3, h4 => by
    rw [List.flatten_cons] at hn
    have := flatten_disj (List.nodup_append.1 hn).2.1 (by simpa using h1) (by simpa using h2) h3 h4
    omega
/-- Runs as they come: of places below n, each once, none empty. -/
structure Runs (R : List (List Nat)) (lv cl : List Int) (n : Nat) : Prop where
  flat : R.flatten = (List.range n).filter fun i => !leftC (cl.getD i 0)
  one : ∀ r ∈ R, r ≠ [] ∧ ∀ x ∈ r, ∀ y ∈ r, lv.getD x 0 = lv.getD y 0
theorem runs_of (lv cl : List Int) : Runs (runsF lv cl) lv cl lv.length := ⟨runs_flat lv cl, fun _ hr => runs_one hr⟩
section
variable {R : List (List Nat)} {lv cl : List Int} {n : Nat}
theorem Runs.nodup (h : Runs R lv cl n) : R.flatten.Nodup := by rw [h.flat]; exact List.nodup_range.filter _
theorem Runs.lt (h : Runs R lv cl n) {r : List Nat} {x : Nat} (hr : r ∈ R) (hx : x ∈ r) : x < n := by
  have : x ∈ R.flatten := List.mem_flatten.2 ⟨r, hr, hx⟩
  rw [h.flat] at this
  exact List.mem_range.1 (List.mem_filter.1 this).1
theorem Runs.beg (h : Runs R lv cl n) {k p : Nat} {r : List Nat} (hk : R[k]? = some r) (hp : r.head? = some p) : begF R p = some k := by
  obtain ⟨hlt, hr⟩ := List.getElem?_eq_some_iff.1 hk
  unfold begF
  refine List.findIdx?_eq_some_iff_getElem.2 ⟨hlt, by rw [hr]; simp [hp], fun j hj => ?_⟩
  intro hd
  have hd := of_decide_eq_true hd
  have hjl : j < R.length := by omega
  have := flatten_disj h.nodup (List.getElem?_eq_getElem hjl) hk (List.mem_of_head? hd) (List.mem_of_head? hp)
  omega
theorem Runs.begOnly (_h : Runs R lv cl n) {k p q : Nat} (hp : begF R p = some k) (hq : begF R q = some k) : p = q := by
  have h1 := (beg_lt hp).2
  have h2 := (beg_lt hq).2
  rw [h1] at h2
  exact Option.some.inj h2
theorem Runs.begNone (h : Runs R lv cl n) {p : Nat} (hp : n ≤ p) : begF R p = none := by
  cases hb : begF R p with
  | none => rfl
  | some k =>
    obtain ⟨hk, hh⟩ := beg_lt hb
    rw [List.getD_eq_getElem?_getD, List.getElem?_eq_getElem hk, Option.getD_some] at hh
    have := h.lt (List.getElem_mem hk) (List.mem_of_head? hh)
    omega
/-- The level of a run, and around all of them the whole's. -/
def levF (R : List (List Nat)) (lv : List Int) (level : Int) (k : Int) : Int := if k < 0 ∨ (R.length : Int) ≤ k then level else lv.getD ((R.getD k.toNat []).headD 0) 0
theorem flat_head {L : List (List Nat)} (h : ∀ r ∈ L, r ≠ []) : L.flatten.head? = L.head?.bind List.head? := by
  cases L with
  | nil => rfl
  | cons r L =>
    rw [List.flatten_cons]
    have hr := h r (by simp)
    cases r with
    | nil => exact absurd rfl hr
    | cons a r => rfl
theorem flat_last {L : List (List Nat)} (h : ∀ r ∈ L, r ≠ []) : L.flatten.getLast? = L.getLast?.bind List.getLast? := by
  rcases List.eq_nil_or_concat L with rfl | ⟨L', r, rfl⟩
  · rfl
  · rw [List.concat_eq_append, List.flatten_append, List.flatten_cons, List.flatten_nil, List.append_nil]
    have hr : r ≠ [] := h r (by simp)
    obtain ⟨y, hy⟩ : ∃ y, r.getLast? = some y := by
      cases e : r.getLast? with
      | none => exact absurd (List.getLast?_eq_none_iff.1 e) hr
      | some y => exact ⟨y, rfl⟩
    rw [List.getLast?_append, hy]
    simp [hy]
theorem Runs.behind (h : Runs R lv cl n) (hn : lv.length = n) {k la : Nat} {r : List Nat} (level : Int) (hk : R[k]? = some r) (hl : r.getLast? = some la) : bhF lv cl level (la + 1) = levF R lv level ((k : Int) + 1) := by
  obtain ⟨hkl, hkr⟩ := List.getElem?_eq_some_iff.1 hk
  obtain ⟨r', rfl⟩ : ∃ r', r = r' ++ [la] := by
    obtain ⟨r', hr'⟩ := List.getLast?_eq_some_iff.1 hl
    exact ⟨r', hr'⟩
  have hs : (List.range n).filter (fun i => !leftC (cl.getD i 0)) = ((R.take k).flatten ++ r') ++ la :: (R.drop (k + 1)).flatten := by
    rw [← h.flat, run_split hk]
    simp
  obtain ⟨_, h2, _⟩ := filter_split hs
  unfold bhF
  rw [hn, ← List.head?_filter, h2, flat_head (fun r hr => (h.one r (List.mem_of_mem_drop hr)).1), List.head?_drop]
  unfold levF
  by_cases hlt : k + 1 < R.length
  · rw [if_neg (by omega), List.getElem?_eq_getElem hlt]
    have hne := (h.one _ (List.getElem_mem hlt)).1
    rw [show ((k : Int) + 1).toNat = k + 1 by omega, getD_of (List.getElem?_eq_getElem hlt)]
    cases hr : R[k + 1] with
    | nil => exact absurd hr hne
    | cons a r => rfl
  · rw [if_pos (by omega), List.getElem?_eq_none (by omega)]
    rfl
theorem ah_last (lv cl : List Int) (level : Int) : ∀ f, ahF lv cl level f = match ((List.range f).filter fun i => !leftC (cl.getD i 0)).getLast? with | some i => lv.getD i 0 | none => level
  | 0 => rfl
  | f + 1 => by
    rw [ahF, List.range_succ, List.filter_append, List.filter_cons, List.filter_nil]
    cases hl : leftC (cl.getD f 0) with
    | true =>
      simp only [if_true, Bool.not_true, Bool.false_eq_true, if_false, List.append_nil]
      exact ah_last lv cl level f
    | false =>
      simp only [Bool.not_false, if_true, Bool.false_eq_true, if_false]
      rw [List.getLast?_append]
      rfl
theorem Runs.ahead (h : Runs R lv cl n) {k f : Nat} {r : List Nat} (level : Int) (hk : R[k]? = some r) (hf : r.head? = some f) : ahF lv cl level f = levF R lv level ((k : Int) - 1) := by
  obtain ⟨hkl, hkr⟩ := List.getElem?_eq_some_iff.1 hk
  obtain ⟨r', rfl⟩ : ∃ r', r = f :: r' := by
    cases r with
    | nil => simp at hf
    | cons a r' => exact ⟨r', by simp at hf; rw [hf]⟩
  have hs : (List.range n).filter (fun i => !leftC (cl.getD i 0)) = (R.take k).flatten ++ f :: (r' ++ (R.drop (k + 1)).flatten) := by
    rw [← h.flat, run_split hk]
    simp
  obtain ⟨h1, _, _⟩ := filter_split hs
  rw [ah_last, h1, flat_last (fun r hr => (h.one r (List.mem_of_mem_take hr)).1)]
  unfold levF
  cases k with
  | zero => rw [if_pos (by omega)]; rfl
  | succ k =>
    have hk' : k < R.length := by omega
    rw [if_neg (by omega), show (((k + 1 : Nat) : Int) - 1).toNat = k by omega]
    have e : (R.take (k + 1)).getLast? = some R[k] := by
      rw [List.take_add_one, List.getElem?_eq_getElem hk', Option.toList_some, List.getLast?_append]
      rfl
    rw [e, getD_of (List.getElem?_eq_getElem hk')]
    obtain ⟨hne, hsame⟩ := h.one _ (List.getElem_mem hk')
    obtain ⟨y, hy⟩ : ∃ y, R[k].getLast? = some y := by
      cases e : R[k].getLast? with
      | none => exact absurd (List.getLast?_eq_none_iff.1 e) hne
      | some y => exact ⟨y, rfl⟩
    rw [Option.bind_some, hy]
    exact hsame y (List.mem_of_getLast? hy) _ (head_mem hne)
/-- Which run goes on behind a place, as the program asks it. -/
theorem mat_small {bf : List Int} {la : Nat} (hl : la < bf.length) (ho : opB (bf.getD la 0) = false) : (matF bf).getD la 0 < (la : Int) := by
  have hG := matF_good bf
  have hx : bf[la]? = some (bf.getD la 0) := by rw [List.getD_eq_getElem?_getD, List.getElem?_eq_getElem hl]; rfl
  have hn : ¬ OpAt bf la := fun h => by
    rw [opAt_of hx, ho] at h
    cases h
  rcases hG.else_ la hl hn with e | ⟨i, hi, e⟩
  · rw [List.getD_eq_getElem?_getD, e]
    show (-1 : Int) < la
    omega
  · have h2 := hG.shut i hi (by omega)
    rw [e] at h2
    rw [List.getD_eq_getElem?_getD, h2]
    have := ansF_ge bf (i + 1) 0 (by have := opAt_lt hi; omega)
    show (i : Int) < la
    omega
theorem mat_big {bf : List Int} {la : Nat} (hl : la < bf.length) (ho : opB (bf.getD la 0) = true) : ∃ p : Nat, (matF bf).getD la 0 = (p : Int) ∧ la < p ∧ p ≤ bf.length := by
  have hG := matF_good bf
  have hx : bf[la]? = some (bf.getD la 0) := by rw [List.getD_eq_getElem?_getD, List.getElem?_eq_getElem hl]; rfl
  have hi : OpAt bf la := (opAt_of hx).2 ho
  refine ⟨ansF bf (la + 1) 0, by rw [List.getD_eq_getElem?_getD, hG.op la hi]; rfl, ?_, ansF_le bf _ _⟩
  have := ansF_ge bf (la + 1) 0 (by omega)
  omega
theorem Runs.next (h : Runs R lv cl n) {bf : List Int} (hb : bf.length = n) {k la : Nat} {r : List Nat} (hk : R[k]? = some r) (hl : r.getLast? = some la) : nxF R bf (matF bf) k = if (matF bf).getD la 0 ≤ (la : Int) then none else begF R ((matF bf).getD la 0).toNat := by
  have hla : la < bf.length := by rw [hb]; exact h.lt (List.mem_of_getElem? hk) (List.mem_of_getLast? hl)
  rw [nx_of hk hl]
  cases ho : opB (bf.getD la 0) with
  | false =>
    rw [if_neg (by simp), if_pos (by have := mat_small hla ho; omega)]
  | true =>
    obtain ⟨p, hp, h1, h2⟩ := mat_big hla ho
    rw [hp, if_neg (show ¬ (p : Int) ≤ (la : Int) by omega), Int.toNat_natCast]
    by_cases h3 : p < bf.length
    · rw [if_pos ⟨rfl, by omega⟩]
    · rw [if_neg (fun h => h3 (by omega)), h.begNone (by omega)]
/-- Where a match is the end of all, it is of what opens. -/
theorem mat_end {bf : List Int} {la : Nat} (hl : la < bf.length) : ((matF bf).getD la 0 = (bf.length : Int)) ↔ (opB (bf.getD la 0) = true ∧ (matF bf).getD la 0 = (bf.length : Int)) := by
  refine ⟨fun h => ⟨?_, h⟩, fun h => h.2⟩
  cases ho : opB (bf.getD la 0) with
  | true => rfl
  | false =>
    have := mat_small hl ho
    omega
/-- The runs that are in no sequence yet, by their first places. -/
def freeF (R : List (List Nat)) (U : List Nat) (p : Nat) : Option Nat := match begF R p with
  | some k => if k ∈ U then none else some k
  | none => none
theorem freeF_some {U : List Nat} {p k : Nat} (h : freeF R U p = some k) : begF R p = some k ∧ k ∉ U := by
  unfold freeF at h
  split at h
  · rename_i j hj
    split at h
    · cases h
    · rename_i hm
      obtain rfl := Option.some.inj h
      exact ⟨hj, hm⟩
  · cases h
theorem freeF_of {U : List Nat} {p k : Nat} (h1 : begF R p = some k) (h2 : k ∉ U) : freeF R U p = some k := by
  unfold freeF
  rw [h1]
  exact if_neg h2
theorem freeF_used {U : List Nat} {p k : Nat} (h1 : begF R p = some k) (h2 : k ∈ U) : freeF R U p = none := by
  unfold freeF
  rw [h1]
  exact if_pos h2
theorem freeF_no {U : List Nat} {p : Nat} (h1 : begF R p = none) : freeF R U p = none := by unfold freeF; rw [h1]
theorem Runs.taken (h : Runs R lv cl n) {U : List Nat} {p k : Nat} (hp : begF R p = some k) : delMN (freeF R U) p = freeF R (U ++ [k]) := by
  funext q
  unfold delMN
  by_cases e : q = p
  · rw [if_pos e, e, freeF_used hp (by simp)]
  · rw [if_neg e]
    cases hb : begF R q with
    | none => rw [freeF_no hb, freeF_no hb]
    | some j =>
      have hjk : j ≠ k := fun e2 => e (h.begOnly hb (by rw [e2]; exact hp))
      unfold freeF
      rw [hb]
      simp [hjk]
theorem freeF_same {U : List Nat} {p : Nat} (h : freeF R U p = none) : delMN (freeF R U) p = freeF R U := by
  funext q
  unfold delMN
  by_cases e : q = p
  · rw [if_pos e, e, h]
  · rw [if_neg e]
/-- The map while it is filled. -/
def fillF (R : List (List Nat)) (i : Nat) (p : Nat) : Option Nat := match begF R p with
  | some k => if k < i then some k else none
  | none => none
theorem fill_none : fillF R 0 = fun _ => none := by
  funext p
  unfold fillF
  split
  · exact if_neg (by omega)
  · rfl
theorem Runs.fill (h : Runs R lv cl n) {i p : Nat} {r : List Nat} (hi : R[i]? = some r) (hp : r.head? = some p) : putMN (fillF R i) p i = fillF R (i + 1) := by
  have hb := h.beg hi hp
  funext q
  unfold putMN
  by_cases e : q = p
  · rw [if_pos e, e]
    unfold fillF
    rw [hb]
    exact (if_pos (by omega)).symm
  · rw [if_neg e]
    unfold fillF
    cases hq : begF R q with
    | none => rfl
    | some j =>
      have hji : j ≠ i := fun e2 => e (h.begOnly hq (by rw [e2]; exact hb))
      by_cases hj : j < i
      · simp [hj, show j < i + 1 by omega]
      · simp [hj, show ¬ j < i + 1 by omega]
theorem fill_all : fillF R R.length = freeF R [] := by
  funext p
  unfold fillF freeF
  cases hb : begF R p with
  | none => rfl
  | some k => simp [(beg_lt hb).1]
end
end Go.Proofs.YtdgomaoikeffhaaGreat
/- A slice of sequences that reads so. -/
namespace Go.Proofs.YtdgomaoikeffhaaGreat
open Go.RowKit

theorem cQ_at {O : List SqO} {k : Nat} {o : SqO} (h : O[k]? = some o) : ∀ j, j < 4 → (O.flatMap cQ)[k * 4 + j]? = (cQ o)[j]? := by
  induction O generalizing k with
  | nil => simp at h
  | cons a O ih =>
    intro j hj
    rw [List.flatMap_cons]
    cases k with
    | zero =>
      simp at h
      subst h
      rw [Nat.zero_mul, Nat.zero_add, List.getElem?_append_left (by simpa [cQ] using hj)]
    | succ k =>
      have := ih (k := k) (by simpa using h) j hj
      rw [List.getElem?_append_right (by simp [cQ]; omega)]
      have e : (k + 1) * 4 + j - (cQ a).length = k * 4 + j := by simp [cQ]; omega
      rw [e, this]
theorem cQ_len (O : List SqO) : (O.flatMap cQ).length = O.length * 4 := by
  induction O with
  | nil => rfl
  | cons a O ih => rw [List.flatMap_cons, List.length_append, ih]; simp [cQ]; omega
/-- A slice of sequences that reads so. -/
structure RO (w : World) (A : Option Addr) (n : Nat) (O : List SqO) : Prop where
  rd : Rd w 4 A n (O.flatMap cQ)
  rows : ∀ o ∈ O, ∃ a c, o.V = .slice a o.e.at_.length c ∧ Rd w 1 a o.e.at_.length ((encN o.e.at_).map (Value.int .i64))
theorem RO.len {w : World} {A : Option Addr} {n : Nat} {O : List SqO} (h : RO w A n O) : O.length = n := by
  have := h.rd.1
  rw [cQ_len] at this
  omega
theorem RO.cell {w : World} {A : Option Addr} {n k : Nat} {O : List SqO} {o : SqO} (h : RO w A n O) (hk : O[k]? = some o) : ∃ ad, A = some ad ∧ w.cell? (ad.add (k * 4)) = some o.V ∧ w.cell? ⟨(ad.add (k * 4)).block, (ad.add (k * 4)).off + 1, none⟩ = some (.int .i64 o.e.lev) ∧ w.cell? ⟨(ad.add (k * 4)).block, (ad.add (k * 4)).off + 2, none⟩ = some (.int .i64 o.e.sos) ∧ w.cell? ⟨(ad.add (k * 4)).block, (ad.add (k * 4)).off + 3, none⟩ = some (.int .i64 o.e.eos) := by
  have hl := (List.getElem?_eq_some_iff.1 hk).1
  rw [h.len] at hl
  obtain ⟨ad, rfl, _, hc⟩ := h.rd.2 (by omega)
  have g := cQ_at hk
  have g0 := hc _ _ (g 0 (by omega))
  have g1 := hc _ _ (g 1 (by omega))
  have g2 := hc _ _ (g 2 (by omega))
  have g3 := hc _ _ (g 3 (by omega))
  rw [addNext ad (k * 4) 0] at g1
  rw [show k * 4 + 2 = k * 4 + (1 + 1) from rfl, addNext ad (k * 4) 1] at g2
  rw [show k * 4 + 3 = k * 4 + (2 + 1) from rfl, addNext ad (k * 4) 2] at g3
  exact ⟨ad, rfl, g0, g1, g2, g3⟩
theorem RO.drewN {w : World} {A : Option Addr} {n : Nat} {O : List SqO} (h : RO w A n O) (q : Nat) : RO (w.drewN q) A n O := ⟨h.rd.drewN q, fun o ho => (h.rows o ho).imp fun _ => Exists.imp fun _ => And.imp id fun r => r.drewN q⟩
end Go.Proofs.YtdgomaoikeffhaaGreat
/- All sequences; none where the counts are unlike. No function of the program. -/
namespace Go.Proofs.YtdgomaoikeffhaaGreat
open Go.RowKit

/-- All sequences; none where the counts are unlike. -/
def seqsG (lv cl bf : List Int) (level : Int) : List SqE := if lv.length = cl.length ∧ bf.length = cl.length then seqsF lv cl bf level (runsG lv cl).length else []
end Go.Proofs.YtdgomaoikeffhaaGreat
/- SeqOnce as mathematics: how often a place was seen; the level of a sequence. No function of the program. -/
namespace Go.Proofs.YtdgomaoikeffhaaGreat
open Go.RowKit

/-- How often each place is there. -/
def cntL (T : List Nat) (n : Nat) : List Int := (List.range n).map fun i => ((T.count i : Nat) : Int)
theorem cntL_len (T : List Nat) (n : Nat) : (cntL T n).length = n := by simp [cntL]
theorem cntL_nil (n : Nat) : cntL [] n = List.replicate n 0 := by
  apply List.ext_getElem <;> simp [cntL]
theorem cntL_at {T : List Nat} {n i : Nat} (h : i < n) : (cntL T n)[i]? = some ((T.count i : Nat) : Int) := by simp [cntL, h]
theorem cntL_put {T : List Nat} {n i : Nat} : (cntL T n).set i (((T.count i : Nat) : Int) + 1) = cntL (T ++ [i]) n := by
  apply List.ext_getElem
  · simp [cntL]
  · intro j h1 h2
    simp only [cntL, List.getElem_set, List.getElem_map, List.getElem_range, List.count_append]
    by_cases e : i = j
    · subst e
      simp
    · have : List.count j [i] = 0 := List.count_eq_zero_of_not_mem (by simp; exact fun h => e h.symm)
      simp [e, this]
/-- The places of sequences, one behind the other. -/
def allAt (L : List SqE) : List Nat := L.flatMap fun e => e.at_
theorem allAt_take {L : List SqE} {k : Nat} {e : SqE} (h : L[k]? = some e) : allAt (L.take (k + 1)) = allAt (L.take k) ++ e.at_ := by
  rw [List.take_add_one, h]; simp [allAt]
section
variable {lv cl bf : List Int} {level : Int} {n : Nat}
/-- Each place that is not left out is there once. -/
theorem all_once (hl : lv.length = n) (hc : cl.length = n) (hb : bf.length = n) (i : Nat) (hi : i < n) : (allAt (seqsG lv cl bf level)).count i = if leftC (cl.getD i 0) = true then 0 else 1 := by
  have hG : seqsG lv cl bf level = seqsF lv cl bf level (runsG lv cl).length := by unfold seqsG; rw [if_pos ⟨by omega, by omega⟩]
  have hR : runsG lv cl = runsF lv cl := by unfold runsG; rw [if_pos (by omega)]
  have e : allAt (seqsG lv cl bf level) = ((sqF (runsF lv cl) bf (matF bf) (runsF lv cl).length).1.map (placesF (runsF lv cl))).flatten := by
    rw [hG]
    unfold seqsF allAt
    rw [hR, List.flatMap_def, List.map_map]
    rfl
  rw [e, (sq_places (R := runsF lv cl) (bf := bf) (mt := matF bf)).count_eq, runs_flat, hl]
  cases hx : leftC (cl.getD i 0) with
  | true =>
    rw [if_pos rfl]
    refine List.count_eq_zero_of_not_mem (fun hm => ?_)
    have := (List.mem_filter.1 hm).2
    rw [hx] at this
    cases this
  | false =>
    rw [if_neg (by decide)]
    have hm : i ∈ (List.range n).filter fun i => !leftC (cl.getD i 0) := List.mem_filter.2 ⟨List.mem_range.2 hi, by rw [hx]; rfl⟩
    exact Nat.le_antisymm (List.nodup_iff_count.1 (List.nodup_range.filter _) i) (List.count_pos_iff.2 hm)
/-- All places of a sequence have its level, where what isolates and what ends it have one. -/
theorem seq_level (hl : lv.length = n) (hc : cl.length = n) (hb : bf.length = n) (hm : ∀ la : Nat, opB (bf.getD la 0) = true → (matF bf).getD la 0 < bf.length → lv.getD ((matF bf).getD la 0).toNat 0 = lv.getD la 0) {e : SqE} (he : e ∈ seqsG lv cl bf level) : ∀ x ∈ e.at_, x < n ∧ lv.getD x 0 = e.lev := by
  have hG : seqsG lv cl bf level = seqsF lv cl bf level (runsG lv cl).length := by unfold seqsG; rw [if_pos ⟨by omega, by omega⟩]
  have hR : runsG lv cl = runsF lv cl := by unfold runsG; rw [if_pos (by omega)]
  rw [hG] at he
  unfold seqsF at he
  rw [hR] at he
  obtain ⟨ks, hk, rfl⟩ := List.mem_map.1 he
  obtain ⟨hne, hsame⟩ := sq_level (R := runsF lv cl) (bf := bf) (mt := matF bf) (lv := lv) (fun r hr => runs_one hr) hm _ (Nat.le_refl _) ks hk
  intro x hx
  have hx' : x ∈ placesF (runsF lv cl) ks := hx
  obtain ⟨r, hr, hxr⟩ := places_mem hx'
  have hlt := (runs_of lv cl).lt hr hxr
  refine ⟨by omega, ?_⟩
  show lv.getD x 0 = lv.getD ((placesF (runsF lv cl) ks).headD 0) 0
  exact hsame x hx' _ (head_mem hne)
end
/-- What isolates and what ends it have one level. -/
theorem iso_level (xs : List Int) (base : Int) (la : Nat) (ho : opB (xs.getD la 0) = true) (hm : (matF xs).getD la 0 < xs.length) : (lvL xs base xs.length).getD ((matF xs).getD la 0).toNat 0 = (lvL xs base xs.length).getD la 0 := by
  have hla : la < xs.length := by
    rcases Nat.lt_or_ge la xs.length with h | h
    · exact h
    · rw [List.getD_eq_getElem?_getD, List.getElem?_eq_none h] at ho
      cases ho
  have hx : xs[la]? = some (xs.getD la 0) := by rw [List.getD_eq_getElem?_getD, List.getElem?_eq_getElem hla]; rfl
  have hi : OpAt xs la := (opAt_of hx).2 ho
  have hG := (matF_good xs).op la hi
  have hmv : (matF xs).getD la 0 = ((ansF xs (la + 1) 0 : Nat) : Int) := by rw [List.getD_eq_getElem?_getD, hG]; rfl
  rw [hmv] at hm ⊢
  rw [Int.toNat_natCast]
  have hlt : ansF xs (la + 1) 0 < xs.length := by omega
  have hp := ansF_pdi xs (la + 1) 0 hlt
  obtain ⟨j, hj⟩ : ∃ j, clo (xs.drop (la + 1)) 0 = some j := by
    cases h : clo (xs.drop (la + 1)) 0 with
    | some j => exact ⟨j, rfl⟩
    | none =>
      unfold ansF at hlt
      rw [h] at hlt
      simp at hlt
  have ha : ansF xs (la + 1) 0 = la + 1 + j := by unfold ansF; rw [hj]
  rw [ha] at hp hlt ⊢
  have h := pair_level (base := base) hx ho hj hp
  rw [List.getD_eq_getElem?_getD, List.getD_eq_getElem?_getD, lvL_get hlt, lvL_get hla, Option.getD_some, Option.getD_some, h]
end Go.Proofs.YtdgomaoikeffhaaGreat
/- How many sequences there are, and places; they lie as they lay. -/
namespace Go.Proofs.YtdgomaoikeffhaaGreat
open Go.RowKit

theorem seqsF_len {lv cl bf : List Int} {level : Int} {i : Nat} (hi : i ≤ (runsG lv cl).length) {e : SqE} (h : e ∈ seqsF lv cl bf level i) : e.at_.length ≤ lv.length := by
  unfold seqsF at h
  obtain ⟨ks, hk, rfl⟩ := List.mem_map.1 h
  have hsq := sq_ok (R := runsG lv cl) (bf := bf) (mt := matF bf) i hi
  have h1 : ks.Sublist (sqF (runsG lv cl) bf (matF bf) i).2 := by
    rw [← hsq.2.2.2]
    exact List.sublist_flatten_of_mem hk
  have h2 := places_len (R := runsG lv cl) (V := ks) (hsq.2.1.sublist h1) (fun x hx => hsq.1 x (h1.subset hx))
  show (placesF (runsG lv cl) ks).length ≤ _
  refine Nat.le_trans h2 ?_
  unfold runsG
  split
  · rw [runs_flat]
    exact Nat.le_trans (List.length_filter_le _ _) (by simp)
  · simp
theorem seqsG_len {lv cl bf : List Int} {level : Int} {e : SqE} (h : e ∈ seqsG lv cl bf level) : e.at_.length ≤ lv.length := by
  unfold seqsG at h
  split at h
  · exact seqsF_len (Nat.le_refl _) h
  · cases h
theorem seqsG_many {lv cl bf : List Int} {level : Int} : (seqsG lv cl bf level).length ≤ lv.length := by
  unfold seqsG
  split
  · rename_i hl
    unfold seqsF
    rw [List.length_map]
    refine Nat.le_trans (sq_len _) ?_
    unfold runsG
    rw [if_pos hl.1]
    have h1 : ∀ L : List (List Nat), (∀ x ∈ L, x ≠ []) → L.length ≤ L.flatten.length := fun L => by
      induction L with
      | nil => simp
      | cons a L ih =>
        intro h
        have h5 := ih (fun x hx => h x (by simp [hx]))
        have h6 : a.length ≠ 0 := fun e => h a (by simp) (List.eq_nil_of_length_eq_zero e)
        simp only [List.flatten_cons, List.length_append, List.length_cons]
        omega
    have h2 := h1 (runsF lv cl) (fun r hr => (runs_one hr).1)
    rw [runs_flat] at h2
    exact Nat.le_trans h2 (Nat.le_trans (List.length_filter_le _ _) (by simp))
  · simp
theorem RO.low {w w' : World} {A : Option Addr} {n : Nat} {O : List SqO} (h : RO w A n O) (hb : Below w.heap.size w w') : RO w' A n O := ⟨h.rd.below hb, fun o ho => (h.rows o ho).imp fun _ => Exists.imp fun _ => And.imp id fun r => r.below hb⟩
end Go.Proofs.YtdgomaoikeffhaaGreat
/- Levels of neutral as mathematics: what each place's class becomes, its level; that they lie between the paragraph's and the greatest one. No function of the program. -/
namespace Go.Proofs.YtdgomaoikeffhaaGreat
open Go.RowKit
/-- The classes of a sequence when all is done but the levels. -/
def resF (codes cl : List Int) (e : SqE) : List Int :=
  nu2 e.lev (nu1 (sideF e.sos) e.eos (n0F (atF cl e.at_) e.lev e.sos (wAll e.sos (atF cl e.at_)) (bkF (atF codes e.at_) (wAll e.sos (atF cl e.at_)))))
theorem resF_len (codes cl : List Int) (e : SqE) : (resF codes cl e).length = e.at_.length := by
  unfold resF
  rw [nu2_len, nu1_len, n0F_len, wAll_len, atF_len]
/-- A strong class stays, AL is R. -/
theorem resF_strong {codes cl : List Int} {e : SqE} {k i : Nat} (h : e.at_[k]? = some i) (hc : cl.getD i 0 = 0 ∨ cl.getD i 0 = 1 ∨ cl.getD i 0 = 2) : (resF codes cl e)[k]? = some (if cl.getD i 0 = 0 then 0 else 1) := by
  have h1 := wAll_strong (p := e.sos) hc (atF_at (l := cl) h)
  obtain ⟨v, hv⟩ : ∃ v : Int, (if cl.getD i 0 = 0 then (0 : Int) else 1) = v := ⟨_, rfl⟩
  have hv2 : v = 0 ∨ v = 1 := by rw [← hv]; split <;> simp
  rw [hv] at h1 ⊢
  have hb : (atF cl e.at_)[k]? ≠ some 8 := by rw [atF_at h]; intro h9; have := Option.some.inj h9; omega
  have h2 := n0F_keep (level := e.lev) (sos := e.sos) hb (bkF (atF codes e.at_) (wAll e.sos (atF cl e.at_))) (wAll e.sos (atF cl e.at_)) (fun p hp => by
    obtain ⟨a, b⟩ := bkF_on hp
    constructor
    · rintro rfl
      rw [List.getD_eq_getElem?_getD, h1] at a
      simp at a
      omega
    · rintro rfl
      rw [List.getD_eq_getElem?_getD, h1] at b
      simp at b
      omega)
  rw [h1] at h2
  have hn : neuB v = false := by rcases hv2 with rfl | rfl <;> rfl
  exact nu2_keep hn (nu1_keep hn h2)
/-- Numbers put at places, one behind the other. -/
def setsF : List (Nat × Int) → List Int → List Int
  | [], o => o
  | p :: W, o => setsF W (o.set p.1 p.2)
theorem setsF_len : ∀ (W : List (Nat × Int)) (o : List Int), (setsF W o).length = o.length
  | [], _ => rfl
  | p :: W, o => by rw [setsF, setsF_len W, List.length_set]
theorem setsF_app : ∀ (W V : List (Nat × Int)) (o : List Int), setsF (W ++ V) o = setsF V (setsF W o)
  | [], _, _ => rfl
  | _p :: W, V, _o => setsF_app W V _
theorem setsF_off {i : Nat} : ∀ {W : List (Nat × Int)} {o : List Int}, i ∉ W.map Prod.fst → (setsF W o)[i]? = o[i]?
  | [], _, _ => rfl
  | p :: W, o, h => by
    rw [List.map_cons, List.mem_cons, not_or] at h
    rw [setsF, setsF_off h.2, List.getElem?_set_ne (fun e => h.1 e.symm)]
theorem setsF_at {i : Nat} {v : Int} : ∀ {W : List (Nat × Int)} {o : List Int}, (i, v) ∈ W → (W.map Prod.fst).count i = 1 → i < o.length → (setsF W o)[i]? = some v
  | [], _, h, _, _ => by cases h
  | p :: W, o, h, hc, hi => by
    rw [List.map_cons, List.count_cons] at hc
    rw [setsF]
    by_cases e : p.1 = i
    · have h0 : (W.map Prod.fst).count i = 0 := by simp [e] at hc; simpa using hc
      have hn : i ∉ W.map Prod.fst := List.count_eq_zero.1 h0
      rcases List.mem_cons.1 h with h | h
      · rw [setsF_off hn, ← h, List.getElem?_set_self hi]
      · exact absurd (List.mem_map.2 ⟨_, h, rfl⟩) hn
    · have h1 : (W.map Prod.fst).count i = 1 := by simpa [e] using hc
      rcases List.mem_cons.1 h with h | h
      · exact absurd (by rw [← h]) e
      · exact setsF_at h h1 (by rw [List.length_set]; exact hi)
/-- What a sequence puts. -/
def putE (codes cl : List Int) (e : SqE) : List (Nat × Int) := e.at_.zip ((resF codes cl e).map fun c => impF c e.lev)
def putAll (codes cl : List Int) (L : List SqE) : List (Nat × Int) := L.flatMap (putE codes cl)
theorem putAll_fst (codes cl : List Int) (L : List SqE) : (putAll codes cl L).map Prod.fst = allAt L := by
  unfold putAll allAt
  rw [List.map_flatMap]
  congr 1
  funext e
  unfold putE
  rw [List.map_fst_zip]
  rw [List.length_map, resF_len]
  exact Nat.le_refl _
/-- A place that is left out has the level of the place ahead. -/
def fillS : Int → List Int → List Int → List Int
  | p, c :: cl, o :: out => (if leftC c = true then p else o) :: fillS (if leftC c = true then p else o) cl out
  | _, _, _ => []
theorem fillS_len : ∀ (p : Int) (cl out : List Int), cl.length = out.length → (fillS p cl out).length = cl.length
  | _, [], [], _ => rfl
  | p, c :: cl, o :: out, h => by rw [fillS, List.length_cons, fillS_len _ cl out (by simpa using h), List.length_cons]
  | _, [], _ :: _, h => by simp at h
  | _, _ :: _, [], h => by simp at h
theorem fillS_in {a b : Int} : ∀ {p : Int} {cl out : List Int}, a ≤ p ∧ p ≤ b → (∀ (i : Nat) (c o : Int), cl[i]? = some c → out[i]? = some o → leftC c = false → a ≤ o ∧ o ≤ b) → ∀ v ∈ fillS p cl out, a ≤ v ∧ v ≤ b
  | p, [], out, _, _, v, hv => by simp [fillS] at hv
  | p, c :: cl, [], _, _, v, hv => by simp [fillS] at hv
  | p, c :: cl, o :: out, hp, h, v, hv => by
    have hx : a ≤ (if leftC c = true then p else o) ∧ (if leftC c = true then p else o) ≤ b := by
      cases hc : leftC c with
      | true => simpa using hp
      | false => simpa using h 0 c o rfl rfl hc
    rw [fillS] at hv
    rcases List.mem_cons.1 hv with rfl | hv
    · exact hx
    · exact fillS_in hx (fun i c' o' h1 h2 h3 => h (i + 1) c' o' (by simpa using h1) (by simpa using h2) h3) v hv
theorem fillS_at : ∀ {p : Int} {cl out : List Int} {i : Nat} {c o : Int}, cl[i]? = some c → out[i]? = some o → leftC c = false → (fillS p cl out)[i]? = some o
  | p, [], _, i, _, _, h, _, _ => by simp at h
  | p, _ :: _, [], i, _, _, _, h, _ => by simp at h
  | p, c :: cl, o :: out, 0, c', o', h1, h2, h3 => by
    obtain rfl := Option.some.inj h1
    obtain rfl := Option.some.inj h2
    rw [fillS, h3]
    rfl
  | p, c :: cl, o :: out, i + 1, c', o', h1, h2, h3 => by
    rw [fillS, List.getElem?_cons_succ]
    exact fillS_at (by simpa using h1) (by simpa using h2) h3
/-- All levels of a paragraph. -/
def neuL (codes xs : List Int) (base : Int) : List Int :=
  fillS base xs (setsF (putAll codes (clL xs base xs.length) (seqsG (lvL xs base xs.length) (clL xs base xs.length) xs base)) (lvL xs base xs.length))
theorem neuL_len (codes xs : List Int) (base : Int) : (neuL codes xs base).length = xs.length := by
  unfold neuL
  exact fillS_len _ _ _ (by rw [setsF_len, lvL_len])
/-- What overrides is L, R or nothing. -/
def OvIn (s : Stk) : Prop := ∀ e ∈ s.bot :: s.R, e.ov = 13 ∨ e.ov = 0 ∨ e.ov = 1
theorem ov_new (n : Int) : OvIn (newS n) := fun e he => by
  simp only [newS, List.mem_singleton] at he
  subst he
  exact .inl rfl
theorem ov_push {s : Stk} {e : Ent} (h : OvIn s) (he : e.ov = 13 ∨ e.ov = 0 ∨ e.ov = 1) : OvIn (pushS s e).2 := by
  unfold pushS
  split
  · exact h
  · intro x hx
    simp only [List.mem_cons] at hx
    rcases hx with rfl | rfl | hx
    · exact h _ (by simp)
    · exact he
    · exact h x (by simp [hx])
theorem ov_emb {s : Stk} {r : Bool} {o : Int} (h : OvIn s) (ho : o = 13 ∨ o = 0 ∨ o = 1) : OvIn (embS s r o).2 := by
  unfold embS
  split
  · exact ov_push h ho
  · dsimp only
    split <;> exact h
theorem ov_iso {s : Stk} {r : Bool} (h : OvIn s) : OvIn (isoS s r).2 := by
  unfold isoS
  split
  · exact ov_push (s := { s with c := s.c + 1 }) h (.inl rfl)
  · exact h
theorem ov_endE {s : Stk} (h : OvIn s) : OvIn (endES s) := by
  unfold endES
  split
  · exact h
  · split
    · exact h
    · split
      · exact h
      · unfold popS
        split
        · exact h
        · intro x hx
          simp only [List.mem_cons] at hx
          rcases hx with rfl | hx
          · exact h _ (by simp)
          · exact h x (by simp [List.mem_of_mem_tail hx])
theorem ov_endI {s : Stk} (h : OvIn s) : OvIn (endIS s) := by
  unfold endIS
  split
  · exact h
  · split
    · intro x hx
      simp only [List.mem_cons] at hx
      rcases hx with rfl | hx
      · exact h _ (by simp)
      · exact h x (by simp [(List.dropWhile_sublist _).subset (List.mem_of_mem_tail hx)])
    · exact h
theorem ov_step {s : Stk} (xs : List Int) (i : Nat) (c : Int) (h : OvIn s) : OvIn (stepB xs i c s) := by
  unfold stepB
  split
  · exact ov_emb h (.inl rfl)
  · split
    · exact ov_emb h (.inl rfl)
    · split
      · exact ov_emb h (.inr (.inr rfl))
      · split
        · exact ov_emb h (.inr (.inl rfl))
        · split
          · exact ov_endE h
          · split
            · exact ov_iso h
            · exact h
theorem ov_a {s : Stk} (c : Int) (h : OvIn s) : OvIn (stepA s c) := by
  unfold stepA
  split
  · exact ov_endI h
  · exact h
theorem ov_st (xs : List Int) (base : Int) : ∀ k, OvIn (stE xs base k)
  | 0 => ov_new base
  | k + 1 => ov_step xs k _ (ov_a _ (ov_st xs base k))
theorem ov_top {s : Stk} (h : OvIn s) : s.top.ov = 13 ∨ s.top.ov = 0 ∨ s.top.ov = 1 := by
  refine h _ ?_
  unfold Stk.top
  cases s.R with
  | nil => simp
  | cons a R => simp
theorem clL_left (xs : List Int) (base : Int) {i : Nat} (hi : i < xs.length) (h : leftC (xs.getD i 0) = false) : leftC ((clL xs base xs.length).getD i 0) = false := by
  have e : (clL xs base xs.length).getD i 0 = (exA xs base i).2 := by
    unfold clL
    rw [List.getD_eq_getElem?_getD, List.getElem?_map, List.getElem?_range hi]
    rfl
  rw [e]
  have ho := ov_top (ov_a (xs.getD i 0) (ov_st xs base i))
  unfold exA outX
  split
  · exact h
  · rw [h]
    simp only [Bool.false_eq_true, if_false]
    unfold givS
    split
    · exact h
    · rename_i hn
      rcases ho with ho | ho | ho
      · exact absurd ho hn
      · rw [ho]; rfl
      · rw [ho]; rfl
/-- Each place that is not left out has its level from the one sequence that it is in. -/
theorem put_at {codes xs : List Int} {base : Int} {i : Nat} (hi : i < xs.length) (h : leftC (xs.getD i 0) = false) : ∃ e ∈ seqsG (lvL xs base xs.length) (clL xs base xs.length) xs base, ∃ (k : Nat) (c : Int), e.at_[k]? = some i ∧ (resF codes (clL xs base xs.length) e)[k]? = some c ∧ e.lev = (lvL xs base xs.length).getD i 0 ∧ (setsF (putAll codes (clL xs base xs.length) (seqsG (lvL xs base xs.length) (clL xs base xs.length) xs base)) (lvL xs base xs.length))[i]? = some (impF c e.lev) := by
  have hc := clL_left xs base hi h
  have hone := all_once (level := base) (n := xs.length) (lvL_len xs base _) (clL_len xs base _) (rfl : xs.length = xs.length) i hi
  rw [hc] at hone
  simp only [Bool.false_eq_true, if_false] at hone
  have hm : i ∈ allAt (seqsG (lvL xs base xs.length) (clL xs base xs.length) xs base) := List.count_pos_iff.1 (by omega)
  obtain ⟨e, he, hie⟩ := List.mem_flatMap.1 hm
  obtain ⟨k, hk⟩ := List.getElem?_of_mem hie
  obtain ⟨c, hcc⟩ : ∃ c, (resF codes (clL xs base xs.length) e)[k]? = some c := ⟨_, List.getElem?_eq_getElem (by rw [resF_len]; exact (List.getElem?_eq_some_iff.1 hk).1)⟩
  refine ⟨e, he, k, c, hk, hcc, ?_, ?_⟩
  · exact ((seq_level (n := xs.length) (lvL_len xs base _) (clL_len xs base _) rfl (iso_level xs base) he) i hie).2.symm
  · refine setsF_at ?_ (by rw [putAll_fst]; exact hone) (by rw [lvL_len]; exact hi)
    refine List.mem_flatMap.2 ⟨e, he, ?_⟩
    unfold putE
    refine List.mem_of_getElem? (i := k) ?_
    rw [List.getElem?_zip_eq_some]
    exact ⟨hk, by rw [List.getElem?_map, hcc]; rfl⟩
/-- All levels are from the paragraph's to the greatest one. -/
theorem neuL_in {codes xs : List Int} {base : Int} (hb : 0 ≤ base ∧ base ≤ 1) : ∀ v ∈ neuL codes xs base, base ≤ v ∧ v ≤ 126 := by
  refine fillS_in ⟨by omega, by omega⟩ (fun i c o h1 h2 h3 => ?_)
  have hi := (List.getElem?_eq_some_iff.1 h1).1
  have hx : xs.getD i 0 = c := by rw [List.getD_eq_getElem?_getD, h1]; rfl
  obtain ⟨e, he, k, c', _, _, hl, hp⟩ := put_at (codes := codes) (base := base) hi (by rw [hx]; exact h3)
  rw [h2] at hp
  have := Option.some.inj hp
  rw [this]
  have hlv : (lvL xs base xs.length).getD i 0 = (exA xs base i).1 := by rw [List.getD_eq_getElem?_getD, lvL_get hi]; rfl
  rw [hlv] at hl
  have h5 := ex_in (xs := xs) hb i
  have h6 := imp_in (c := c') (level := e.lev) (by omega) (by omega)
  omega
/-- Without what embeds, overrides or isolates a strong class has the level that its side says. -/
theorem neuL_strong {codes xs : List Int} {base : Int} (hb : 0 ≤ base ∧ base ≤ 1) (hp : ∀ c ∈ xs, leftC c = false ∧ opB c = false) {i : Nat} {c : Int} (hc : xs[i]? = some c) (hs : c = 0 ∨ c = 1 ∨ c = 2) : (neuL codes xs base)[i]? = some (if c = 0 then 2 * base else 1) := by
  have hi := (List.getElem?_eq_some_iff.1 hc).1
  have hx : xs.getD i 0 = c := by rw [List.getD_eq_getElem?_getD, hc]; rfl
  have hl := (hp c (List.mem_of_getElem? hc)).1
  obtain ⟨hcl, hlv⟩ := plain_all hb hp
  obtain ⟨e, he, k, c', hk, hr, hlev, hput⟩ := put_at (codes := codes) (base := base) hi (by rw [hx]; exact hl)
  have hlb : e.lev = base := by
    rw [hlev]
    have hmem : (lvL xs base xs.length).getD i 0 ∈ lvL xs base xs.length := by
      rw [List.getD_eq_getElem?_getD, List.getElem?_eq_getElem (by rw [lvL_len]; exact hi)]
      exact List.getElem_mem _
    exact hlv _ hmem
  have hst := resF_strong (codes := codes) (cl := clL xs base xs.length) hk (by rw [hcl, hx]; exact hs)
  rw [hr, hcl, hx] at hst
  have hv := Option.some.inj hst
  have hf := fillS_at (p := base) hc hput hl
  unfold neuL
  rw [hf, hv, hlb]
  have hb2 : base = 0 ∨ base = 1 := by omega
  split
  · rw [imp_left hb2]
  · rw [imp_right hb2]
end Go.Proofs.YtdgomaoikeffhaaGreat
/- All paragraphs of a text, one behind the other: their levels; those of two texts, where the first one ends a paragraph. No function of the program. -/
namespace Go.Proofs.YtdgomaoikeffhaaGreat
open Go.RowKit
/-- The levels of one paragraph. -/
def levP (d : Int) (part : List Int) : List Int := neuL part (part.map classF) (levelF (part.map classF) d)
theorem levP_len (d : Int) (part : List Int) : (levP d part).length = part.length := by unfold levP; rw [neuL_len, List.length_map]
/-- The levels of all paragraphs; the paragraphs' own. -/
def resL (xs : List Int) (d : Int) : List Int := (parL xs).flatMap fun s => levP d (subL xs s)
def basL (xs : List Int) (d : Int) : List Int := (parL xs).map fun s => levelF ((subL xs s).map classF) d
/-- Levels of the first spans. -/
def resU (xs : List Int) (d : Int) (ps : List Sp) : List Int := ps.flatMap fun s => levP d (subL xs s)
theorem resU_snoc (xs : List Int) (d : Int) (ps : List Sp) (s : Sp) : resU xs d (ps ++ [s]) = resU xs d ps ++ levP d (subL xs s) := by simp [resU]
/-- A span further on. -/
def shS (n : Nat) (s : Sp) : Sp := (s.1 + n, s.2 + n)
theorem end_left {f b : List Int} {k : Nat} (h : k + 1 < f.length) : endB (f ++ b) k = endB f k := by
  unfold endB
  rw [List.getElem?_append_left (by omega), List.getElem?_append_left h]
theorem end_right (f b : List Int) (k : Nat) : endB (f ++ b) (f.length + k) = endB b k := by
  unfold endB
  rw [List.getElem?_append_right (by omega), List.getElem?_append_right (by omega), show f.length + k - f.length = k by omega, show f.length + k + 1 - f.length = k + 1 by omega]
theorem par_left {a b : List Int} {z : Int} (hz : classF z = 10) (h13 : z ≠ 13) : ∀ k, k ≤ (a ++ [z]).length → parA ((a ++ [z]) ++ b) k = parA (a ++ [z]) k
  | 0, _ => rfl
  | k + 1, hk => by
    have hl : (a ++ [z]).length = a.length + 1 := by simp
    rw [parA, parA, par_left hz h13 k (by omega)]
    by_cases e : k = a.length
    · subst e
      have hend : endB ((a ++ [z]) ++ b) a.length = true := by
        have h1 : ((a ++ [z]) ++ b)[a.length]? = some z := by
          rw [List.getElem?_append_left (by omega), List.getElem?_append_right (Nat.le_refl _), Nat.sub_self]
          rfl
        unfold endB
        rw [h1]
        simp [hz, h13]
      rw [if_pos (.inr hend), if_pos (.inl hl.symm)]
    · have h1 : k + 1 < (a ++ [z]).length := by omega
      rw [end_left h1]
      have h2 : ¬ k + 1 = ((a ++ [z]) ++ b).length := by rw [List.length_append]; omega
      have h3 : ¬ k + 1 = (a ++ [z]).length := by omega
      simp only [h2, h3, false_or]
theorem par_right {f b : List Int} (hf : (parA (f ++ b) f.length).2 = f.length) (hp : (parA (f ++ b) f.length).1 = parL f) : ∀ k, k ≤ b.length → parA (f ++ b) (f.length + k) = (parL f ++ (parA b k).1.map (shS f.length), (parA b k).2 + f.length)
  | 0, _ => by
    rw [Nat.add_zero]
    have e : parA b 0 = ([], 0) := rfl
    rw [e]
    simp only [List.map_nil, List.append_nil]
    rw [← hp]
    have : parA (f ++ b) f.length = ((parA (f ++ b) f.length).1, (parA (f ++ b) f.length).2) := rfl
    rw [this, hf]
    simp
  | k + 1, hk => by
    rw [← Nat.add_assoc, parA, par_right hf hp k (by omega), parA, end_right]
    by_cases h : k + 1 = b.length ∨ endB b k = true
    · rw [if_pos h, if_pos (h.imp (fun h => by rw [List.length_append]; omega) id)]
      simp only [List.map_append, List.map_cons, List.map_nil, List.append_assoc]
      refine Prod.ext ?_ ?_
      · simp only [shS]
        congr 3
        refine Prod.ext rfl ?_
        simp only
        omega
      · simp only
        omega
    · rw [if_neg h, if_neg (fun h' => h (h'.imp (fun h => by rw [List.length_append] at h; omega) id))]
/-- A paragraph ends: what stands behind it are paragraphs by themselves. -/
theorem parL_app {a b : List Int} {z : Int} (hz : classF z = 10) (h13 : z ≠ 13) : parL ((a ++ [z]) ++ b) = parL (a ++ [z]) ++ (parL b).map (shS (a ++ [z]).length) := by
  have h := par_left (b := b) hz h13 (a ++ [z]).length (Nat.le_refl _)
  have he : (parA (a ++ [z]) (a ++ [z]).length).2 = ((a ++ [z]).length : Int) := by
    have hl : (a ++ [z]).length = a.length + 1 := by simp
    rw [hl, parA, if_pos (.inl hl.symm)]
    simp
  have := par_right (f := a ++ [z]) (b := b) (by rw [h]; exact he) (by rw [h]; rfl) b.length (Nat.le_refl _)
  unfold parL
  rw [List.length_append, this]
  rfl
theorem sub_left {f b : List Int} {s : Sp} (h : 0 ≤ s.1 ∧ s.1 < s.2 ∧ s.2 ≤ f.length) : subL (f ++ b) s = subL f s := by
  unfold subL
  rw [List.take_append_of_le_length (by omega)]
theorem sub_right {f b : List Int} {s : Sp} (h : 0 ≤ s.1 ∧ s.1 < s.2) : subL (f ++ b) (shS f.length s) = subL b s := by
  unfold subL shS
  simp only
  apply List.ext_getElem?
  intro j
  rw [List.getElem?_drop, List.getElem?_drop]
  by_cases hj : s.1.toNat + j < s.2.toNat
  · rw [List.getElem?_take_of_lt (by omega), List.getElem?_take_of_lt hj, List.getElem?_append_right (by omega)]
    congr 1
    omega
  · rw [List.getElem?_eq_none (by rw [List.length_take]; omega), List.getElem?_eq_none (by rw [List.length_take]; omega)]
/-- The levels of two texts, the first of which ends a paragraph, are theirs. -/
theorem resL_app {a b : List Int} {z d : Int} (hz : classF z = 10) (h13 : z ≠ 13) : resL ((a ++ [z]) ++ b) d = resL (a ++ [z]) d ++ resL b d := by
  unfold resL
  rw [parL_app hz h13, List.flatMap_append, List.flatMap_map]
  congr 1
  · have : ∀ s ∈ parL (a ++ [z]), levP d (subL ((a ++ [z]) ++ b) s) = levP d (subL (a ++ [z]) s) := fun s hs => by rw [sub_left (parL_in _ s hs)]
    simp only [List.flatMap_def]
    rw [List.map_congr_left this]
  · have : ∀ s ∈ parL b, levP d (subL ((a ++ [z]) ++ b) (shS (a ++ [z]).length s)) = levP d (subL b s) := fun s hs => by
      have := parL_in b s hs
      rw [sub_right ⟨this.1, this.2.1⟩]
    simp only [List.flatMap_def]
    rw [List.map_congr_left this]
theorem resU_len {xs : List Int} {d : Int} : ∀ {ps : List Sp} {e n : Int}, partsFrom e ps n = true → 0 ≤ e → n ≤ xs.length → ((resU xs d ps).length : Int) = n - e
  | [], e, n, h, _, _ => by
    simp only [partsFrom, beq_iff_eq] at h
    simp [resU, h]
  | s :: ps, e, n, h, he, hn => by
    have hin := parts_in h he s (by simp)
    simp only [partsFrom, Bool.and_eq_true, beq_iff_eq] at h
    have ih := resU_len (d := d) h.2 (by omega) hn
    have hl : (resU xs d (s :: ps)).length = (levP d (subL xs s)).length + (resU xs d ps).length := by simp [resU]
    rw [hl, levP_len]
    have := sub_len (xs := xs) (s := s) (by omega)
    omega
theorem resL_len (xs : List Int) (d : Int) : (resL xs d).length = xs.length := by
  have h := resU_len (xs := xs) (d := d) (parL_parts xs) (by omega) (by omega)
  have e : resU xs d (parL xs) = resL xs d := rfl
  rw [e] at h
  omega
end Go.Proofs.YtdgomaoikeffhaaGreat
