/- Texts of one claim, one behind the other. -/
import Derived.Test.YtpddjojgcenlkaaGreatMgNu1
import Derived.Test.YtpddjojgcenlkaaGreatMgNu2
/- What isolates and what ends it have one level: the stack at the one is the stack at the other. No function of the program. -/
namespace Go.Proofs.YtpddjojgcenlkaaGreat
open Go.RowKit

/-- Whether a stack is inside of what was isolated at another. -/
def Above (T S : Stk) : Prop :=
  (∃ (P : List Ent) (e : Ent), T.R = P ++ e :: S.R ∧ (∀ x ∈ P, x.is = false) ∧ e.is = true ∧ T.bot = S.bot ∧ T.a = 0 ∧ T.c = S.c + 1 ∧ S.a = 0 ∧ S.b = 0) ∨ T = { S with a := S.a + 1 }
section
variable {T S : Stk} {r : Bool} {o : Int}
theorem above_iso : Above (isoS T r).2 T := by
  cases h : roomS T r with
  | true =>
    rw [iso_room h]
    have h3 := room_iff.1 h
    exact .inl ⟨[], _, rfl, by simp, rfl, rfl, h3.2.1, rfl, h3.2.1, h3.2.2⟩
  | false => rw [iso_no h]; exact .inr rfl
theorem above_end (h : Above T S) : endIS T = S := by
  rcases h with ⟨P, e, hR, hP, he, hb, ha, hc, h1, h2⟩ | rfl
  · have hd : (T.R.dropWhile fun e => !e.is).tail = S.R := by
      rw [hR]
      have : ∀ P : List Ent, (∀ x ∈ P, x.is = false) → (P ++ e :: S.R).dropWhile (fun e => !e.is) = e :: S.R := fun P => by
        induction P with
        | nil => intro _; rw [List.nil_append, List.dropWhile_cons, if_neg (by rw [he]; simp)]
        | cons x P ih =>
          intro h
          rw [List.cons_append, List.dropWhile_cons, if_pos (by rw [h x (by simp)]; rfl)]
          exact ih fun y hy => h y (by simp [hy])
      rw [this P hP]
      rfl
    unfold endIS
    rw [if_neg (by omega), if_pos (by omega), hd, hb, ha, hc]
    cases S
    simp_all
  · unfold endIS
    rw [if_pos (by simp)]
    simp
theorem above_emb (h : Above T S) : Above (embS T r o).2 S := by
  rcases h with ⟨P, e, hR, hP, he, hb, ha, hc, h1, h2⟩ | rfl
  · cases hr : roomS T r with
    | true =>
      rw [emb_room hr]
      exact .inl ⟨⟨nextS T r, o, false⟩ :: P, e, by simp [hR], by simpa using hP, he, hb, ha, hc, h1, h2⟩
    | false =>
      rw [emb_no hr, if_pos ha]
      exact .inl ⟨P, e, hR, hP, he, hb, ha, hc, h1, h2⟩
  · have hr : roomS { S with a := S.a + 1 } r = false := by unfold roomS; simp
    rw [emb_no hr, if_neg (by simp)]
    exact .inr rfl
theorem above_endE (h : Above T S) : Above (endES T) S := by
  rcases h with ⟨P, e, hR, hP, he, hb, ha, hc, h1, h2⟩ | rfl
  · unfold endES
    rw [if_neg (by omega)]
    split
    · exact .inl ⟨P, e, hR, hP, he, hb, ha, hc, h1, h2⟩
    · cases P with
      | nil =>
        have ht : T.top.is = true := by unfold Stk.top; rw [hR]; exact he
        rw [if_pos ht]
        exact .inl ⟨[], e, hR, hP, he, hb, ha, hc, h1, h2⟩
      | cons x P =>
        have ht : ¬ T.top.is = true := by unfold Stk.top; rw [hR]; simp [hP x (by simp)]
        rw [if_neg ht]
        unfold popS
        rw [if_neg (by rw [hR]; simp)]
        exact .inl ⟨P, e, by simp [hR], fun y hy => hP y (by simp [hy]), he, hb, ha, hc, h1, h2⟩
  · unfold endES
    rw [if_pos (by simp)]
    exact .inr rfl
theorem above_step {xs : List Int} {i : Nat} {c : Int} (h : Above T S) (hc : opB c = false) : Above (stepB xs i c T) S := by
  unfold stepB
  rw [hc]
  repeat' split
  all_goals first
    | exact above_emb h
    | exact above_endE h
    | exact h
    | (rename_i k; cases k)
end
/-- One inside the other. -/
def Nest : Stk → List Stk → Prop
  | _, [] => True
  | T, S :: F => Above T S ∧ Nest S F
theorem nest_go {xs : List Int} {base : Int} : ∀ (l : List Int) (p d j : Nat) (F : List Stk) (S : Stk), xs.drop p = l → F.length = d + 1 → F.getLast? = some S → Nest (stE xs base p) F → clo l d = some j → endIS (stE xs base (p + j)) = S
  | [], _, _, _, _, _, _, _, _, _, h => by simp [clo] at h
  | c :: l, p, d, j, F, S, hl, hF, hS, hN, h => by
    have hc : xs.getD p 0 = c := by
      have : xs[p]? = some c := by have := congrArg (fun t => t[0]?) hl; simpa using this
      rw [List.getD_eq_getElem?_getD, this]; rfl
    have hl2 : xs.drop (p + 1) = l := by rw [← List.drop_drop, hl]; rfl
    rw [clo] at h
    by_cases ho : opB c = true
    · rw [if_pos ho, Option.map_eq_some_iff] at h
      obtain ⟨j', hj, rfl⟩ := h
      have ho' := (opB_iff c).1 ho
      have hs : stE xs base (p + 1) = (isoS (stE xs base p) (rightC xs p)).2 := by
        rw [stE, hc, stepA, if_neg (by omega), stepB, if_neg (by omega), if_neg (by omega), if_neg (by omega), if_neg (by omega), if_neg (by omega), if_pos ho]
      have := nest_go l (p + 1) (d + 1) j' (stE xs base p :: F) S hl2 (by simp [hF]) (by
        cases F with
        | nil => simp at hF
        | cons x F => rw [List.getLast?_cons_cons]; exact hS) ⟨by rw [hs]; exact above_iso, hN⟩ hj
      rwa [show p + 1 + j' = p + (j' + 1) by omega] at this
    · rw [if_neg ho] at h
      have ho' : opB c = false := by simpa using ho
      by_cases hp : c = 22
      · rw [if_pos hp] at h
        match F, hF, hS, hN with
        | S0 :: F, hF, hS, ⟨hA, hN⟩ =>
          have he := above_end hA
          by_cases hd : d = 0
          · rw [if_pos hd] at h
            obtain rfl := Option.some.inj h
            have : F = [] := List.eq_nil_of_length_eq_zero (by simp at hF; omega)
            subst this
            obtain rfl : S0 = S := by simpa using hS
            exact he
          · rw [if_neg hd, Option.map_eq_some_iff] at h
            obtain ⟨j', hj, rfl⟩ := h
            have hs : stE xs base (p + 1) = S0 := by
              rw [stE, hc, stepA, if_pos hp, he, stepB, if_neg (by omega), if_neg (by omega), if_neg (by omega), if_neg (by omega), if_neg (by omega), if_neg (by rw [ho']; simp)]
            have := nest_go l (p + 1) (d - 1) j' F S hl2 (by simp at hF; omega) (by
              cases F with
              | nil => simp at hF; omega
              | cons x F => rwa [List.getLast?_cons_cons] at hS) (by rw [hs]; exact hN) hj
            rwa [show p + 1 + j' = p + (j' + 1) by omega] at this
      · rw [if_neg hp, Option.map_eq_some_iff] at h
        obtain ⟨j', hj, rfl⟩ := h
        have hs : stE xs base (p + 1) = stepB xs p c (stE xs base p) := by rw [stE, hc, stepA, if_neg hp]
        have hN2 : Nest (stE xs base (p + 1)) F := by
          match F, hN with
          | [], _ => trivial
          | S0 :: F, ⟨hA, hN⟩ => exact ⟨by rw [hs]; exact above_step hA ho', hN⟩
        have := nest_go l (p + 1) d j' F S hl2 hF hS hN2 hj
        rwa [show p + 1 + j' = p + (j' + 1) by omega] at this
/-- What isolates and what ends it have one level. -/
theorem pair_level {xs : List Int} {base : Int} {i j : Nat} {c : Int} (hc : xs[i]? = some c) (ho : opB c = true) (h : clo (xs.drop (i + 1)) 0 = some j) (hp : xs[i + 1 + j]? = some 22) : (exA xs base (i + 1 + j)).1 = (exA xs base i).1 := by
  have ho' := (opB_iff c).1 ho
  have hg : xs.getD i 0 = c := by rw [List.getD_eq_getElem?_getD, hc]; rfl
  have hg2 : xs.getD (i + 1 + j) 0 = 22 := by rw [List.getD_eq_getElem?_getD, hp]; rfl
  have hs : stE xs base (i + 1) = (isoS (stE xs base i) (rightC xs i)).2 := by
    rw [stE, hg, stepA, if_neg (by omega), stepB, if_neg (by omega), if_neg (by omega), if_neg (by omega), if_neg (by omega), if_neg (by omega), if_pos ho]
  have hn := nest_go (xs.drop (i + 1)) (i + 1) 0 j [stE xs base i] (stE xs base i) rfl rfl rfl ⟨by rw [hs]; exact above_iso, trivial⟩ h
  have e : ∀ (s : Stk) (c : Int), c ≠ 10 → (outX base s c).1 = s.top.lv := fun s c h => by
    unfold outX
    rw [if_neg h]
    split <;> rfl
  unfold exA
  rw [hg, hg2, stepA, if_pos rfl, hn, stepA, if_neg (by omega), e _ _ (by omega), e _ _ (by omega)]
end Go.Proofs.YtpddjojgcenlkaaGreat
/- Runs and sequences as mathematics: each place that is not left out is in one of them, once; a sequence has one level, where what isolates and what ends it have. No function of the program. -/
namespace Go.Proofs.YtpddjojgcenlkaaGreat
open Go.RowKit

/-- A place more: the runs, the last one first, and the last place. -/
def rnS (lv cl : List Int) (s : List (List Nat) × Option Nat) (k : Nat) : List (List Nat) × Option Nat :=
  if leftC (cl.getD k 0) = true then s else match s with
  | (r :: rs, some la) => if lv.getD la 0 = lv.getD k 0 then ((r ++ [k]) :: rs, some k) else ([k] :: r :: rs, some k)
  | (o, _) => ([k] :: o, some k)
def rnA (lv cl : List Int) : Nat → List (List Nat) × Option Nat
  | 0 => ([], none)
  | k + 1 => rnS lv cl (rnA lv cl k) k
def runsF (lv cl : List Int) : List (List Nat) := (rnA lv cl lv.length).1.reverse
/-- What holds of the runs so far. -/
def RnOk (lv cl : List Int) (s : List (List Nat) × Option Nat) (k : Nat) : Prop :=
  (s.1.reverse.flatten = (List.range k).filter fun i => !leftC (cl.getD i 0)) ∧ (∀ r ∈ s.1, r ≠ [] ∧ ∀ x ∈ r, ∀ y ∈ r, lv.getD x 0 = lv.getD y 0) ∧ (∀ r rs, s.1 = r :: rs → s.2 = r.getLast?) ∧ (s.1 = [] → s.2 = none)
theorem rn_ok (lv cl : List Int) : ∀ k, RnOk lv cl (rnA lv cl k) k
  | 0 => ⟨rfl, by simp [rnA], by simp [rnA], fun _ => rfl⟩
  | k + 1 => by
    have h := rn_ok lv cl k
    rw [rnA]
    generalize rnA lv cl k = s at h
    obtain ⟨h1, h2, h3, h4⟩ := h
    unfold rnS
    by_cases hl : leftC (cl.getD k 0) = true
    · rw [if_pos hl]
      refine ⟨?_, h2, h3, h4⟩
      rw [h1, List.range_succ, List.filter_append]
      simp only [List.filter_cons, List.filter_nil, hl, Bool.not_true, Bool.false_eq_true, if_false, List.append_nil]
    · rw [if_neg hl]
      have hr : (List.range (k + 1)).filter (fun i => !leftC (cl.getD i 0)) = (List.range k).filter (fun i => !leftC (cl.getD i 0)) ++ [k] := by
        have hl' : leftC (cl.getD k 0) = false := by simpa using hl
        rw [List.range_succ, List.filter_append]
        simp only [List.filter_cons, List.filter_nil, hl', Bool.not_false, if_true]
      have hnew : ∀ o : List (List Nat), o = s.1 → RnOk lv cl ([k] :: o, some k) (k + 1) := fun o ho => by
        subst ho
        refine ⟨?_, ?_, ?_, by simp⟩
        · rw [hr, ← h1]; simp
        · intro r hm
          rcases List.mem_cons.1 hm with rfl | hm
          · refine ⟨by simp, ?_⟩
            intro x hx y hy
            rw [List.mem_singleton] at hx hy
            rw [hx, hy]
          · exact h2 r hm
        · intro r rs e
          simp only [List.cons.injEq] at e
          rw [← e.1]; rfl
      obtain ⟨o, la⟩ := s
      match o, la with
      | [], la => exact hnew [] rfl
      | r :: rs, none => exact hnew _ rfl
      | r :: rs, some la =>
        show RnOk lv cl (if lv.getD la 0 = lv.getD k 0 then ((r ++ [k]) :: rs, some k) else ([k] :: r :: rs, some k)) (k + 1)
        split
        · rename_i he
          have hla := h3 r rs rfl
          have hm : la ∈ r := List.mem_of_getLast? hla.symm
          refine ⟨?_, ?_, ?_, by simp⟩
          · rw [hr, ← h1]; simp
          · intro r' hm'
            rcases List.mem_cons.1 hm' with rfl | hm'
            · refine ⟨by simp, ?_⟩
              have hk : ∀ x ∈ r ++ [k], lv.getD x 0 = lv.getD la 0 := fun x hx => by
                rcases List.mem_append.1 hx with hx | hx
                · exact (h2 r (by simp)).2 x hx la hm
                · rw [List.mem_singleton] at hx; rw [hx, he]
              intro x hx y hy
              rw [hk x hx, hk y hy]
            · exact h2 r' (by simp [hm'])
          · intro r' rs' e
            simp only [List.cons.injEq] at e
            rw [← e.1]; simp
        · exact hnew _ rfl
theorem runs_flat (lv cl : List Int) : (runsF lv cl).flatten = (List.range lv.length).filter fun i => !leftC (cl.getD i 0) := (rn_ok lv cl lv.length).1
theorem runs_one {lv cl : List Int} {r : List Nat} (h : r ∈ runsF lv cl) : r ≠ [] ∧ ∀ x ∈ r, ∀ y ∈ r, lv.getD x 0 = lv.getD y 0 := (rn_ok lv cl lv.length).2.1 r (List.mem_reverse.1 h)

/-- Which run begins with a place. -/
def begF (R : List (List Nat)) (p : Nat) : Option Nat := R.findIdx? fun r => decide (r.head? = some p)
/-- The run that goes on behind one. -/
def nxF (R : List (List Nat)) (bf mt : List Int) (k : Nat) : Option Nat := match (R.getD k []).getLast? with
  | none => none
  | some la => if opB (bf.getD la 0) = true ∧ mt.getD la 0 < bf.length then begF R (mt.getD la 0).toNat else none
/-- The runs used, with those that go on from one. -/
def chF (R : List (List Nat)) (bf mt : List Int) : Nat → Option Nat → List Nat → List Nat
  | 0, _, u => u
  | _ + 1, none, u => u
  | f + 1, some k, u => if k ∈ u then u else chF R bf mt f (nxF R bf mt k) (u ++ [k])
/-- The sequences as runs, and the runs used. -/
def sqF (R : List (List Nat)) (bf mt : List Int) : Nat → List (List Nat) × List Nat
  | 0 => ([], [])
  | i + 1 => if i ∈ (sqF R bf mt i).2 then sqF R bf mt i else
    ((sqF R bf mt i).1 ++ [(chF R bf mt (R.length + 1) (some i) (sqF R bf mt i).2).drop (sqF R bf mt i).2.length], chF R bf mt (R.length + 1) (some i) (sqF R bf mt i).2)
section
variable {R : List (List Nat)} {bf mt : List Int}
theorem beg_lt {p k : Nat} (h : begF R p = some k) : k < R.length ∧ (R.getD k []).head? = some p := by
  unfold begF at h
  obtain ⟨hk, hp, _⟩ := List.findIdx?_eq_some_iff_getElem.1 h
  refine ⟨hk, ?_⟩
  rw [List.getD_eq_getElem?_getD, List.getElem?_eq_getElem hk, Option.getD_some]
  exact of_decide_eq_true hp
theorem nx_lt {k j : Nat} (h : nxF R bf mt k = some j) : j < R.length := by
  unfold nxF at h
  split at h
  · cases h
  · split at h
    · exact (beg_lt h).1
    · cases h
theorem ch_ok : ∀ (f : Nat) (k : Option Nat) (u : List Nat), (∀ x ∈ u, x < R.length) → u.Nodup → (∀ j, k = some j → j < R.length) → u <+: chF R bf mt f k u ∧ (∀ x ∈ chF R bf mt f k u, x < R.length) ∧ (chF R bf mt f k u).Nodup
  | 0, _, u, h1, h2, _ => ⟨List.prefix_refl _, h1, h2⟩
  | _ + 1, none, u, h1, h2, _ => ⟨List.prefix_refl _, h1, h2⟩
  | f + 1, some k, u, h1, h2, h3 => by
    rw [chF]
    split
    · exact ⟨List.prefix_refl _, h1, h2⟩
    · rename_i hk
      have := ch_ok f (nxF R bf mt k) (u ++ [k]) (fun x hx => by
        rcases List.mem_append.1 hx with hx | hx
        · exact h1 x hx
        · rw [List.mem_singleton] at hx; rw [hx]; exact h3 k rfl) (by
        rw [List.nodup_append]
        refine ⟨h2, by simp, ?_⟩
        intro x hx y hy
        rw [List.mem_singleton] at hy
        subst hy
        exact fun e => hk (e ▸ hx)) (fun j hj => nx_lt hj)
      exact ⟨(List.prefix_append u [k]).trans this.1, this.2⟩
theorem ch_has {f k : Nat} {u : List Nat} (h1 : ∀ x ∈ u, x < R.length) (h2 : u.Nodup) (hk : k < R.length) : k ∈ chF R bf mt (f + 1) (some k) u := by
  rw [chF]
  split
  · assumption
  · rename_i hn
    have := (ch_ok (bf := bf) (mt := mt) f (nxF R bf mt k) (u ++ [k]) (fun x hx => by
        rcases List.mem_append.1 hx with hx | hx
        · exact h1 x hx
        · rw [List.mem_singleton] at hx; rw [hx]; exact hk) (by
        rw [List.nodup_append]
        refine ⟨h2, by simp, ?_⟩
        intro x hx y hy
        rw [List.mem_singleton] at hy
        subst hy
        exact fun e => hn (e ▸ hx)) (fun j hj => nx_lt hj)).1
    exact this.subset (by simp)
theorem sq_ok : ∀ i, i ≤ R.length → (∀ x ∈ (sqF R bf mt i).2, x < R.length) ∧ (sqF R bf mt i).2.Nodup ∧ (∀ j, j < i → j ∈ (sqF R bf mt i).2) ∧ (sqF R bf mt i).1.flatten = (sqF R bf mt i).2
  | 0, _ => ⟨by simp [sqF], by simp [sqF], by omega, rfl⟩
  | i + 1, hi => by
    obtain ⟨h1, h2, h3, h4⟩ := sq_ok i (by omega)
    rw [sqF]
    split
    · rename_i hm
      exact ⟨h1, h2, fun j hj => by
        by_cases e : j = i
        · rw [e]; exact hm
        · exact h3 j (by omega), h4⟩
    · have hc := ch_ok (R := R) (bf := bf) (mt := mt) (R.length + 1) (some i) _ h1 h2 (fun j hj => by obtain rfl := Option.some.inj hj; omega)
      refine ⟨hc.2.1, hc.2.2, fun j hj => ?_, ?_⟩
      · by_cases e : j = i
        · rw [e]; exact ch_has h1 h2 (by omega)
        · exact hc.1.subset (h3 j (by omega))
      · rw [List.flatten_append, h4, List.flatten_cons, List.flatten_nil, List.append_nil]
        obtain ⟨t, ht⟩ := hc.1
        show (sqF R bf mt i).2 ++ (chF R bf mt (R.length + 1) (some i) (sqF R bf mt i).2).drop (sqF R bf mt i).2.length = chF R bf mt (R.length + 1) (some i) (sqF R bf mt i).2
        rw [← ht, List.drop_left]
/-- Every run is used, once. -/
theorem sq_perm : (sqF R bf mt R.length).2.Perm (List.range R.length) := by
  obtain ⟨h1, h2, h3, _⟩ := sq_ok (R := R) (bf := bf) (mt := mt) R.length (Nat.le_refl _)
  refine (List.perm_ext_iff_of_nodup h2 List.nodup_range).2 fun a => ?_
  rw [List.mem_range]
  exact ⟨h1 a, h3 a⟩
/-- The places of the sequences, one behind the other. -/
def placesF (R : List (List Nat)) (ks : List Nat) : List Nat := ks.flatMap fun k => R.getD k []
theorem sq_places : (((sqF R bf mt R.length).1.map (placesF R)).flatten).Perm R.flatten := by
  have e : ((sqF R bf mt R.length).1.map (placesF R)).flatten = placesF R (sqF R bf mt R.length).2 := by
    rw [← (sq_ok (R := R) (bf := bf) (mt := mt) R.length (Nat.le_refl _)).2.2.2]
    have : ∀ L : List (List Nat), (L.map (placesF R)).flatten = placesF R L.flatten := fun L => by
      induction L with
      | nil => rfl
      | cons l L ih =>
        rw [List.map_cons, List.flatten_cons, ih, List.flatten_cons]
        unfold placesF
        rw [List.flatMap_append]
    exact this _
  rw [e]
  have e2 : placesF R (List.range R.length) = R.flatten := by
    unfold placesF
    rw [List.flatMap_def]
    congr 1
    refine List.ext_getElem? fun i => ?_
    rw [List.getElem?_map]
    by_cases hi : i < R.length
    · rw [List.getElem?_range hi, Option.map_some, List.getD_eq_getElem?_getD, List.getElem?_eq_getElem hi, Option.getD_some]
    · rw [List.getElem?_eq_none (by simpa using hi), List.getElem?_eq_none (by omega)]; rfl
  rw [← e2]
  exact sq_perm.flatMap_right _
/-- All runs of a sequence have one level, where what isolates and what ends it have. -/
theorem ch_level {lv : List Int} (hR : ∀ r ∈ R, r ≠ [] ∧ ∀ x ∈ r, ∀ y ∈ r, lv.getD x 0 = lv.getD y 0) (hm : ∀ la : Nat, opB (bf.getD la 0) = true → mt.getD la 0 < bf.length → lv.getD (mt.getD la 0).toNat 0 = lv.getD la 0) (n : Int) : ∀ (f : Nat) (k : Option Nat) (u : List Nat), (∀ j, k = some j → j < R.length ∧ ∀ x ∈ R.getD j [], lv.getD x 0 = n) → ∀ j ∈ chF R bf mt f k u, j ∈ u ∨ ∀ x ∈ R.getD j [], lv.getD x 0 = n
  | 0, _, u, _, j, hj => by rw [chF] at hj; exact .inl hj
  | _ + 1, none, u, _, j, hj => by rw [chF] at hj; exact .inl hj
  | f + 1, some k, u, hk, j, hj => by
    rw [chF] at hj
    split at hj
    · exact .inl hj
    · rename_i hn
      have hk' := hk k rfl
      have hstep : ∀ j', nxF R bf mt k = some j' → j' < R.length ∧ ∀ x ∈ R.getD j' [], lv.getD x 0 = n := fun j' h => by
        unfold nxF at h
        split at h
        · cases h
        · rename_i la hla
          split at h
          · rename_i hc
            obtain ⟨hlt, hh⟩ := beg_lt h
            refine ⟨hlt, fun x hx => ?_⟩
            have hmem : R.getD j' [] ∈ R := by rw [List.getD_eq_getElem?_getD, List.getElem?_eq_getElem hlt, Option.getD_some]; exact List.getElem_mem hlt
            have h1 := (hR _ hmem).2 x hx _ (List.mem_of_head? hh)
            rw [h1, hm la hc.1 hc.2]
            exact hk'.2 la (List.mem_of_getLast? hla)
          · cases h
      rcases ch_level hR hm n f (nxF R bf mt k) (u ++ [k]) hstep j hj with h | h
      · rcases List.mem_append.1 h with h | h
        · exact .inl h
        · rw [List.mem_singleton] at h
          subst h
          exact .inr hk'.2
      · exact .inr h
/-- So all places of a sequence have the level of the first one. -/
theorem sq_level {lv : List Int} (hR : ∀ r ∈ R, r ≠ [] ∧ ∀ x ∈ r, ∀ y ∈ r, lv.getD x 0 = lv.getD y 0) (hm : ∀ la : Nat, opB (bf.getD la 0) = true → mt.getD la 0 < bf.length → lv.getD (mt.getD la 0).toNat 0 = lv.getD la 0) : ∀ i, i ≤ R.length → ∀ ks ∈ (sqF R bf mt i).1, placesF R ks ≠ [] ∧ ∀ x ∈ placesF R ks, ∀ y ∈ placesF R ks, lv.getD x 0 = lv.getD y 0
  | 0, _, ks, h => by simp [sqF] at h
  | i + 1, hi, ks, h => by
    obtain ⟨h1, h2, _, _⟩ := sq_ok (R := R) (bf := bf) (mt := mt) i (by omega)
    rw [sqF] at h
    split at h
    · exact sq_level hR hm i (by omega) ks h
    · rename_i hn
      rcases List.mem_append.1 h with h | h
      · exact sq_level hR hm i (by omega) ks h
      · rw [List.mem_singleton] at h
        have hc := ch_ok (R := R) (bf := bf) (mt := mt) (R.length + 1) (some i) _ h1 h2 (fun j hj => by obtain rfl := Option.some.inj hj; omega)
        have hmem : R.getD i [] ∈ R := by rw [List.getD_eq_getElem?_getD, List.getElem?_eq_getElem (by omega), Option.getD_some]; exact List.getElem_mem _
        obtain ⟨hne, hsame⟩ := hR _ hmem
        obtain ⟨x0, hx0⟩ := List.exists_mem_of_ne_nil _ hne
        have hl := ch_level hR hm (lv.getD x0 0) (R.length + 1) (some i) (sqF R bf mt i).2 (fun j hj => by
          obtain rfl := Option.some.inj hj
          exact ⟨by omega, fun x hx => hsame x hx x0 hx0⟩)
        have hh := ch_has (R := R) (bf := bf) (mt := mt) (f := R.length) (k := i) h1 h2 (by omega)
        obtain ⟨t, ht⟩ := hc.1
        have hnd := hc.2.2
        rw [← ht, List.drop_left] at h
        rw [← ht] at hl hh hnd
        subst h
        have hall : ∀ k ∈ ks, ∀ x ∈ R.getD k [], lv.getD x 0 = lv.getD x0 0 := fun k hk => by
          rcases hl k (List.mem_append_right _ hk) with h | h
          · exact absurd rfl ((List.nodup_append.1 hnd).2.2 k h k hk)
          · exact h
        have hit : i ∈ ks := by
          rcases List.mem_append.1 hh with h | h
          · exact absurd h hn
          · exact h
        refine ⟨fun e => ?_, fun x hx y hy => ?_⟩
        · have : x0 ∈ placesF R ks := List.mem_flatMap.2 ⟨i, hit, hx0⟩
          rw [e] at this
          cases this
        · obtain ⟨k, hk, hx⟩ := List.mem_flatMap.1 hx
          obtain ⟨k', hk', hy⟩ := List.mem_flatMap.1 hy
          rw [hall k hk x hx, hall k' hk' y hy]
end
end Go.Proofs.YtpddjojgcenlkaaGreat
/- para's isolates, naskhref20's Opens. -/
namespace Go.Proofs.YtpddjojgcenlkaaGreat
open Go.RowKit

theorem opB_cases (c : Int) : (c = 19 ∧ opB c = true) ∨ (c = 20 ∧ opB c = true) ∨ (c = 21 ∧ opB c = true) ∨ (c ≠ 19 ∧ c ≠ 20 ∧ c ≠ 21 ∧ opB c = false) := by
  by_cases h1 : c = 19
  · exact .inl ⟨h1, (opB_iff c).2 (.inl h1)⟩
  by_cases h2 : c = 20
  · exact .inr (.inl ⟨h2, (opB_iff c).2 (.inr (.inl h2))⟩)
  by_cases h3 : c = 21
  · exact .inr (.inr (.inl ⟨h3, (opB_iff c).2 (.inr (.inr h3))⟩))
  refine .inr (.inr (.inr ⟨h1, h2, h3, ?_⟩))
  rw [Bool.eq_false_iff]
  intro h
  rw [opB_iff] at h
  omega
theorem prIso_of (c : Int) (v : Bool) (hv : opB c = v) (w : World) : Calls Tryz.prog 38 #[.int .i64 c] w fun e w' => e = .returned (.bool v) ∧ w = w' := by
  subst hv
  rcases opB_cases c with ⟨rfl, h⟩ | ⟨rfl, h⟩ | ⟨rfl, h⟩ | ⟨h1, h2, h3, h⟩
  iterate 3
    · rw [h]
      clear h
      go_enter Tryz.func38, Tryz.ntmps38
      go_wp2
      go_ret
      exact ⟨rfl, rfl⟩
  · rw [h]
    have g1 : (c == 19) = false := by simp [h1]
    have g2 : (c == 20) = false := by simp [h2]
    have g3 : (c == 21) = false := by simp [h3]
    clear h h1 h2 h3
    go_enter Tryz.func38, Tryz.ntmps38
    go_wp2
    go_ret
    exact ⟨rfl, rfl⟩
theorem rfOpens_of (c : Int) (v : Bool) (hv : opB c = v) (w : World) : Calls Tryz.prog 34 #[.int .i64 c] w fun e w' => e = .returned (.bool v) ∧ w = w' := by
  subst hv
  rcases opB_cases c with ⟨rfl, h⟩ | ⟨rfl, h⟩ | ⟨rfl, h⟩ | ⟨h1, h2, h3, h⟩
  iterate 3
    · rw [h]
      clear h
      go_enter Tryz.func34, Tryz.ntmps34
      go_wp2
      go_ret
      exact ⟨rfl, rfl⟩
  · rw [h]
    have g1 : (c == 19) = false := by simp [h1]
    have g2 : (c == 20) = false := by simp [h2]
    have g3 : (c == 21) = false := by simp [h3]
    clear h h1 h2 h3
    go_enter Tryz.func34, Tryz.ntmps34
    go_wp2
    go_ret
    exact ⟨rfl, rfl⟩
end Go.Proofs.YtpddjojgcenlkaaGreat
/- para's Matches, walked. -/
namespace Go.Proofs.YtpddjojgcenlkaaGreat
open Go.RowKit
theorem pmS_open {xs : List Int} {k : Nat} {c : Int} {m : List Int} {s : List Nat} (h : pmS xs k = (m, s)) (hc : xs[k]? = some c) (ho : opB c = true) : pmS xs (k + 1) = ((m.set k (-1)).set k xs.length, k :: s) := by
  rw [pmS]; simp only [h, hc]; rw [if_pos ho]
theorem pmS_shut {xs : List Int} {k t : Nat} {m : List Int} {r : List Nat} (h : pmS xs k = (m, t :: r)) (hc : xs[k]? = some 22) : pmS xs (k + 1) = (((m.set k (-1)).set k t).set t k, r) := by
  rw [pmS]; simp only [h, hc]; rw [if_neg (by decide)]; rfl
theorem pmS_empty {xs : List Int} {k : Nat} {m : List Int} (h : pmS xs k = (m, [])) (hc : xs[k]? = some 22) : pmS xs (k + 1) = (m.set k (-1), []) := by
  rw [pmS]; simp only [h, hc]; rw [if_neg (by decide)]; rfl
theorem pmS_pass {xs : List Int} {k : Nat} {c : Int} {m : List Int} {s : List Nat} (h : pmS xs k = (m, s)) (hc : xs[k]? = some c) (ho : opB c = false) (h2 : c ≠ 22) : pmS xs (k + 1) = (m.set k (-1), s) := by
  rw [pmS]; simp only [h, hc]; rw [if_neg (by rw [ho]; decide), if_neg h2]
/-- What lies in memory between two rounds: the answers' block, the stack. -/
structure MtAt (w0 w : World) (g n : Nat) (m : List Int) (v : Value) (s : List Nat) : Prop where
  ans : w.ownsRow w0.heap.size 3 1 (.slice (some ⟨g, 0, none⟩) n n) n (m.map (Value.int .i64))
  stk : w.ownsRow w0.heap.size 3 1 v s.length ((stkL s).map (Value.int .i64))
  ne : v.ownBlock ≠ some g
  low : Below w0.heap.size w0 w
section
variable {w0 w w' : World} {g n : Nat} {m : List Int} {v : Value} {s : List Nat}
theorem MtAt.set (h : MtAt w0 w g n m v s) (k : Nat) (x : Int) : MtAt w0 (w.setCell ⟨g, k, none⟩ (.int .i64 x)) g n (m.set k x) v s := by
  have h1 := h.ans.stored k (.int .i64 x)
  refine ⟨by rw [List.map_set]; exact h1.1, own_set_far h.stk h.ne, h.ne, h.low.setCell (p := ⟨g, k, none⟩) (h.ans.lt g rfl).1 _⟩
theorem MtAt.push (h : MtAt w0 w g n m v s) {k : Nat} {v' : Value} (hg : w.grownBy w' v.ownBlock) (hown : w'.ownsRow w0.heap.size 3 1 v' (s.length + 1) ((stkL s).map (Value.int .i64) ++ [.int .i64 (k : Int)])) (hat : v'.ownBlock = v.ownBlock ∨ ∃ b, v'.ownBlock = some b ∧ w.heap.size ≤ b) : MtAt w0 w' g n m v' (k :: s) := by
  refine ⟨h.ans.kept hg (.inr (fun e => h.ne e.symm)), by rw [stkL_push, List.map_append, List.length_cons]; exact hown, ?_, below_app h.low hg h.stk h.low.size⟩
  rcases hat with e | ⟨b, e, hb⟩
  · rw [e]; exact h.ne
  · intro e2
    rw [e] at e2
    have := (h.ans.lt g rfl).2
    have : b = g := by simpa using e2
    omega
theorem MtAt.pop {t : Nat} {r : List Nat} {b c : Nat} (h : MtAt w0 w g n m (.slice (some ⟨b, 0, none⟩) (r.length + 1) c) (t :: r)) : MtAt w0 w g n m (.slice (some ⟨b, 0, none⟩) r.length c) r := by
  have h1 := headM (m := r.length) h.stk (by simp)
  refine ⟨h.ans, ?_, h.ne, h.low⟩
  rw [Nat.mul_one, ← List.map_take, stkL_take] at h1
  exact h1
theorem MtAt.lowr (h : MtAt w0 w g n m v s) (hb : Below w.heap.size w w') : MtAt w0 w' g n m v s := ⟨own_below h.ans hb, own_below h.stk hb, h.ne, h.low.trans (hb.mono h.low.size)⟩
theorem MtAt.cell (h : MtAt w0 w g n m v s) {k : Nat} (hk : k < n) : (∃ u, w.cell? ⟨g, k, none⟩ = some u) ∧ w.frozen? ⟨g, k, none⟩ = false := own_slot h.ans (by omega)
end
set_option maxRecDepth 100000 in
set_option maxHeartbeats 4000000 in
theorem prMatches_any (A : Option Addr) (n c : Nat) (xs : List Int) (w : World) (hr : Rd w 1 A n (xs.map (Value.int .i64))) (hn : n ≤ 100000) :
    Calls Tryz.prog 25 #[.slice A n c] w fun e w' => ∃ v, e = .returned v ∧ w'.ownsRow w.heap.size 3 1 v n ((matF xs).map (Value.int .i64)) ∧ Below w.heap.size w w' := by
  have hlen : xs.length = n := by simpa using hr.len1
  have HL := Lib.hid hlen
  have HR := Lib.hid hr
  clear hlen hr
  go_enter Tryz.func25, Tryz.ntmps25
  go_wp2_with (first
    | (refine wpList_mkFull rfl _ _ _ rfl (base := w.heap.size) (e := 3) (bytes := 8) (z := .int .i64 0) Tryz.underlying22 (by kernel_rfl) rfl (n : Int) (n : Int) n rfl rfl rfl rfl (by omega) (by unfold maxLen; omega) (Nat.le_refl _) ?_; intro w1 hown1 hg1)
    | fail)
  have hgn : w.heap.size < w1.heap.size := (hown1.lt w.heap.size rfl).2
  obtain ⟨g, hg⟩ : ∃ g, w.heap.size = g := ⟨_, rfl⟩
  have HM0 : Hid (MtAt w w1 g n (List.replicate n 0) (.slice none 0 0) []) := Lib.hid ⟨by rw [List.map_replicate, ← hg]; exact hown1, ⟨rfl, .inl ⟨rfl, rfl⟩⟩, by simp [Value.ownBlock], below_make hg1⟩
  rw [hg]
  clear hown1 hg1
  go_wp2_with fail
  go_loopw [4, 13] (fun v i wr => ∃ k : Nat, k ≤ n ∧ i = .int .i64 (k : Int) ∧ MtAt w wr g n (pmS xs k).1 v (pmS xs k).2) (fun _ i _ => n - (intOf i).toNat)
  case atStart => exact ⟨0, Nat.zero_le _, rfl, by have := HM0.out; rw [pmS, HL.out]; exact this⟩
  case round =>
    obtain ⟨k, hk, rfl, hM⟩ := hrel
    have hsl := pmS_stack xs k
    obtain ⟨m, s, hms⟩ : ∃ m s, pmS xs k = (m, s) := ⟨_, _, rfl⟩
    have HS := Lib.hid hms
    rw [hms] at hM hsl
    simp only at hM hsl
    by_cases hlt : k < n
    · obtain ⟨x, hx⟩ : ∃ x, xs[k]? = some x := ⟨_, List.getElem?_eq_getElem (by rw [HL.out]; exact hlt)⟩
      obtain ⟨ad, rfl, hab, hcell⟩ := (HR.out.below hM.low).at_ hlt
      have cx : wr.cell? (ad.add k) = some (.int .i64 x) := hcell _ (by rw [List.getElem?_map, hx]; rfl)
      obtain ⟨⟨u, cu⟩, fu⟩ := hM.cell hlt
      have hM1 := hM.set k (-1)
      obtain ⟨⟨u1, cu1⟩, fu1⟩ := hM1.cell hlt
      have HM1 := Lib.hid hM1
      have HX := Lib.hid hx
      obtain ⟨o, ho⟩ : ∃ o, opB x = o := ⟨_, rfl⟩
      have HI := Lib.hid (fun W => prIso_of x o ho W)
      have HO := Lib.hid ho
      have hkn : (k : Int) < (n : Int) := by omega
      have hk0 : (0 : Int) ≤ (k : Int) := by omega
      clear hM hM1 hms hcell hx ho
      cases o with
      | true =>
        have HN := Lib.hid (pmS_open HS.out HX.out HO.out)
        rw [HL.out] at HN
        have HM2 := Lib.hid (HM1.out.set k (n : Int))
        have HNW := Lib.hid (cells_new ((wr.setCell ⟨g, k, none⟩ (.int .i64 (-1))).setCell ⟨g, k, none⟩ (.int .i64 (n : Int))) [.int .i64 (k : Int)] 3)
        have hsz2 : ((wr.setCell ⟨g, k, none⟩ (.int .i64 (-1))).setCell ⟨g, k, none⟩ (.int .i64 (n : Int))).heap.size = wr.heap.size := by simp [World.setCell]
        rw [hsz2] at HNW
        clear hsz2
        go_wp2_with (first
          | (go_at_call 38; with_reducible refine (HI.out _).mono ?_; rintro e w2 ⟨rfl, rfl⟩)
          | (at_builtin; refine wpList_app rfl _ _ _ rfl intSliceM (by decide) _ s.length _ rfl (HM2.out.stk.alloc _) ⟨wr.heap.size, 0, none⟩ 1 1 [.int .i64 (k : Int)] rfl rfl HNW.out (oneInt _ _) (by omega) (by unfold maxLen; omega) (Nat.le_trans HM2.out.low.size (by simp)) ?_; intro v1 w3 hown3 hg3 hat3)
          | fail)
        have HM3 := Lib.hid ((HM2.out.lowr (below_new _ _)).push (k := k) hg3 hown3 (by
          rcases hat3 with e | e
          · exact .inl e
          · exact .inr ⟨_, e, by simp⟩))
        clear hown3 hg3 hat3
        go_roundw
        case rel => exact ⟨k + 1, by omega, by go_num, by rw [HN.out]; exact HM3.out⟩
        case measure => simp [intOf]; omega
      | false =>
        by_cases h22 : x = 22
        · subst h22
          cases s with
          | nil =>
            have HN := Lib.hid (pmS_empty HS.out HX.out)
            obtain ⟨As, cs, hv, hcs⟩ := own_form HM1.out.stk
            simp only [List.length_nil] at hv
            subst hv
            go_wp2_with (first
              | (go_at_call 38; with_reducible refine (HI.out _).mono ?_; rintro e w2 ⟨rfl, rfl⟩)
              | fail)
            go_roundw
            case rel => exact ⟨k + 1, by omega, by go_num, by rw [HN.out]; exact HM1.out⟩
            case measure => simp [intOf]; omega
          | cons t r =>
            have HN := Lib.hid (pmS_shut HS.out HX.out)
            obtain ⟨gs, cs, rfl, hcs, hgs, hbs, hcell⟩ := own_at HM1.out.stk (by simp)
            have hct : (wr.setCell ⟨g, k, none⟩ (.int .i64 (-1))).cell? ⟨gs, r.length, none⟩ = some (.int .i64 (t : Int)) := hcell _ _ (by rw [List.getElem?_map, stkL_top]; rfl)
            have htk : t < k := by
              have h9 := (pmI_all xs k (by rw [HL.out]; omega)).st 0 t (by rw [HS.out]; rfl)
              exact h9.1
            have HM2 := Lib.hid (HM1.out.set k (t : Int))
            have HM3 := Lib.hid ((HM2.out.set t (k : Int)).pop)
            have HMX := Lib.hid (((HM1.out.set t (k : Int)).set k (t : Int)).pop)
            have HC := Lib.hid (show (((m.set k (-1)).set t (k : Int)).set k (t : Int)) = (((m.set k (-1)).set k (t : Int)).set t (k : Int)) from List.set_comm _ _ (by omega))
            have hne : gs ≠ g := fun e => HM1.out.ne (by rw [e]; rfl)
            obtain ⟨⟨u2, cu2⟩, fu2⟩ := HM1.out.cell (show t < n by omega)
            obtain ⟨⟨u3, cu3⟩, fu3⟩ := HM2.out.cell (show t < n by omega)
            have ht0 : (0 : Int) ≤ (t : Int) := by omega
            have htn : (t : Int) < (n : Int) := by omega
            have hrl : r.length + 1 ≤ 100000 := by simp at hsl; omega
            obtain ⟨q, hq⟩ : ∃ q, r.length = q := ⟨_, rfl⟩
            have hlr : (((t :: r).length : Nat) : Int) = (q : Int) + 1 := by simp; omega
            simp only [List.length_cons, hq] at *
            have hl1 : ((q : Int) + 1) - 1 = (q : Int) := by omega
            clear hcell
            go_wp2_with (first
              | (go_at_call 38; with_reducible refine (HI.out _).mono ?_; rintro e w2 ⟨rfl, rfl⟩)
              | fail)
            go_region
            have HM4 := Lib.hid (HM3.out.lowr (Below.refl _ _).drew)
            go_wp2_with fail
            go_roundw
            case rel => exact ⟨k + 1, by omega, by go_num, by rw [HN.out]; exact HM4.out⟩
            case measure => simp [intOf]; omega
        · have HN := Lib.hid (pmS_pass HS.out HX.out HO.out h22)
          have g22 : (x == 22) = false := by simp [h22]
          clear h22
          go_wp2_with (first
            | (go_at_call 38; with_reducible refine (HI.out _).mono ?_; rintro e w2 ⟨rfl, rfl⟩)
            | fail)
          go_roundw
          case rel => exact ⟨k + 1, by omega, by go_num, by rw [HN.out]; exact HM1.out⟩
          case measure => simp [intOf]; omega
    · obtain rfl : k = n := by omega
      have HZ := Lib.hid (show matF xs = m by unfold matF; rw [HL.out, HS.out])
      have HMM := Lib.hid hM
      clear hM hms
      go_wp2
      go_ret
      exact ⟨_, rfl, by rw [HZ.out]; exact HMM.out.ans, HMM.out.low⟩
end Go.Proofs.YtpddjojgcenlkaaGreat
/- slices.Clone at []int: a row of the call's own that reads as the argument does. -/
namespace Go.Proofs.YtpddjojgcenlkaaGreat
open Go.RowKit

theorem cloneInt_slice : SliceOf Tryz.prog 22 3 1 8 := .mk_ (z := .int .i64 0) Tryz.underlying22 (by kernel_rfl) rfl
theorem cloneInt_any (A : Option Addr) (n c : Nat) (xs : List Value) (w : World) (hr : Rd w 1 A n xs) (h1 : ∀ u ∈ xs, u.oneCell' = true) (hm : n ≤ 16777216) :
    Calls Tryz.prog 57 #[.slice A n c] w fun e w' => ∃ v, e = .returned v ∧ w'.ownsRow w.heap.size 3 1 v n xs ∧ Below w.heap.size w w' := by
  rcases A with _ | ad
  · have h0 : n = 0 := by
      rcases Nat.eq_zero_or_pos n with h | h
      · exact h
      · obtain ⟨_, e, _⟩ := hr.2 h
        cases e
    subst h0
    have hx : xs = [] := List.eq_nil_of_length_eq_zero (by simpa using hr.1)
    subst hx
    have hq := fun w => Lib.run_eql_slice_nil (P := Tryz.prog) w 22 3 none 0 c 0 0 Tryz.underlying22
    go_enter Tryz.func57, Tryz.ntmps57
    go_wp2
    go_ret
    exact ⟨_, rfl, ⟨rfl, .inl ⟨rfl, rfl⟩⟩, Below.refl _ _⟩
  · have hq := fun w => Lib.run_eql_slice_nil (P := Tryz.prog) w 22 3 (some ad) n c 0 0 Tryz.underlying22
    have hown : (w.alloc (.cells #[] 3)).ownsRow w.heap.size 3 1 (.slice (some ⟨w.heap.size, 0, none⟩) 0 0) 0 [] := World.ownsRow_made w #[] 0 (Nat.le_refl _) (Nat.zero_le _) rfl
    go_enter Tryz.func57, Tryz.ntmps57
    go_wp2_with (at_builtin; refine wpList_app rfl _ _ _ rfl cloneInt_slice (by decide) _ 0 [] rfl hown ad n c xs rfl (by have := hr.1; omega) (hr.alloc _).news h1 (by omega) (by unfold maxLen; omega) (by simp) ?_; intro v1 w1 hown1 hg1 hat1)
    go_ret
    exact ⟨v1, rfl, by simpa using hown1, below_app ((Below.refl _ _).alloc (Nat.le_refl _) _) hg1 hown (by simp)⟩
end Go.Proofs.YtpddjojgcenlkaaGreat
/- Brackets, one by one: one that is of its side already, and with it all marks behind it, is passed by; what comes of all is what the reference says. No function of the program. -/
namespace Go.Proofs.YtpddjojgcenlkaaGreat
open Go.RowKit

/-- From a on there are marks alone up to j. -/
def RchM (bf : List Int) (a j : Nat) : Prop := a ≤ j ∧ ∀ i, a < i → i ≤ j → bf[i]? = some 8
theorem RchM.self (bf : List Int) (a : Nat) : RchM bf a a := ⟨Nat.le_refl _, fun i h1 h2 => by omega⟩
theorem RchM.from {bf : List Int} {a b j : Nat} (h : RchM bf a j) (h1 : a ≤ b) (h2 : b ≤ j) : RchM bf b j := ⟨h2, fun i hi hj => h.2 i (by omega) hj⟩
theorem RchM.upto {bf : List Int} {a b j : Nat} (h : RchM bf a j) (h1 : a ≤ b) (h2 : b ≤ j) : RchM bf a b := ⟨h1, fun i hi hj => h.2 i hi (by omega)⟩
theorem RchM.trans {bf : List Int} {a b j : Nat} (h : RchM bf a b) (h' : RchM bf b j) : RchM bf a j := ⟨Nat.le_trans h.1 h'.1, fun i hi hj => if h2 : i ≤ b then h.2 i hi h2 else h'.2 i (by omega) hj⟩
theorem runS_in {bf : List Int} {s : Int} {j : Nat} : ∀ (f k : Nat) (o : List Int), o.length = bf.length → bf.length ≤ f + k → k ≤ j → (∀ i, k ≤ i → i ≤ j → bf[i]? = some 8) → (runS bf s f k o)[j]? = some s
  | 0, k, o, _, hf, hk, h => by
    have := (List.getElem?_eq_some_iff.1 (h j hk (Nat.le_refl _))).1
    omega
  | f + 1, k, o, ho, hf, hk, h => by
    rw [runS, if_pos (h k (Nat.le_refl _) hk)]
    by_cases e : k = j
    · subst e
      have hl := (List.getElem?_eq_some_iff.1 (h k (Nat.le_refl _) hk)).1
      have h1 : ∀ (f m : Nat) (o : List Int), k < m → (runS bf s f m o)[k]? = o[k]? := by
        intro f
        induction f with
        | zero => intro m o _; rfl
        | succ f ih =>
          intro m o hm
          rw [runS]
          split
          · rw [ih _ _ (by omega), List.getElem?_set_ne (by omega)]
          · rfl
      rw [h1 _ _ _ (by omega), List.getElem?_set_self (by omega)]
    · exact runS_in f (k + 1) _ (by rw [List.length_set]; exact ho) (by omega) (by omega) fun i h1 h2 => h i (by omega) h2
theorem runS_out {bf : List Int} {s : Int} {j : Nat} : ∀ (f k : Nat) (o : List Int), ¬ (k ≤ j ∧ ∀ i, k ≤ i → i ≤ j → bf[i]? = some 8) → (runS bf s f k o)[j]? = o[j]?
  | 0, _, _, _ => rfl
  | f + 1, k, o, h => by
    rw [runS]
    split
    · rename_i hk
      have e : k ≠ j := by
        rintro rfl
        exact h ⟨Nat.le_refl _, fun i h1 h2 => by rw [show i = k by omega]; exact hk⟩
      rw [runS_out f (k + 1) _ (fun h' => h ⟨by omega, fun i h1 h2 => if e2 : i = k then by rw [e2]; exact hk else h'.2 i (by omega) h2⟩), List.getElem?_set_ne e]
    · rfl
/-- A place, and the marks on it, become it. -/
def setW (bf : List Int) (s : Int) (a : Nat) (o : List Int) : List Int := runS bf s bf.length (a + 1) (o.set a s)
theorem setW_len (bf : List Int) (s : Int) (a : Nat) (o : List Int) : (setW bf s a o).length = o.length := by unfold setW; rw [runS_len, List.length_set]
theorem setW_in {bf : List Int} {s : Int} {a j : Nat} {o : List Int} (ho : o.length = bf.length) (ha : a < o.length) (h : RchM bf a j) : (setW bf s a o)[j]? = some s := by
  unfold setW
  by_cases e : a = j
  · subst e
    rw [runS_out _ _ _ (fun h => by omega), List.getElem?_set_self ha]
  · exact runS_in _ _ _ (by rw [List.length_set]; exact ho) (by omega) (by have := h.1; omega) fun i h1 h2 => h.2 i (by omega) h2
theorem setW_out {bf : List Int} {s : Int} {a j : Nat} {o : List Int} (h : ¬ RchM bf a j) : (setW bf s a o)[j]? = o[j]? := by
  unfold setW
  have e : a ≠ j := by rintro rfl; exact h (RchM.self _ _)
  rw [runS_out _ _ _ (fun h' => h ⟨by omega, fun i h1 h2 => h'.2 i (by omega) h2⟩), List.getElem?_set_ne e]
/-- One that is of the side already is passed by. -/
def setP (bf : List Int) (s : Int) (a : Nat) (o : List Int) : List Int := if o[a]? = some s then o else setW bf s a o
theorem setP_len (bf : List Int) (s : Int) (a : Nat) (o : List Int) : (setP bf s a o).length = o.length := by
  unfold setP
  split
  · rfl
  · exact setW_len ..
def n0Q (bf : List Int) (level sos : Int) (out : List Int) (p : Nat × Nat) : List Int :=
  if becF out p.1 p.2 level sos < 0 then out else setP bf (becF out p.1 p.2 level sos) p.2 (setP bf (becF out p.1 p.2 level sos) p.1 out)
def n0P (bf : List Int) (level sos : Int) (l : List Int) (ps : List (Nat × Nat)) : List Int := ps.foldl (n0Q bf level sos) l
theorem n0Q_len (bf : List Int) (level sos : Int) (out : List Int) (p : Nat × Nat) : (n0Q bf level sos out p).length = out.length := by
  unfold n0Q
  split
  · rfl
  · rw [setP_len, setP_len]
theorem ahd_in (l : List Int) : ∀ k, ahdF l k = -1 ∨ ahdF l k = 0 ∨ ahdF l k = 1
  | 0 => .inl rfl
  | k + 1 => by
    rw [ahdF]
    split
    · exact side_in _
    · exact ahd_in l k
theorem bec_in (l : List Int) (o c : Nat) (level sos : Int) : becF l o c level sos = -1 ∨ becF l o c level sos = 0 ∨ becF l o c level sos = 1 := by
  unfold becF
  split
  · exact .inr (ofL_in level)
  · split
    · exact .inl rfl
    · split
      · exact ahd_in l o
      · split
        · exact side_in sos
        · exact .inr (ofL_in level)
theorem n0S_eq {bf : List Int} {level sos : Int} {out : List Int} {p : Nat × Nat} (ho : out.length = bf.length) (h1 : p.1 < out.length) (h2 : p.2 < out.length) : n0S bf level sos out p = if becF out p.1 p.2 level sos < 0 then out else setW bf (becF out p.1 p.2 level sos) p.2 (setW bf (becF out p.1 p.2 level sos) p.1 out) := by
  unfold n0S
  split
  · rfl
  · generalize becF out p.1 p.2 level sos = s
    apply List.ext_getElem?
    intro j
    by_cases c2 : RchM bf p.2 j
    · rw [setW_in (by rw [setW_len]; exact ho) (by rw [setW_len]; exact h2) c2]
      by_cases e : p.2 = j
      · subst e
        rw [runS_out _ _ _ (fun h => by omega)]
        by_cases c1 : RchM bf (p.1 + 1) p.2 ∧ bf[p.1 + 1]? = some 8
        · exact runS_in _ _ _ (by simp [ho]) (by omega) c1.1.1 fun i a b => if e : i = p.1 + 1 then by rw [e]; exact c1.2 else c1.1.2 i (by omega) b
        · rw [runS_out _ _ _ (fun h => c1 ⟨⟨h.1, fun i a b => h.2 i (by omega) b⟩, h.2 _ (Nat.le_refl _) h.1⟩), List.getElem?_set_self (by simp; omega)]
      · exact runS_in _ _ _ (by rw [runS_len]; simp [ho]) (by omega) (by have := c2.1; omega) fun i a b => c2.2 i (by omega) b
    · rw [setW_out c2]
      have e : p.2 ≠ j := by rintro rfl; exact c2 (RchM.self _ _)
      rw [runS_out _ _ _ (fun h => c2 ⟨by omega, fun i a b => h.2 i (by omega) b⟩)]
      by_cases c1 : RchM bf p.1 j
      · rw [setW_in ho h1 c1]
        by_cases e1 : p.1 = j
        · subst e1
          rw [runS_out _ _ _ (fun h => by omega), List.getElem?_set_ne e, List.getElem?_set_self h1]
        · exact runS_in _ _ _ (by simp [ho]) (by omega) (by have := c1.1; omega) fun i a b => c1.2 i (by omega) b
      · rw [setW_out c1]
        have e1 : p.1 ≠ j := by rintro rfl; exact c1 (RchM.self _ _)
        rw [runS_out _ _ _ (fun h => c1 ⟨by omega, fun i a b => h.2 i (by omega) b⟩), List.getElem?_set_ne e, List.getElem?_set_ne e1]
/-- A bracket as it was, or one that was a mark on one that was set, and all marks behind it are as it is. -/
def FreshB (bf : List Int) (done : List (Nat × Nat)) (o : List Int) (b : Nat) : Prop :=
  o[b]? = some 13 ∨ ((∃ r ∈ done, RchM bf r.1 b ∨ RchM bf r.2 b) ∧ ∀ j, RchM bf b j → o[j]? = o[b]?)
theorem FreshB.more {bf : List Int} {done : List (Nat × Nat)} {o : List Int} {b : Nat} (h : FreshB bf done o b) (p : Nat × Nat) : FreshB bf (p :: done) o b :=
  h.imp id fun ⟨⟨r, hr, h1⟩, h2⟩ => ⟨⟨r, List.mem_cons_of_mem _ hr, h1⟩, h2⟩
theorem FreshB.setP {bf : List Int} {done : List (Nat × Nat)} {o : List Int} {b : Nat} {s : Int} (h : FreshB bf done o b) (hs : s ≠ 13) (ho : o.length = bf.length) (hb : b < o.length) : setP bf s b o = setW bf s b o := by
  unfold Go.Proofs.YtpddjojgcenlkaaGreat.setP
  split
  · rename_i he
    rcases h with h | ⟨_, h⟩
    · rw [he] at h
      exact absurd (Option.some.inj h) hs
    · apply List.ext_getElem?
      intro j
      by_cases c : RchM bf b j
      · rw [setW_in ho hb c, h j c, he]
      · rw [setW_out c]
  · rfl
theorem FreshB.setW {bf : List Int} {done : List (Nat × Nat)} {o : List Int} {a b : Nat} {s : Int} (h : FreshB bf done o b) (ho : o.length = bf.length) (ha : a < o.length) (hd : ∃ r ∈ done, a = r.1 ∨ a = r.2) (hp : b < a → RchM bf b a → o[b]? = some 13 ∨ o[b]? = some s) : FreshB bf done (setW bf s a o) b := by
  by_cases c : RchM bf a b
  · refine .inr ⟨?_, fun j hj => ?_⟩
    · obtain ⟨r, hr, rfl | rfl⟩ := hd
      · exact ⟨r, hr, .inl c⟩
      · exact ⟨r, hr, .inr c⟩
    · rw [setW_in ho ha c, setW_in ho ha (c.trans hj)]
  · by_cases h13 : o[b]? = some 13
    · exact .inl (by rw [setW_out c]; exact h13)
    · rcases h with h | ⟨h1, h2⟩
      · exact absurd h h13
      · refine .inr ⟨h1, fun j hj => ?_⟩
        rw [setW_out c]
        by_cases cj : RchM bf a j
        · rw [setW_in ho ha cj]
          have hlt : b < a := by
            rcases Nat.lt_or_ge b a with hlt | hge
            · exact hlt
            · exact absurd (cj.upto hge hj.1) c
          rcases hp hlt (hj.upto (Nat.le_of_lt hlt) cj.1) with h | h
          · exact absurd h h13
          · exact h.symm
        · rw [setW_out cj]
          exact h2 j hj
/-- Pairs apart, by where they open. -/
structure PrOk (n : Nat) (L : List (Nat × Nat)) : Prop where
  pair : ∀ p ∈ L, p.1 < p.2 ∧ p.2 < n
  sort : L.Pairwise (fun x y => x.1 < y.1)
  apart : ∀ p ∈ L, ∀ q ∈ L, p ≠ q → p.2 ≠ q.2 ∧ ¬ (p.1 < q.1 ∧ q.1 < p.2 ∧ p.2 < q.2)
theorem n0_same {bf : List Int} {level sos : Int} : ∀ (rest done : List (Nat × Nat)) (o : List Int), o.length = bf.length → PrOk bf.length (done.reverse ++ rest) → (∀ q ∈ rest, FreshB bf done o q.1 ∧ FreshB bf done o q.2) → n0P bf level sos o rest = n0F bf level sos o rest
  | [], _, _, _, _, _ => rfl
  | p :: rest, done, o, ho, hL, hF => by
    have hpm : p ∈ done.reverse ++ p :: rest := by simp
    obtain ⟨h1, h2⟩ := hL.pair p hpm
    have hsort := List.pairwise_append.1 hL.sort
    have hrest := List.pairwise_cons.1 hsort.2.1
    have hstep : n0Q bf level sos o p = n0S bf level sos o p ∧ ∀ q ∈ rest, FreshB bf (p :: done) (n0S bf level sos o p) q.1 ∧ FreshB bf (p :: done) (n0S bf level sos o p) q.2 := by
      rw [n0S_eq ho (by omega) (by omega)]
      unfold n0Q
      have hb := bec_in o p.1 p.2 level sos
      generalize becF o p.1 p.2 level sos = s at hb
      split
      · exact ⟨rfl, fun q hq => ⟨(hF q (by simp [hq])).1.more p, (hF q (by simp [hq])).2.more p⟩⟩
      · have hs : s ≠ 13 := by omega
        have hp := hF p (by simp)
        have hfst : ∀ b, p.1 < b → FreshB bf done o b → FreshB bf (p :: done) (setW bf s p.1 o) b := fun b hb h => (h.more p).setW ho (by omega) ⟨p, by simp, .inl rfl⟩ (fun h => by omega)
        have h13 : ∀ b, p.1 < b → FreshB bf done o b → b < p.2 → RchM bf b p.2 → (setW bf s p.1 o)[b]? = some 13 ∨ (setW bf s p.1 o)[b]? = some s := by
          intro b hpb hfr hbp _
          rcases hfst b hpb hfr with h | ⟨⟨r, hr, hrr⟩, _⟩
          · exact .inl h
          · refine .inr (setW_in ho (by omega) ?_)
            rcases List.mem_cons.1 hr with rfl | hr
            · rcases hrr with h | h
              · exact h
              · have := h.1; omega
            · have hr1 := hsort.2.2 r (by simpa using hr) p (by simp)
              rcases hrr with h | h
              · exact h.from (by omega) (by omega)
              · have hne : r ≠ p := by rintro rfl; omega
                have hap := hL.apart r (by simp [hr]) p hpm hne
                have := h.1
                exact h.from (by omega) (by omega)
        have hsnd : ∀ b, p.1 < b → FreshB bf done o b → FreshB bf (p :: done) (setW bf s p.2 (setW bf s p.1 o)) b := fun b hb h => (hfst b hb h).setW (by rw [setW_len]; exact ho) (by rw [setW_len]; omega) ⟨p, by simp, .inr rfl⟩ (h13 b hb h)
        refine ⟨?_, fun q hq => ?_⟩
        · rw [hp.1.setP hs ho (by omega), (hfst p.2 h1 hp.2).setP hs (by rw [setW_len]; exact ho) (by rw [setW_len]; omega)]
        · have hq1 := hrest.1 q hq
          have hq2 := (hL.pair q (by simp [hq])).1
          exact ⟨hsnd _ hq1 (hF q (by simp [hq])).1, hsnd _ (by omega) (hF q (by simp [hq])).2⟩
    show n0P bf level sos (n0Q bf level sos o p) rest = n0F bf level sos (n0S bf level sos o p) rest
    rw [hstep.1]
    exact n0_same rest (p :: done) _ (by rw [n0S_len]; exact ho) (by simpa using hL) hstep.2
theorem bkF_ok (cs l : List Int) : PrOk cs.length (bkF cs l) := by
  unfold bkF
  split
  · have h := bk_ok (fun i => decide (l.getD i 0 = 13)) (fun i => (braF (cs.getD i 0)).1) (fun o i => bmF (cs.getD o 0) (cs.getD i 0)) cs.length
    exact ⟨h.pair, h.sort, h.apart⟩
  · exact ⟨by simp, by simp, by simp⟩
theorem bk_same {cs l bf : List Int} {level sos : Int} (hl : l.length = bf.length) : n0P bf level sos l (bkF cs l) = n0F bf level sos l (bkF cs l) := by
  by_cases hc : cs.length = l.length
  · have hok := bkF_ok cs l
    rw [hc, hl] at hok
    refine n0_same _ [] l hl (by simpa using hok) fun q hq => ?_
    obtain ⟨a, b⟩ := bkF_on hq
    obtain ⟨h1, h2⟩ := hok.pair q hq
    constructor
    · refine .inl ?_
      rw [List.getD_eq_getElem?_getD, List.getElem?_eq_getElem (by omega)] at a
      rw [List.getElem?_eq_getElem (by omega)]
      simpa using a
    · refine .inl ?_
      rw [List.getD_eq_getElem?_getD, List.getElem?_eq_getElem (by omega)] at b
      rw [List.getElem?_eq_getElem (by omega)]
      simpa using b
  · have : bkF cs l = [] := if_neg hc
    rw [this]
    rfl
end Go.Proofs.YtpddjojgcenlkaaGreat
/- brack's sequence at work: its box, its classes, the classes before; set, walked. -/
namespace Go.Proofs.YtpddjojgcenlkaaGreat
open Go.RowKit

/-- A sequence whose brackets are being set. -/
structure BqAt (w0 w : World) (sb : Nat) (C D : Option Addr) (n c d : Nat) (level sos : Int) (o bf : List Int) : Prop where
  box : w.heap[sb]? = some (.cells #[.slice C n c, .slice D n d, .int .i64 level, .int .i64 sos] 88 (0, 0))
  row : w.ownsRow w0.heap.size 3 1 (.slice C n c) n (o.map (Value.int .i64))
  bef : Rd w 1 D n (bf.map (Value.int .i64))
  bel : 0 < n → ∀ ad, D = some ad → ad.block < w0.heap.size
  low : Below w0.heap.size w0 w
section
variable {w0 w w' : World} {sb n c d : Nat} {C D : Option Addr} {level sos : Int} {o bf : List Int}
theorem BqAt.len (h : BqAt w0 w sb C D n c d level sos o bf) : o.length = n ∧ bf.length = n := ⟨by have := h.row.1; simpa using this, by simpa using h.bef.len1⟩
theorem BqAt.lowr (h : BqAt w0 w sb C D n c d level sos o bf) (hb : Below w.heap.size w w') : BqAt w0 w' sb C D n c d level sos o bf :=
  ⟨(hb.block sb (hp_lt h.box)).trans h.box, own_below h.row hb, h.bef.below hb, h.bel, h.low.trans (hb.mono h.low.size)⟩
theorem BqAt.put {g : Nat} (h : BqAt w0 w sb (some ⟨g, 0, none⟩) D n c d level sos o bf) (j : Nat) (x : Int) : BqAt w0 (w.setCell ⟨g, j, none⟩ (.int .i64 x)) sb (some ⟨g, 0, none⟩) D n c d level sos (o.set j x) bf := by
  have hgb := (h.row.lt g rfl).1
  have hne : sb ≠ g := by
    rintro rfl
    obtain ⟨c1, h1⟩ := own_row h.row sb rfl
    rw [h.box] at h1
    simp at h1
  refine ⟨(hp_far hne _ _).trans h.box, ?_, h.bef.belowS h.bel ((Below.refl _ _).setCell (p := ⟨g, j, none⟩) hgb _), h.bel, h.low.setCell (p := ⟨g, j, none⟩) hgb _⟩
  rw [List.map_set]
  exact (h.row.stored j _).1
end
set_option maxRecDepth 100000 in
set_option maxHeartbeats 2000000 in
theorem bkSet_any (w0 w : World) (sb n c d a : Nat) (C D : Option Addr) (level sos s : Int) (o bf : List Int) (h : BqAt w0 w sb C D n c d level sos o bf) (ha : a < n) (hn : n ≤ 1000000) :
    Calls Tryz.prog 60 #[.pointer (some ⟨sb, 0, none⟩), .int .i64 (a : Int), .int .i64 s] w fun e w' => e = .returned (.tuple #[]) ∧ BqAt w0 w' sb C D n c d level sos (setP bf s a o) bf ∧ w.grownBy w' (Value.slice C n c).ownBlock := by
  obtain ⟨hol, hbl⟩ := h.len
  obtain ⟨g, c', hv, hnc, hgl, hgb, hcs⟩ := own_at h.row (show 0 < n by omega)
  simp only [Value.slice.injEq] at hv
  obtain ⟨rfl, -, rfl⟩ := hv
  obtain ⟨x, hx⟩ : ∃ x, o[a]? = some x := ⟨_, List.getElem?_eq_getElem (by omega)⟩
  have cx : w.cell? ⟨g, a, none⟩ = some (.int .i64 x) := hcs _ _ (by rw [List.getElem?_map, hx]; rfl)
  have c0 : w.cell? ⟨sb, 0, none⟩ = some (.slice (some ⟨g, 0, none⟩) n c) := hp_cell (j := 0) h.box rfl
  have fz : w.frozen? ⟨g, a, none⟩ = false := h.row.frozenAt a
  have hai : (a : Int) < (n : Int) := by omega
  have ha0 : (0 : Int) ≤ (a : Int) := by omega
  have H := Lib.hid h
  have HOL := Lib.hid hol
  have HBL := Lib.hid hbl
  clear h hol hbl hcs hgl hgb
  by_cases he : x = s
  · subst he
    have HE := Lib.hid (show setP bf x a o = o by unfold setP; rw [if_pos hx])
    clear hx
    go_enter Tryz.func60, Tryz.ntmps60
    go_wp2
    refine bodyPost_ret (results_none rfl _ _ _) rfl ⟨rfl, ?_, World.grownBy.refl _ _⟩
    rw [HE.out]
    exact H.out
  · have g1 : (x == s) = false := by simp [he]
    have HE := Lib.hid (show setP bf s a o = runS bf s bf.length (a + 1) (o.set a s) by
      unfold setP
      rw [if_neg (by rw [hx]; intro h; exact he (Option.some.inj h))]
      rfl)
    have HP := Lib.hid (H.out.put a s)
    clear hx he
    go_enter Tryz.func60, Tryz.ntmps60
    go_wp2
    have HG := Lib.hid (grown_set (World.grownBy.refl w (some g)) a (.int .i64 s))
    generalize w.setCell ⟨g, a, none⟩ (.int .i64 s) = w1 at HP HG
    go_loopw [6] (fun i wr => ∃ (k f : Nat) (o' : List Int), a + 1 ≤ k ∧ k ≤ n ∧ i = .int .i64 (k : Int) ∧ f + k = n + a + 1 ∧ runS bf s bf.length (a + 1) (o.set a s) = runS bf s f k o' ∧ BqAt w0 wr sb (some ⟨g, 0, none⟩) D n c d level sos o' bf ∧ w.grownBy wr (some g)) (fun i _ => n - (intOf i).toNat)
    case atStart => exact ⟨a + 1, n, o.set a s, Nat.le_refl _, ha, by go_num, by omega, by rw [HBL.out], HP.out, HG.out⟩
    case round =>
      obtain ⟨k, f, o', hak, hk, rfl, hf, hr, hD, hG⟩ := hrel
      have HG := Lib.hid hG
      have HR := Lib.hid hr
      have HD := Lib.hid hD
      have d0 : wr.cell? ⟨sb, 0, none⟩ = some (.slice (some ⟨g, 0, none⟩) n c) := hp_cell (j := 0) hD.box rfl
      have d1 : wr.cell? ⟨sb, 1, none⟩ = some (.slice D n d) := hp_cell (j := 1) hD.box rfl
      have fk : wr.frozen? ⟨g, k, none⟩ = false := hD.row.frozenAt k
      clear hr hD hG
      by_cases hlt : k < n
      · obtain ⟨y, hy⟩ : ∃ y, bf[k]? = some y := ⟨_, List.getElem?_eq_getElem (by rw [HBL.out]; exact hlt)⟩
        obtain ⟨ad, rfl, hab, hcell⟩ := HD.out.bef.at_ hlt
        have cy := hcell (.int .i64 y) (by rw [List.getElem?_map, hy]; rfl)
        have hki : (k : Int) < (n : Int) := by omega
        obtain ⟨f', rfl⟩ : ∃ f', f = f' + 1 := ⟨f - 1, by omega⟩
        clear hcell
        by_cases h8 : y = 8
        · subst h8
          have HN := Lib.hid (HR.out.trans (show runS bf s (f' + 1) k o' = runS bf s f' (k + 1) (o'.set k s) by rw [runS, if_pos hy]))
          have HP2 := Lib.hid (HD.out.put k s)
          have ck : ∃ z, wr.cell? ⟨g, k, none⟩ = some z := by
            have hkl : k < o'.length := by rw [HD.out.len.1]; exact hlt
            obtain ⟨g2, c2, hv2, _, _, _, hcs2⟩ := own_at HD.out.row (show 0 < n by omega)
            simp only [Value.slice.injEq, Option.some.injEq, Addr.mk.injEq, and_true, true_and] at hv2
            obtain ⟨rfl, rfl⟩ := hv2
            exact ⟨_, hcs2 k (.int .i64 (o'[k])) (by rw [List.getElem?_map, List.getElem?_eq_getElem hkl]; rfl)⟩
          obtain ⟨z, ck⟩ := ck
          clear hy
          go_wp2
          go_roundw
          case rel => exact ⟨k + 1, f', o'.set k s, by omega, by omega, by go_num, by omega, HN.out, HP2.out, grown_set HG.out _ _⟩
          case measure => simp [intOf]; omega
        · have g8 : (y == 8) = false := by simp [h8]
          have HN := Lib.hid (HR.out.trans (show runS bf s (f' + 1) k o' = o' by rw [runS, if_neg (by rw [hy]; intro h; exact h8 (Option.some.inj h))]))
          clear hy h8
          go_wp2
          refine bodyPost_end (v := .tuple #[]) (by simp [results, go_sem]) rfl ⟨rfl, ?_, HG.out⟩
          rw [HE.out, HN.out]
          exact HD.out
      · obtain rfl : k = n := by omega
        have HN := Lib.hid (HR.out.trans (show runS bf s f k o' = o' by
          cases f with
          | zero => rfl
          | succ f => rw [runS, if_neg (by rw [List.getElem?_eq_none (by rw [HBL.out]; exact Nat.le_refl _)]; intro h; cases h)]))
        go_wp2
        refine bodyPost_end (v := .tuple #[]) (by simp [results, go_sem]) rfl ⟨rfl, ?_, HG.out⟩
        rw [HE.out, HN.out]
        exact HD.out
end Go.Proofs.YtpddjojgcenlkaaGreat
/- Pairs as spans, in their places; how many; nothing more behind too many. No function of the program. -/
namespace Go.Proofs.YtpddjojgcenlkaaGreat
open Go.RowKit

/-- A pair in its place, by where it opens. -/
def insB : List Sp → Sp → List Sp
  | [], p => [p]
  | q :: l, p => if q.1 < p.1 then q :: insB l p else p :: q :: l
theorem insB_at {p : Sp} : ∀ {l : List Sp} {j : Nat}, (∀ t ∈ l.take j, t.1 < p.1) → (j = l.length ∨ ∃ t, l[j]? = some t ∧ ¬ t.1 < p.1) → insB l p = l.take j ++ p :: l.drop j
  | [], j, _, h => by
    rcases h with h | ⟨t, ht, _⟩
    · subst h; rfl
    · simp at ht
  | q :: l, 0, _, h => by
    rcases h with h | ⟨t, ht, hn⟩
    · simp at h
    · obtain rfl := Option.some.inj ht
      rw [insB, if_neg hn]
      rfl
  | q :: l, j + 1, h1, h => by
    rw [insB, if_pos (h1 q (by simp)), insB_at (j := j) (fun t ht => h1 t (by simp [ht])) (by
      rcases h with h | ⟨t, ht, hn⟩
      · exact .inl (by simpa using h)
      · exact .inr ⟨t, by simpa using ht, hn⟩)]
    rfl
theorem insB_len (p : Sp) : ∀ l : List Sp, (insB l p).length = l.length + 1
  | [] => rfl
  | q :: l => by
    rw [insB]
    split
    · simp [insB_len p l]
    · simp
/-- Pairs of places as spans. -/
def prL (out : List (Nat × Nat)) : List Sp := out.map fun p => ((p.1 : Int), (p.2 : Int))
theorem prL_len (out : List (Nat × Nat)) : (prL out).length = out.length := by simp [prL]
theorem prL_ins (p : Nat × Nat) : ∀ out : List (Nat × Nat), prL (insP out p) = insB (prL out) ((p.1 : Int), (p.2 : Int))
  | [] => rfl
  | q :: l => by
    rw [insP]
    by_cases h : q.1 < p.1
    · rw [if_pos h]
      have : prL (q :: insP l p) = ((q.1 : Int), (q.2 : Int)) :: prL (insP l p) := rfl
      rw [this, prL_ins p l]
      have : prL (q :: l) = ((q.1 : Int), (q.2 : Int)) :: prL l := rfl
      rw [this, insB, if_pos (by simp only; omega)]
    · rw [if_neg h]
      have : prL (q :: l) = ((q.1 : Int), (q.2 : Int)) :: prL l := rfl
      rw [this, insB, if_neg (by simp only; omega)]
      rfl
section
variable (on : Nat → Bool) (kd : Nat → Int) (mt : Nat → Nat → Bool)
theorem bk_outs : ∀ k, (bkA on kd mt k).out.length ≤ k
  | 0 => Nat.le_refl _
  | k + 1 => by
    have h := bk_outs k
    rw [bkA]
    generalize bkA on kd mt k = s at h
    unfold bkStep
    split
    · omega
    · split
      · split
        · simp only; omega
        · simp only; omega
      · split
        · omega
        · simp only
          rw [insP_len]
          omega
theorem bk_stopped {k : Nat} (h : (bkA on kd mt k).stop = true) : ∀ m, bkA on kd mt (k + m) = bkA on kd mt k
  | 0 => rfl
  | m + 1 => by
    rw [← Nat.add_assoc, bkA, bk_stopped h m, bkStep, if_pos (.inl h)]
variable {on : Nat → Bool} {kd : Nat → Int} {mt : Nat → Nat → Bool} {k : Nat} {st : List Nat} {out : List (Nat × Nat)}
theorem bk_pass (h : bkA on kd mt k = ⟨st, out, false⟩) (hc : on k = false ∨ kd k = 0) : bkA on kd mt (k + 1) = ⟨st, out, false⟩ := by
  rw [bkA, h, bkStep, if_pos (.inr hc)]
theorem bk_push (h : bkA on kd mt k = ⟨st, out, false⟩) (ho : on k = true) (hk : kd k = 1) (hl : st.length < 63) : bkA on kd mt (k + 1) = ⟨k :: st, out, false⟩ := by
  rw [bkA, h, bkStep, if_neg (by rw [ho, hk]; simp), if_pos hk, if_neg (by simp only; omega)]
theorem bk_full (h : bkA on kd mt k = ⟨st, out, false⟩) (ho : on k = true) (hk : kd k = 1) (hl : 63 ≤ st.length) {n : Nat} (hn : k < n) : (bkA on kd mt n).out = out := by
  have h1 : bkA on kd mt (k + 1) = ⟨st, out, true⟩ := by rw [bkA, h, bkStep, if_neg (by rw [ho, hk]; simp), if_pos hk, if_pos hl]
  have h2 := bk_stopped on kd mt (k := k + 1) (by rw [h1]) (n - (k + 1))
  rw [show k + 1 + (n - (k + 1)) = n by omega] at h2
  rw [h2, h1]
theorem bk_none (h : bkA on kd mt k = ⟨st, out, false⟩) (ho : on k = true) (h0 : kd k ≠ 0) (h1 : kd k ≠ 1) (hp : popTo (fun o => mt o k) st = none) : bkA on kd mt (k + 1) = ⟨st, out, false⟩ := by
  rw [bkA, h, bkStep, if_neg (by rw [ho]; simp [h0]), if_neg h1]
  simp only [hp]
theorem bk_some (h : bkA on kd mt k = ⟨st, out, false⟩) (ho : on k = true) (h0 : kd k ≠ 0) (h1 : kd k ≠ 1) {o : Nat} {r : List Nat} (hp : popTo (fun o => mt o k) st = some (o, r)) : bkA on kd mt (k + 1) = ⟨r, insP out (o, k), false⟩ := by
  rw [bkA, h, bkStep, if_neg (by rw [ho]; simp [h0]), if_neg h1]
  simp only [hp]
end
end Go.Proofs.YtpddjojgcenlkaaGreat
/- Spans put in order by their Lo, as plain mathematics: put in one by one; which order does not matter where they are parts. -/
namespace Go.Proofs.YtpddjojgcenlkaaGreat

def LoSorted (l : List Sp) : Prop := l.Pairwise fun a b => a.1 ≤ b.1
def insLo (acc : List Sp) (s : Sp) : List Sp := acc.takeWhile (fun t => decide (t.1 ≤ s.1)) ++ s :: acc.dropWhile (fun t => decide (t.1 ≤ s.1))
def sortR (l : List Sp) : List Sp := l.foldl insLo []
theorem insLo_at {acc : List Sp} {s : Sp} {j : Nat} (h1 : ∀ t ∈ acc.take j, t.1 ≤ s.1) (h2 : j = acc.length ∨ ∃ t, acc[j]? = some t ∧ ¬ t.1 ≤ s.1) : insLo acc s = acc.take j ++ s :: acc.drop j := by
  induction acc generalizing j with
  | nil => simp [insLo]
  | cons a acc ih =>
    cases j with
    | zero =>
      rcases h2 with h2 | ⟨t, ht, hn⟩
      · simp at h2
      · simp at ht
        subst ht
        have hd : decide (a.1 ≤ s.1) = false := decide_eq_false hn
        simp [insLo, List.takeWhile, List.dropWhile, hd]
    | succ j =>
      have ha := h1 a (by simp)
      have hd : decide (a.1 ≤ s.1) = true := decide_eq_true ha
      have := ih (j := j) (fun t ht => h1 t (by simp [ht])) (by
        rcases h2 with h2 | ⟨t, ht, hn⟩
        · exact .inl (by simpa using h2)
        · exact .inr ⟨t, by simpa using ht, hn⟩)
      unfold insLo at this ⊢
      simp only [List.takeWhile, List.dropWhile, hd, List.take_succ_cons, List.drop_succ_cons, List.cons_append]
      rw [this]
theorem insLo_len (acc : List Sp) (s : Sp) : (insLo acc s).length = acc.length + 1 := by
  have := congrArg List.length (List.takeWhile_append_dropWhile (p := fun t : Sp => decide (t.1 ≤ s.1)) (l := acc))
  rw [List.length_append] at this
  unfold insLo
  rw [List.length_append, List.length_cons]
  omega
theorem insLo_perm (acc : List Sp) (s : Sp) : (insLo acc s).Perm (s :: acc) := by
  unfold insLo
  refine List.perm_middle.trans ?_
  rw [List.takeWhile_append_dropWhile]
theorem insLo_sorted {acc : List Sp} (s : Sp) (h : LoSorted acc) : LoSorted (insLo acc s) := by
  unfold LoSorted at *
  induction acc with
  | nil => simp [insLo]
  | cons a acc ih =>
    rw [List.pairwise_cons] at h
    by_cases ha : a.1 ≤ s.1
    · have hd : decide (a.1 ≤ s.1) = true := decide_eq_true ha
      have e : insLo (a :: acc) s = a :: insLo acc s := by simp [insLo, List.takeWhile, List.dropWhile, hd]
      rw [e, List.pairwise_cons]
      refine ⟨fun b hb => ?_, ih h.2⟩
      have := (insLo_perm acc s).mem_iff.1 hb
      simp at this
      rcases this with rfl | hb'
      · exact ha
      · exact h.1 b hb'
    · have hd : decide (a.1 ≤ s.1) = false := decide_eq_false ha
      have e : insLo (a :: acc) s = s :: a :: acc := by simp [insLo, List.takeWhile, List.dropWhile, hd]
      rw [e, List.pairwise_cons, List.pairwise_cons]
      refine ⟨fun b hb => ?_, h.1, h.2⟩
      simp at hb
      rcases hb with rfl | hb'
      · omega
      · have := h.1 b hb'
        omega
theorem sortR_snoc (l : List Sp) (s : Sp) : sortR (l ++ [s]) = insLo (sortR l) s := by simp [sortR]
theorem sortR_len (l : List Sp) : (sortR l).length = l.length := by
  rw [← List.reverse_reverse l]
  induction l.reverse with
  | nil => rfl
  | cons a t ih => rw [List.reverse_cons, sortR_snoc, insLo_len, ih]; simp
theorem foldIns_perm (l : List Sp) : ∀ acc, (l.foldl insLo acc).Perm (l ++ acc) := by
  induction l with
  | nil => intro acc; exact List.Perm.refl _
  | cons s l ih =>
    intro acc
    refine (ih (insLo acc s)).trans ?_
    refine (List.Perm.append_left l (insLo_perm acc s)).trans ?_
    exact List.perm_middle
theorem sortR_perm (l : List Sp) : (sortR l).Perm l := by
  have := foldIns_perm l []
  rwa [List.append_nil] at this
theorem foldIns_sorted (l : List Sp) : ∀ acc, LoSorted acc → LoSorted (l.foldl insLo acc) := by
  induction l with
  | nil => intro acc h; exact h
  | cons s l ih => intro acc h; exact ih _ (insLo_sorted s h)
theorem sortR_sorted (l : List Sp) : LoSorted (sortR l) := foldIns_sorted l [] List.Pairwise.nil

theorem parts_rise {e n : Int} {l : List Sp} (h : partsFrom e l n = true) : (∀ s ∈ l, e ≤ s.1) ∧ l.Pairwise fun a b => a.1 < b.1 := by
  induction l generalizing e with
  | nil => simp
  | cons s l ih =>
    cases hr : rightB s with
    | false => rw [partsFrom_no (.inl hr)] at h; cases h
    | true =>
      cases he : (s.1 == e) with
      | false => rw [partsFrom_no (.inr he)] at h; cases h
      | true =>
        rw [partsFrom_yes hr he] at h
        have hs := of_decide_eq_true hr
        have he' : s.1 = e := by simpa using he
        obtain ⟨h1, h2⟩ := ih h
        refine ⟨fun t ht => ?_, List.pairwise_cons.2 ⟨fun t ht => ?_, h2⟩⟩
        · simp at ht
          rcases ht with rfl | ht
          · omega
          · have := h1 t ht
            omega
        · have := h1 t ht
          omega
theorem perm_sorted_eq {l l' : List Sp} (hp : l'.Perm l) (h : l.Pairwise fun a b => a.1 < b.1) (h' : LoSorted l') : l' = l := by
  induction l generalizing l' with
  | nil => exact List.Perm.eq_nil hp
  | cons a l ih =>
    cases l' with
    | nil => exact absurd hp.length_eq (by simp)
    | cons b l' =>
      rw [List.pairwise_cons] at h
      unfold LoSorted at h'
      rw [List.pairwise_cons] at h'
      have hb : b ∈ a :: l := hp.mem_iff.1 (by simp)
      have ha : a ∈ b :: l' := hp.mem_iff.2 (by simp)
      have hab : b = a := by
        simp at hb ha
        rcases hb with rfl | hb
        · rfl
        · rcases ha with rfl | ha
          · rfl
          · have := h.1 b hb
            have := h'.1 a ha
            omega
      subst hab
      rw [ih (List.Perm.cons_inv hp) h.2 h'.2]
theorem parts_perm {l l' : List Sp} (hp : l'.Perm l) (h : LoSorted l) (h' : LoSorted l') (m : Int) : partsS l' m = partsS l m := by
  cases h1 : partsS l m with
  | true => rw [perm_sorted_eq hp (parts_rise h1).2 h', h1]
  | false =>
    cases h2 : partsS l' m with
    | false => rfl
    | true =>
      rw [perm_sorted_eq hp.symm (parts_rise h2).2 h, h2] at h1
      cases h1
/-- Whether clusters are a map. -/
def checkC (l : List (Sp × Sp)) (n m : Int) : Bool := partsS (l.map Prod.fst) n && partsS (sortR (l.map Prod.snd)) m
end Go.Proofs.YtpddjojgcenlkaaGreat
/- Pairs of brackets by what both know each other by, the last one on the stack first; pairs found put in order. No function of the program. -/
namespace Go.Proofs.YtpddjojgcenlkaaGreat
open Go.RowKit

/-- The place on a stack, the last one first, of the first that knows it. -/
def lastB (v : Int) : List Sp → Int
  | [] => -1
  | t :: r => if t.2 = v then (r.length : Int) else lastB v r
/-- The opening ones, the last one first, and what they know each other by. -/
def stkP (cs : List Int) (st : List Nat) : List Sp := st.map fun (i : Nat) => (((i : Nat) : Int), (braF (cs.getD i 0)).2)
theorem stkP_len (cs : List Int) (st : List Nat) : (stkP cs st).length = st.length := by simp [stkP]
theorem bra_in (c : Int) : (braF c).1 = 0 ∨ (braF c).1 = 1 ∨ (braF c).1 = 2 := by
  unfold braF
  split
  · exact .inr (.inl rfl)
  · split
    · exact .inr (.inr rfl)
    · exact .inl rfl
theorem pop_last {cs : List Int} {k : Nat} (h2 : (braF (cs.getD k 0)).1 = 2) : ∀ {st : List Nat}, (∀ o ∈ st, (braF (cs.getD o 0)).1 = 1) →
    (popTo (fun o => bmF (cs.getD o 0) (cs.getD k 0)) st = none ∧ lastB (braF (cs.getD k 0)).2 (stkP cs st) = -1) ∨
    ∃ o pre r, popTo (fun o => bmF (cs.getD o 0) (cs.getD k 0)) st = some (o, r) ∧ st = pre ++ o :: r ∧ lastB (braF (cs.getD k 0)).2 (stkP cs st) = (r.length : Int)
  | [], _ => .inl ⟨rfl, rfl⟩
  | t :: st, h1 => by
    have ht := h1 t (by simp)
    have hb : bmF (cs.getD t 0) (cs.getD k 0) = decide ((braF (cs.getD t 0)).2 = (braF (cs.getD k 0)).2) := by
      unfold bmF
      rw [ht, h2]
      simp
    have hc : stkP cs (t :: st) = ((t : Int), (braF (cs.getD t 0)).2) :: stkP cs st := rfl
    rw [hc, lastB, popTo]
    by_cases he : (braF (cs.getD t 0)).2 = (braF (cs.getD k 0)).2
    · rw [if_pos (by rw [hb]; exact decide_eq_true he), if_pos he]
      exact .inr ⟨t, [], st, rfl, rfl, by rw [stkP_len]⟩
    · rw [if_neg (by rw [hb]; simpa using he), if_neg he]
      rcases pop_last h2 (st := st) (fun o ho => h1 o (by simp [ho])) with ⟨a, b⟩ | ⟨o, pre, r, a, b, c⟩
      · exact .inl ⟨a, b⟩
      · exact .inr ⟨o, t :: pre, r, a, by rw [b]; rfl, c⟩
/-- What stands on the stack opens. -/
theorem bk_kd (on : Nat → Bool) (kd : Nat → Int) (mt : Nat → Nat → Bool) : ∀ k, ∀ o ∈ (bkA on kd mt k).st, kd o = 1
  | 0 => by simp [bkA]
  | k + 1 => by
    have h := bk_kd on kd mt k
    rw [bkA]
    generalize bkA on kd mt k = s at h
    unfold bkStep
    split
    · exact h
    · split
      · rename_i h1
        split
        · exact h
        · intro o ho
          rcases List.mem_cons.1 ho with rfl | ho
          · exact h1
          · exact h o ho
      · split
        · exact h
        · rename_i o st hpop
          obtain ⟨_, pre, hst⟩ := popTo_some hpop
          exact fun x hx => h x (by rw [hst]; simp [hx])
theorem insB_perm (p : Sp) : ∀ l : List Sp, (insB l p).Perm (p :: l)
  | [] => List.Perm.refl _
  | q :: l => by
    rw [insB]
    split
    · exact ((insB_perm p l).cons q).trans (List.Perm.swap p q l)
    · exact List.Perm.refl _
/-- One more that is found. -/
theorem found_more {o : List Sp} {out : List (Nat × Nat)} (h : o.Perm (prL out)) (p : Nat × Nat) : (o ++ [((p.1 : Int), (p.2 : Int))]).Perm (prL (insP out p)) := by
  rw [prL_ins]
  exact List.perm_append_comm.trans ((h.cons _).trans (insB_perm _ _).symm)
/-- There is one order. -/
theorem lo_one : ∀ {b a : List Sp}, a.Perm b → LoSorted a → b.Pairwise (fun x y => x.1 < y.1) → a = b
  | [], a, hp, _, _ => hp.eq_nil
  | y :: b, a, hp, ha, hb => by
    rw [List.pairwise_cons] at hb
    cases a with
    | nil => exact absurd hp.symm.eq_nil (by simp)
    | cons x a =>
      unfold LoSorted at ha
      rw [List.pairwise_cons] at ha
      have hxy : x = y := by
        have h1 : x ∈ y :: b := hp.mem_iff.1 (by simp)
        have h2 : y ∈ x :: a := hp.mem_iff.2 (by simp)
        rcases List.mem_cons.1 h1 with h1 | h1
        · exact h1
        · rcases List.mem_cons.1 h2 with h2 | h2
          · exact h2.symm
          · have := hb.1 x h1
            have := ha.1 y h2
            omega
      subst hxy
      rw [lo_one (hp.cons_inv) ha.2 hb.2]
theorem prL_sorted {out : List (Nat × Nat)} (h : out.Pairwise fun x y => x.1 < y.1) : (prL out).Pairwise fun x y => x.1 < y.1 := by
  unfold prL
  rw [List.pairwise_map]
  exact h.imp fun h => by simp only; omega
theorem found_all {o l : List Sp} {on : Nat → Bool} {kd : Nat → Int} {mt : Nat → Nat → Bool} {k : Nat} (h : o.Perm (prL (bkA on kd mt k).out)) (hp : l.Perm o) (hl : LoSorted l) : l = prL (bkA on kd mt k).out :=
  lo_one (hp.trans h) hl (prL_sorted (bk_ok on kd mt k).sort)
end Go.Proofs.YtpddjojgcenlkaaGreat
/- cmp.Compare at int. -/
namespace Go.Proofs.YtpddjojgcenlkaaGreat
open Go.RowKit

def cmpI (x y : Int) : Int := if x < y then -1 else if y < x then 1 else 0
set_option maxHeartbeats 1000000 in
theorem nanI_any (x : Int) (w : World) : Calls Tryz.prog 101 #[.int .i64 x] w fun e w' => e = .returned (.bool false) ∧ w = w' := by
  have h : (x != x) = false := by simp
  go_enter Tryz.func101, Tryz.ntmps101
  go_wp2
  go_ret
  exact ⟨by simp, rfl⟩
set_option maxHeartbeats 1000000 in
theorem cmpI_any (x y : Int) (w : World) : Calls Tryz.prog 82 #[.int .i64 x, .int .i64 y] w fun e w' => e = .returned (.int .i64 (cmpI x y)) ∧ w = w' := by
  have hc : x < y ∨ (¬ x < y ∧ y < x) ∨ (¬ x < y ∧ ¬ y < x) := by omega
  rcases hc with h | ⟨h, h'⟩ | ⟨h, h'⟩
  · have HE := Lib.hid (show cmpI x y = -1 from if_pos h)
    go_enter Tryz.func82, Tryz.ntmps82
    go_wp2_with (go_at_call 101; refine (nanI_any _ _).mono ?_; rintro e w' ⟨rfl, rfl⟩)
    go_ret
    exact ⟨retI HE.out.symm, rfl⟩
  · have HE := Lib.hid (show cmpI x y = 1 by unfold cmpI; rw [if_neg h, if_pos h'])
    go_enter Tryz.func82, Tryz.ntmps82
    go_wp2_with (go_at_call 101; refine (nanI_any _ _).mono ?_; rintro e w' ⟨rfl, rfl⟩)
    go_ret
    exact ⟨retI HE.out.symm, rfl⟩
  · have HE := Lib.hid (show cmpI x y = 0 by unfold cmpI; rw [if_neg h, if_neg h'])
    go_enter Tryz.func82, Tryz.ntmps82
    go_wp2_with (go_at_call 101; refine (nanI_any _ _).mono ?_; rintro e w' ⟨rfl, rfl⟩)
    go_ret
    exact ⟨retI HE.out.symm, rfl⟩
end Go.Proofs.YtpddjojgcenlkaaGreat
/- The lists of brackets and of what is the same, as they are laid. -/
namespace Go.Proofs.YtpddjojgcenlkaaGreat
open Go.RowKit

theorem rd_new2 (w : World) (l : List Sp) (T : TypeId) : Rd (w.alloc (.cells (cellsS l).toArray T)) 2 (some ⟨w.heap.size, 0, none⟩) l.length (cellsS l) :=
  ⟨cellsS_len l, fun _ => ⟨_, rfl, by simp, cells_new w _ T⟩⟩
set_option maxRecDepth 100000 in
set_option maxHeartbeats 1000000 in
theorem alike_any (w : World) : Calls Tryz.prog 108 #[] w fun e w' => (∃ A, e = .returned (.slice A 2 2) ∧ Rd w' 2 A 2 (cellsS aliL)) ∧ Below w.heap.size w w' := by
  go_enter Tryz.func108, Tryz.ntmps108
  go_wp2
  go_ret
  exact ⟨⟨_, rfl, rd_new2 w aliL _⟩, below_new _ _⟩
set_option maxRecDepth 100000 in
set_option maxHeartbeats 1000000 in
theorem brackets_any (w : World) : Calls Tryz.prog 93 #[] w fun e w' => (∃ A, e = .returned (.slice A 43 43) ∧ Rd w' 2 A 43 (cellsS braL)) ∧ Below w.heap.size w w' := by
  go_enter Tryz.func93, Tryz.ntmps93
  go_wp2
  go_ret
  exact ⟨⟨_, rfl, rd_new2 w braL _⟩, below_new _ _⟩
end Go.Proofs.YtpddjojgcenlkaaGreat
/- The slice type of pairs. -/
namespace Go.Proofs.YtpddjojgcenlkaaGreat
open Go.RowKit
theorem pairSliceR : SliceOf Tryz.prog 89 92 2 16 := .mk_ (z := .agg #[.int .i64 0, .int .i64 0]) Tryz.underlying89 (by kernel_rfl) rfl
end Go.Proofs.YtpddjojgcenlkaaGreat
