/- Texts of one claim, one behind the other. -/
import Derived.Test.YtdgomaoikeffhaaGreatMgAp1
import Derived.Test.YtdgomaoikeffhaaGreatMgAp2
/- Pairs of brackets as mathematics: a stack, the pairs by where they open; they lie apart or one within the other; how deep it goes. No function of the program. -/
namespace Go.Proofs.YtdgomaoikeffhaaGreat
open Go.RowKit

/-- The first on a stack that goes with something, and what is left below it. -/
def popTo (f : Nat → Bool) : List Nat → Option (Nat × List Nat)
  | [] => none
  | o :: st => if f o = true then some (o, st) else popTo f st
theorem popTo_some {f : Nat → Bool} : ∀ {st : List Nat} {o : Nat} {st' : List Nat}, popTo f st = some (o, st') → f o = true ∧ ∃ pre, st = pre ++ o :: st'
  | [], _, _, h => by cases h
  | x :: st, o, st', h => by
    rw [popTo] at h
    split at h
    · rename_i hx
      have := Option.some.inj h
      simp only [Prod.mk.injEq] at this
      obtain ⟨rfl, rfl⟩ := this
      exact ⟨hx, [], rfl⟩
    · obtain ⟨h1, pre, h2⟩ := popTo_some h
      exact ⟨h1, x :: pre, by rw [h2]; rfl⟩
/-- A pair in its place. -/
def insP : List (Nat × Nat) → Nat × Nat → List (Nat × Nat)
  | [], p => [p]
  | q :: l, p => if q.1 < p.1 then q :: insP l p else p :: q :: l
theorem mem_insP {p x : Nat × Nat} : ∀ {l : List (Nat × Nat)}, x ∈ insP l p ↔ x = p ∨ x ∈ l
  | [] => by simp [insP]
  | q :: l => by
    rw [insP]
    split
    · rw [List.mem_cons, mem_insP, List.mem_cons]
      exact ⟨fun h => h.elim (fun h => .inr (.inl h)) (fun h => h.imp id .inr), fun h => h.elim (fun h => .inr (.inl h)) (fun h => h.imp id .inr)⟩
    · rw [List.mem_cons]
theorem insP_sorted {p : Nat × Nat} : ∀ {l : List (Nat × Nat)}, l.Pairwise (fun x y => x.1 < y.1) → (∀ x ∈ l, x.1 ≠ p.1) → (insP l p).Pairwise (fun x y => x.1 < y.1)
  | [], _, _ => by simp [insP]
  | q :: l, h, hn => by
    rw [List.pairwise_cons] at h
    rw [insP]
    split
    · rename_i hq
      rw [List.pairwise_cons]
      refine ⟨fun x hx => ?_, insP_sorted h.2 fun x hx => hn x (by simp [hx])⟩
      rcases mem_insP.1 hx with rfl | hx
      · exact hq
      · exact h.1 x hx
    · rename_i hq
      have hne := hn q (by simp)
      rw [List.pairwise_cons, List.pairwise_cons]
      refine ⟨fun x hx => ?_, h⟩
      rcases List.mem_cons.1 hx with rfl | hx
      · omega
      · have := h.1 x hx; omega
theorem insP_len (p : Nat × Nat) : ∀ l : List (Nat × Nat), (insP l p).length = l.length + 1
  | [] => rfl
  | q :: l => by
    rw [insP]
    split
    · simp [insP_len p l]
    · simp
/-- Opening brackets, the last one first; the pairs, by where they open; whether there were too many. -/
structure BkS where
  st : List Nat
  out : List (Nat × Nat)
  stop : Bool
section
variable (on : Nat → Bool) (kd : Nat → Int) (mt : Nat → Nat → Bool)
def bkStep (s : BkS) (i : Nat) : BkS :=
  if s.stop = true ∨ on i = false ∨ kd i = 0 then s else if kd i = 1 then (if 63 ≤ s.st.length then { s with stop := true } else { s with st := i :: s.st }) else
    match popTo (fun o => mt o i) s.st with
    | none => s
    | some (o, st) => { s with st := st, out := insP s.out (o, i) }
def bkA : Nat → BkS
  | 0 => ⟨[], [], false⟩
  | k + 1 => bkStep on kd mt (bkA k) k
/-- What holds of the pairs so far. -/
structure BkOk (s : BkS) (k : Nat) : Prop where
  desc : s.st.Pairwise (fun x y => y < x)
  lt : ∀ o ∈ s.st, o < k
  len : s.st.length ≤ 63
  pair : ∀ p ∈ s.out, p.1 < p.2 ∧ p.2 < k
  sort : s.out.Pairwise (fun x y => x.1 < y.1)
  off : ∀ p ∈ s.out, ∀ o ∈ s.st, o < p.1 ∨ p.2 < o
  apart : ∀ p ∈ s.out, ∀ q ∈ s.out, p ≠ q → p.2 ≠ q.2 ∧ ¬ (p.1 < q.1 ∧ q.1 < p.2 ∧ p.2 < q.2)
theorem BkOk.more {s : BkS} {k : Nat} (h : BkOk s k) {b : Bool} : BkOk { s with stop := b } (k + 1) :=
  ⟨h.desc, fun o ho => Nat.lt_succ_of_lt (h.lt o ho), h.len, fun p hp => ⟨(h.pair p hp).1, Nat.lt_succ_of_lt (h.pair p hp).2⟩, h.sort, h.off, h.apart⟩
theorem bk_ok : ∀ k, BkOk (bkA on kd mt k) k
  | 0 => ⟨by simp [bkA], by simp [bkA], by simp [bkA], by simp [bkA], by simp [bkA], by simp [bkA], by simp [bkA]⟩
  | k + 1 => by
    have h := bk_ok k
    rw [bkA]
    generalize bkA on kd mt k = s at h
    unfold bkStep
    split
    · exact h.more (b := s.stop)
    · split
      · split
        · exact h.more
        · rename_i hlen
          refine ⟨?_, ?_, by simp only [List.length_cons]; omega, fun p hp => ⟨(h.pair p hp).1, Nat.lt_succ_of_lt (h.pair p hp).2⟩, h.sort, ?_, h.apart⟩
          · rw [List.pairwise_cons]
            exact ⟨h.lt, h.desc⟩
          · intro o ho
            rcases List.mem_cons.1 ho with rfl | ho
            · omega
            · have := h.lt o ho; omega
          · intro p hp o ho
            rcases List.mem_cons.1 ho with rfl | ho
            · exact .inr (h.pair p hp).2
            · exact h.off p hp o ho
      · split
        · exact h.more (b := s.stop)
        · rename_i o st hpop
          obtain ⟨_, pre, hst⟩ := popTo_some hpop
          have hd := h.desc
          rw [hst, List.pairwise_append] at hd
          have hd2 := hd.2.1
          rw [List.pairwise_cons] at hd2
          have ho : o ∈ s.st := by rw [hst]; simp
          have hok := h.lt o ho
          have hsub : ∀ x ∈ st, x ∈ s.st := fun x hx => by rw [hst]; simp [hx]
          have hl : st.length ≤ s.st.length := by rw [hst]; simp; omega
          refine ⟨hd2.2, fun x hx => Nat.lt_succ_of_lt (h.lt x (hsub x hx)), Nat.le_trans hl h.len, ?_, ?_, ?_, ?_⟩
          · intro p hp
            rcases mem_insP.1 hp with rfl | hp
            · exact ⟨hok, Nat.lt_succ_self _⟩
            · exact ⟨(h.pair p hp).1, Nat.lt_succ_of_lt (h.pair p hp).2⟩
          · refine insP_sorted h.sort fun x hx e => ?_
            have := h.off x hx o ho
            have := (h.pair x hx).1
            simp only at e
            omega
          · intro p hp x hx
            rcases mem_insP.1 hp with rfl | hp
            · exact .inl (hd2.1 x hx)
            · exact h.off p hp x (hsub x hx)
          · intro p hp q hq hne
            rcases mem_insP.1 hp with rfl | hp
            · rcases mem_insP.1 hq with rfl | hq
              · exact absurd rfl hne
              · have := (h.pair q hq).2
                simp only
                omega
            · rcases mem_insP.1 hq with rfl | hq
              · have := (h.pair p hp).2
                have := h.off p hp o ho
                simp only
                omega
              · exact h.apart p hp q hq hne
/-- n opening ones, then n closing ones. -/
theorem bk_opens {n : Nat} (h1 : ∀ i, i < n → on i = true ∧ kd i = 1) : ∀ k, k ≤ n → k ≤ 63 → bkA on kd mt k = ⟨(List.range k).reverse, [], false⟩
  | 0, _, _ => rfl
  | k + 1, hk, h63 => by
    have h := h1 k (by omega)
    rw [bkA, bk_opens h1 k (by omega) (by omega), bkStep, if_neg (by rw [h.1, h.2]; simp), if_pos h.2, if_neg (by simp; omega), List.range_succ]
    simp
theorem bk_closes {n : Nat} (hn : n ≤ 63) (h1 : ∀ i, i < n → on i = true ∧ kd i = 1) (h2 : ∀ i, i < n → on (n + i) = true ∧ kd (n + i) = 2 ∧ ∀ o, o < n → mt o (n + i) = true) : ∀ k, k ≤ n → (bkA on kd mt (n + k)).st = (List.range (n - k)).reverse ∧ (bkA on kd mt (n + k)).out.length = k ∧ (bkA on kd mt (n + k)).stop = false
  | 0, _ => by rw [Nat.add_zero, bk_opens on kd mt h1 n (Nat.le_refl _) hn]; exact ⟨rfl, rfl, rfl⟩
  | k + 1, hk => by
    obtain ⟨i1, i2, i3⟩ := bk_closes hn h1 h2 k (by omega)
    obtain ⟨a, b, c⟩ := h2 k (by omega)
    obtain ⟨m, hm⟩ : ∃ m, n - k = m + 1 := ⟨n - (k + 1), by omega⟩
    have hst : (bkA on kd mt (n + k)).st = m :: (List.range m).reverse := by rw [i1, hm, List.range_succ]; simp
    have hpop : popTo (fun o => mt o (n + k)) (bkA on kd mt (n + k)).st = some (m, (List.range m).reverse) := by rw [hst, popTo, if_pos (c m (by omega))]
    rw [← Nat.add_assoc, bkA, bkStep, if_neg (by rw [a, b, i3]; simp), if_neg (by rw [b]; decide), hpop, show n - (k + 1) = m by omega]
    exact ⟨rfl, by simp only; rw [insP_len, i2], i3⟩
/-- One more than the stack holds: nothing is found. -/
theorem bk_over {n : Nat} (hn : 63 < n) (h1 : ∀ i, i < n → on i = true ∧ kd i = 1) : ∀ k, (bkA on kd mt (64 + k)).out = [] ∧ (bkA on kd mt (64 + k)).stop = true
  | 0 => by
    have h := h1 63 hn
    rw [show 64 + 0 = 63 + 1 from rfl, bkA, bk_opens on kd mt h1 63 (by omega) (by omega), bkStep, if_neg (by rw [h.1, h.2]; simp), if_pos h.2, if_pos (by simp)]
    exact ⟨rfl, rfl⟩
  | k + 1 => by
    obtain ⟨i1, i2⟩ := bk_over hn h1 k
    rw [← Nat.add_assoc, bkA, bkStep, if_pos (.inl i2)]
    exact ⟨i1, i2⟩
end
end Go.Proofs.YtdgomaoikeffhaaGreat
/- Pairs of brackets: their places are of the class that was asked. No function of the program. -/
namespace Go.Proofs.YtdgomaoikeffhaaGreat
open Go.RowKit

theorem bk_on (on : Nat → Bool) (kd : Nat → Int) (mt : Nat → Nat → Bool) : ∀ k, (∀ o ∈ (bkA on kd mt k).st, on o = true) ∧ ∀ p ∈ (bkA on kd mt k).out, on p.1 = true ∧ on p.2 = true
  | 0 => ⟨by simp [bkA], by simp [bkA]⟩
  | k + 1 => by
    obtain ⟨h1, h2⟩ := bk_on on kd mt k
    rw [bkA]
    generalize bkA on kd mt k = s at h1 h2
    unfold bkStep
    split
    · exact ⟨h1, h2⟩
    · rename_i hc
      have hk : on k = true := by
        cases h : on k with
        | true => rfl
        | false => exact absurd (.inr (.inl h)) hc
      split
      · split
        · exact ⟨h1, h2⟩
        · refine ⟨fun o ho => ?_, h2⟩
          rcases List.mem_cons.1 ho with rfl | ho
          · exact hk
          · exact h1 o ho
      · split
        · exact ⟨h1, h2⟩
        · rename_i o st hpop
          obtain ⟨_, pre, hst⟩ := popTo_some hpop
          refine ⟨fun x hx => h1 x (by rw [hst]; simp [hx]), fun p hp => ?_⟩
          rcases mem_insP.1 hp with rfl | hp
          · exact ⟨h1 o (by rw [hst]; simp), hk⟩
          · exact h2 p hp
end Go.Proofs.YtdgomaoikeffhaaGreat
/- Pairs of codes as data: the lists of mirrors, brackets and codes alike; what the project and the reference tell of them, as functions; they are the same. -/
namespace Go.Proofs.YtdgomaoikeffhaaGreat
open Go.RowKit

def mirL : List Sp := [(40, 41), (60, 62), (91, 93), (123, 125), (171, 187), (3898, 3899), (8249, 8250), (8261, 8262), (8317, 8318), (8333, 8334), (8712, 8715), (8804, 8805), (8810, 8811), (9001, 9002), (10088, 10089), (10090, 10091), (10092, 10093), (10094, 10095), (10096, 10097), (10098, 10099), (10100, 10101), (10214, 10215), (10216, 10217), (10218, 10219), (10220, 10221), (10222, 10223), (10627, 10628), (10629, 10630), (10631, 10632), (10633, 10634), (10635, 10636), (10641, 10642), (12296, 12297), (12298, 12299), (12300, 12301), (12302, 12303), (12304, 12305), (12308, 12309), (12310, 12311), (12312, 12313), (12314, 12315), (65113, 65114), (65115, 65116), (65117, 65118), (65124, 65125), (65288, 65289), (65308, 65310), (65339, 65341), (65371, 65373), (65375, 65376), (65378, 65379)]
def braL : List Sp := [(40, 41), (91, 93), (123, 125), (3898, 3899), (8261, 8262), (8317, 8318), (8333, 8334), (9001, 9002), (10088, 10089), (10090, 10091), (10092, 10093), (10094, 10095), (10096, 10097), (10098, 10099), (10100, 10101), (10214, 10215), (10216, 10217), (10218, 10219), (10220, 10221), (10222, 10223), (10627, 10628), (10629, 10630), (10631, 10632), (10633, 10634), (10635, 10636), (10641, 10642), (12296, 12297), (12298, 12299), (12300, 12301), (12302, 12303), (12304, 12305), (12308, 12309), (12310, 12311), (12312, 12313), (12314, 12315), (65113, 65114), (65115, 65116), (65117, 65118), (65288, 65289), (65339, 65341), (65371, 65373), (65375, 65376), (65378, 65379)]
def aliL : List Sp := [(9001, 12296), (9002, 12297)]
/-- What find tells: the first pair that fits, and whether there is one. -/
def hitP (P : Sp → Bool) (l : List Sp) : Int × Int × Bool := match l.find? P with | some s => (s.1, s.2, true) | none => (0, 0, false)
def opP (c : Int) (s : Sp) : Bool := decide (s.1 = c)
def clP (c : Int) (s : Sp) : Bool := decide (s.2 = c)
def mirF (c : Int) : Int := if (hitP (opP c) mirL).2.2 = true then (hitP (opP c) mirL).2.1 else if (hitP (clP c) mirL).2.2 = true then (hitP (clP c) mirL).1 else c
def canF (c : Int) : Int := if (hitP (opP c) aliL).2.2 = true then (hitP (opP c) aliL).2.1 else c
def braF (c : Int) : Int × Int := if (hitP (opP c) braL).2.2 = true then (1, canF (hitP (opP c) braL).2.1) else if (hitP (clP c) braL).2.2 = true then (2, canF c) else (0, 0)
def bmF (a b : Int) : Bool := decide ((braF a).1 = 1 ∧ (braF b).1 = 2 ∧ (braF a).2 = (braF b).2)
def mirR (c : Int) : List Sp → Int
  | [] => c
  | s :: l => if s.1 = c then s.2 else if s.2 = c then s.1 else mirR c l
def canR (c : Int) : List Sp → Int
  | [] => c
  | s :: l => if s.1 = c then s.2 else canR c l
def braR (c : Int) : List Sp → Int × Int
  | [] => (0, 0)
  | s :: l => if s.1 = c then (1, canR s.2 aliL) else if s.2 = c then (2, canR c aliL) else braR c l

/-- The codes of pairs. -/
def codesP (l : List Sp) : List Int := l.flatMap fun s => [s.1, s.2]
theorem apartP {c : Int} {l : List Sp} (h : c ∉ codesP l) {s : Sp} (hs : s ∈ l) : s.1 ≠ c ∧ s.2 ≠ c := by
  refine ⟨fun e => h ?_, fun e => h ?_⟩
  · exact List.mem_flatMap.2 ⟨s, hs, by simp [e]⟩
  · exact List.mem_flatMap.2 ⟨s, hs, by simp [e]⟩
theorem hit_none {P : Sp → Bool} {l : List Sp} (h : ∀ s ∈ l, P s = false) : hitP P l = (0, 0, false) := by
  unfold hitP
  rw [List.find?_eq_none.2 (fun s hs => by rw [h s hs]; decide)]
theorem op_apart {c : Int} {l : List Sp} (h : c ∉ codesP l) : hitP (opP c) l = (0, 0, false) := hit_none fun s hs => by simp [opP, (apartP h hs).1]
theorem cl_apart {c : Int} {l : List Sp} (h : c ∉ codesP l) : hitP (clP c) l = (0, 0, false) := hit_none fun s hs => by simp [clP, (apartP h hs).2]
theorem mirR_apart {c : Int} {l : List Sp} (h : ∀ s ∈ l, s.1 ≠ c ∧ s.2 ≠ c) : mirR c l = c := by
  induction l with
  | nil => rfl
  | cons s l ih =>
    have := h s (by simp)
    rw [mirR, if_neg this.1, if_neg this.2]
    exact ih fun t ht => h t (by simp [ht])
theorem canR_apart {c : Int} {l : List Sp} (h : ∀ s ∈ l, s.1 ≠ c ∧ s.2 ≠ c) : canR c l = c := by
  induction l with
  | nil => rfl
  | cons s l ih =>
    have := h s (by simp)
    rw [canR, if_neg this.1]
    exact ih fun t ht => h t (by simp [ht])
theorem braR_apart {c : Int} {l : List Sp} (h : ∀ s ∈ l, s.1 ≠ c ∧ s.2 ≠ c) : braR c l = (0, 0) := by
  induction l with
  | nil => rfl
  | cons s l ih =>
    have := h s (by simp)
    rw [braR, if_neg this.1, if_neg this.2]
    exact ih fun t ht => h t (by simp [ht])
theorem byCodes {α : Type} [DecidableEq α] (l : List Sp) (f g : Int → α) (hin : ((codesP l).all fun c => decide (f c = g c)) = true) (hout : ∀ c, c ∉ codesP l → f c = g c) (c : Int) : f c = g c := by
  by_cases h : c ∈ codesP l
  · simpa using List.all_eq_true.1 hin c h
  · exact hout c h
theorem canF_apart {c : Int} (h : c ∉ codesP aliL) : canF c = c := by rw [canF, op_apart h]; rfl
theorem mirF_apart {c : Int} (h : c ∉ codesP mirL) : mirF c = c := by rw [mirF, op_apart h, cl_apart h]; rfl
theorem braF_apart {c : Int} (h : c ∉ codesP braL) : braF c = (0, 0) := by rw [braF, op_apart h, cl_apart h]; rfl
theorem canF_eq (c : Int) : canF c = canR c aliL := byCodes aliL canF (fun c => canR c aliL) (by decide +kernel) (fun c h => by rw [canF_apart h, canR_apart fun s hs => apartP h hs]) c
theorem mirF_eq (c : Int) : mirF c = mirR c mirL := byCodes mirL mirF (fun c => mirR c mirL) (by decide +kernel) (fun c h => by rw [mirF_apart h, mirR_apart fun s hs => apartP h hs]) c
theorem braF_eq (c : Int) : braF c = braR c braL := byCodes braL braF (fun c => braR c braL) (by decide +kernel) (fun c h => by rw [braF_apart h, braR_apart fun s hs => apartP h hs]) c
theorem mirF_back (c : Int) : mirF (mirF c) = c := byCodes mirL (fun c => mirF (mirF c)) id (by decide +kernel) (fun c h => by simp only [mirF_apart h, id]) c
theorem canF_back (c : Int) : canF (canF c) = canF c := byCodes aliL (fun c => canF (canF c)) canF (by decide +kernel) (fun c h => by simp only [canF_apart h]) c
theorem bmF_iff (a b : Int) : bmF a b = true ↔ ((braF a).1 = 1 ∧ (braF b).1 = 2 ∧ (braF a).2 = (braF b).2) := by simp [bmF]
theorem bmF_back (a b : Int) (h : bmF a b = true) : (braF a).1 = 1 ∧ (braF b).1 = 2 ∧ bmF b a = false := by
  have h1 := (bmF_iff a b).1 h
  refine ⟨h1.1, h1.2.1, ?_⟩
  rw [Bool.eq_false_iff]
  intro h2
  have := ((bmF_iff b a).1 h2).1
  rw [h1.2.1] at this
  exact absurd this (by decide)
theorem bmF_of {a b p v p' v' : Int} (h1 : braF a = (p, v)) (h2 : braF b = (p', v')) : bmF a b = decide (p = 1 ∧ p' = 2 ∧ v = v') := by unfold bmF; rw [h1, h2]
end Go.Proofs.YtdgomaoikeffhaaGreat
/- The pairs of brackets of codes and their classes; numbers at places. No function of the program. -/
namespace Go.Proofs.YtdgomaoikeffhaaGreat
open Go.RowKit

/-- The numbers at some places. -/
def atF (l : List Int) (P : List Nat) : List Int := P.map fun i => l.getD i 0
theorem atF_len (l : List Int) (P : List Nat) : (atF l P).length = P.length := by simp [atF]
theorem atF_at {l : List Int} {P : List Nat} {k i : Nat} (h : P[k]? = some i) : (atF l P)[k]? = some (l.getD i 0) := by unfold atF; rw [List.getElem?_map, h]; rfl
/-- The pairs of brackets of codes and their classes. -/
def bkF (cs l : List Int) : List (Nat × Nat) := if cs.length = l.length then (bkA (fun i => decide (l.getD i 0 = 13)) (fun i => (braF (cs.getD i 0)).1) (fun o i => bmF (cs.getD o 0) (cs.getD i 0)) cs.length).out else []
theorem bkF_on {cs l : List Int} {p : Nat × Nat} (h : p ∈ bkF cs l) : l.getD p.1 0 = 13 ∧ l.getD p.2 0 = 13 := by
  unfold bkF at h
  split at h
  · obtain ⟨h1, h2⟩ := (bk_on _ _ _ cs.length).2 p h
    exact ⟨of_decide_eq_true h1, of_decide_eq_true h2⟩
  · cases h
end Go.Proofs.YtdgomaoikeffhaaGreat
/- A stack of places as a row: the first one first; a row's head. No function of the program. -/
namespace Go.Proofs.YtdgomaoikeffhaaGreat
open Go.RowKit

def intV (x : Int) : Value := .int .i64 x
theorem intSliceM : SliceOf Tryz.prog 22 3 1 8 := .mk_ (z := .int .i64 0) Tryz.underlying22 (by kernel_rfl) rfl
/-- The stack, as the program lays it: the first one first. -/
def stkL (s : List Nat) : List Int := s.reverse.map fun i => ((i : Nat) : Int)
theorem stkL_len (s : List Nat) : (stkL s).length = s.length := by simp [stkL]
theorem stkL_push (k : Nat) (s : List Nat) : stkL (k :: s) = stkL s ++ [((k : Nat) : Int)] := by simp [stkL]
theorem stkL_top (t : Nat) (r : List Nat) : (stkL (t :: r))[r.length]? = some ((t : Nat) : Int) := by
  rw [stkL_push, List.getElem?_append_right (by rw [stkL_len]; exact Nat.le_refl _), stkL_len, Nat.sub_self]
  rfl
theorem stkL_take (t : Nat) (r : List Nat) : (stkL (t :: r)).take r.length = stkL r := by
  rw [stkL_push, List.take_append_of_le_length (by rw [stkL_len]; exact Nat.le_refl _), ← stkL_len, List.take_length]
theorem headM {w : World} {base : Nat} {e : TypeId} {size g n m cap : Nat} {xs : List Value} (h : w.ownsRow base e size (.slice (some ⟨g, 0, none⟩) n cap) n xs) (hm : m ≤ n) : w.ownsRow base e size (.slice (some ⟨g, 0, none⟩) m cap) m (xs.take (m * size)) := by
  obtain ⟨h1, h2⟩ := h
  refine ⟨by rw [List.length_take, h1]; exact Nat.min_eq_left (Nat.mul_le_mul_right _ hm), ?_⟩
  rcases h2 with ⟨h', _⟩ | ⟨g', cap', cur, h', hb, hg, hnc, hcm, hcs, htake⟩
  · simp at h'
  · simp only [Value.slice.injEq, Option.some.injEq, Addr.mk.injEq, and_true, true_and] at h'
    obtain ⟨rfl, rfl⟩ := h'
    refine .inr ⟨g, cap, cur, rfl, hb, hg, Nat.le_trans hm hnc, hcm, hcs, ?_⟩
    rw [← htake, List.take_take, Nat.min_eq_left (Nat.mul_le_mul_right _ hm)]
end Go.Proofs.YtdgomaoikeffhaaGreat
/- neutral's Neutral, odd, above, Implicit, pick, walked. -/
namespace Go.Proofs.YtdgomaoikeffhaaGreat
open Go.RowKit

set_option maxRecDepth 100000 in
theorem nuNeu_10 (w : World) : Calls Tryz.prog 101 #[.int .i64 10] w fun e w' => e = .returned (.bool true) ∧ w = w' := by
  go_enter Tryz.func101, Tryz.ntmps101
  go_wp2; go_ret; exact ⟨rfl, rfl⟩
set_option maxRecDepth 100000 in
theorem nuNeu_11 (w : World) : Calls Tryz.prog 101 #[.int .i64 11] w fun e w' => e = .returned (.bool true) ∧ w = w' := by
  go_enter Tryz.func101, Tryz.ntmps101
  go_wp2; go_ret; exact ⟨rfl, rfl⟩
set_option maxRecDepth 100000 in
theorem nuNeu_12 (w : World) : Calls Tryz.prog 101 #[.int .i64 12] w fun e w' => e = .returned (.bool true) ∧ w = w' := by
  go_enter Tryz.func101, Tryz.ntmps101
  go_wp2; go_ret; exact ⟨rfl, rfl⟩
set_option maxRecDepth 100000 in
theorem nuNeu_13 (w : World) : Calls Tryz.prog 101 #[.int .i64 13] w fun e w' => e = .returned (.bool true) ∧ w = w' := by
  go_enter Tryz.func101, Tryz.ntmps101
  go_wp2; go_ret; exact ⟨rfl, rfl⟩
set_option maxRecDepth 100000 in
theorem nuNeu_19 (w : World) : Calls Tryz.prog 101 #[.int .i64 19] w fun e w' => e = .returned (.bool true) ∧ w = w' := by
  go_enter Tryz.func101, Tryz.ntmps101
  go_wp2; go_ret; exact ⟨rfl, rfl⟩
set_option maxRecDepth 100000 in
theorem nuNeu_20 (w : World) : Calls Tryz.prog 101 #[.int .i64 20] w fun e w' => e = .returned (.bool true) ∧ w = w' := by
  go_enter Tryz.func101, Tryz.ntmps101
  go_wp2; go_ret; exact ⟨rfl, rfl⟩
set_option maxRecDepth 100000 in
theorem nuNeu_21 (w : World) : Calls Tryz.prog 101 #[.int .i64 21] w fun e w' => e = .returned (.bool true) ∧ w = w' := by
  go_enter Tryz.func101, Tryz.ntmps101
  go_wp2; go_ret; exact ⟨rfl, rfl⟩
set_option maxRecDepth 100000 in
theorem nuNeu_22 (w : World) : Calls Tryz.prog 101 #[.int .i64 22] w fun e w' => e = .returned (.bool true) ∧ w = w' := by
  go_enter Tryz.func101, Tryz.ntmps101
  go_wp2; go_ret; exact ⟨rfl, rfl⟩
set_option maxRecDepth 100000 in
theorem nuNeu_any (x : Int) (b : Bool) (hb : neuB x = b) (w : World) : Calls Tryz.prog 101 #[.int .i64 x] w fun e w' => e = .returned (.bool b) ∧ w = w' := by
  by_cases h : x = 10 ∨ x = 11 ∨ x = 12 ∨ x = 13 ∨ x = 19 ∨ x = 20 ∨ x = 21 ∨ x = 22
  · have hbt : b = true := by
      rw [← hb]
      rcases h with rfl | rfl | rfl | rfl | rfl | rfl | rfl | rfl <;> rfl
    subst hbt
    rcases h with rfl | rfl | rfl | rfl | rfl | rfl | rfl | rfl
    · exact nuNeu_10 w
    · exact nuNeu_11 w
    · exact nuNeu_12 w
    · exact nuNeu_13 w
    · exact nuNeu_19 w
    · exact nuNeu_20 w
    · exact nuNeu_21 w
    · exact nuNeu_22 w
  · have hbf : b = false := by
      rw [← hb]
      unfold neuB
      simp
      omega
    subst hbf
    have g10 : (x == 10) = false := by simp; omega
    have g11 : (x == 11) = false := by simp; omega
    have g12 : (x == 12) = false := by simp; omega
    have g13 : (x == 13) = false := by simp; omega
    have g19 : (x == 19) = false := by simp; omega
    have g20 : (x == 20) = false := by simp; omega
    have g21 : (x == 21) = false := by simp; omega
    have g22 : (x == 22) = false := by simp; omega
    clear h hb
    go_enter Tryz.func101, Tryz.ntmps101
    go_wp2; go_ret; exact ⟨rfl, rfl⟩
set_option maxRecDepth 100000 in
theorem nuOdd_any (n y : Int) (hy : n % 2 = y) (w : World) : Calls Tryz.prog 77 #[.int .i64 n] w fun e w' => e = .returned (.bool (y == 1)) ∧ w = w' := by
  have hbit : bits .and .i64 n 1 = y := by rw [and1_i64, hy]
  clear hy
  go_enter Tryz.func77, Tryz.ntmps77
  go_wp2
  go_ret
  exact ⟨rfl, rfl⟩
/-- By how much a class lies above a level. -/
def abF (c level : Int) : Int := if level % 2 = 0 then (if c = 1 then 1 else if c = 3 ∨ c = 6 then 2 else 0) else (if c = 0 ∨ c = 3 ∨ c = 6 then 1 else 0)
theorem imp_ab (c level : Int) : impF c level = level + abF c level := by
  unfold impF abF
  repeat' split
  all_goals omega
theorem ab_in (c level : Int) : 0 ≤ abF c level ∧ abF c level ≤ 2 := by
  unfold abF
  repeat' split
  all_goals omega
set_option maxRecDepth 100000 in
theorem nuAbove_any (c level v : Int) (hv : abF c level = v) (w : World) : Calls Tryz.prog 47 #[.int .i64 c, .int .i64 level] w fun e w' => e = .returned (.int .i64 v) ∧ w = w' := by
  unfold abF at hv
  obtain ⟨y, hy⟩ : ∃ y, level % 2 = y := ⟨_, rfl⟩
  have HO := Lib.hid (fun W => nuOdd_any level y hy W)
  have hy2 : y = 0 ∨ y = 1 := by omega
  rw [hy] at hv
  clear hy
  rcases hy2 with h0 | h0
  · subst h0
    rw [if_pos (by omega)] at hv
    by_cases h : c = 0 ∨ c = 1 ∨ c = 3 ∨ c = 6
    · rcases h with rfl | rfl | rfl | rfl
      · obtain rfl : v = 0 := by simpa using hv.symm
        go_enter Tryz.func47, Tryz.ntmps47
        go_wp2_with (first
          | (go_at_call 77; refine (HO.out _).mono ?_; rintro e w1 ⟨rfl, rfl⟩)
          | fail)
        go_ret
        exact ⟨rfl, rfl⟩
      · obtain rfl : v = 1 := by simpa using hv.symm
        go_enter Tryz.func47, Tryz.ntmps47
        go_wp2_with (first
          | (go_at_call 77; refine (HO.out _).mono ?_; rintro e w1 ⟨rfl, rfl⟩)
          | fail)
        go_ret
        exact ⟨rfl, rfl⟩
      · obtain rfl : v = 2 := by simpa using hv.symm
        go_enter Tryz.func47, Tryz.ntmps47
        go_wp2_with (first
          | (go_at_call 77; refine (HO.out _).mono ?_; rintro e w1 ⟨rfl, rfl⟩)
          | fail)
        go_ret
        exact ⟨rfl, rfl⟩
      · obtain rfl : v = 2 := by simpa using hv.symm
        go_enter Tryz.func47, Tryz.ntmps47
        go_wp2_with (first
          | (go_at_call 77; refine (HO.out _).mono ?_; rintro e w1 ⟨rfl, rfl⟩)
          | fail)
        go_ret
        exact ⟨rfl, rfl⟩
    · obtain rfl : v = 0 := by
        rw [← hv]
        repeat rw [if_neg (by omega)]
      have g0 : (c == 0) = false := by simp; omega
      have g1 : (c == 1) = false := by simp; omega
      have g3 : (c != 3) = true := by simp; omega
      have g6 : (c != 6) = true := by simp; omega
      clear h
      go_enter Tryz.func47, Tryz.ntmps47
      go_wp2_with (first
        | (go_at_call 77; refine (HO.out _).mono ?_; rintro e w1 ⟨rfl, rfl⟩)
        | fail)
      go_ret
      exact ⟨rfl, rfl⟩
  · subst h0
    rw [if_neg (by omega)] at hv
    by_cases h : c = 0 ∨ c = 1 ∨ c = 3 ∨ c = 6
    · rcases h with rfl | rfl | rfl | rfl
      · obtain rfl : v = 1 := by simpa using hv.symm
        go_enter Tryz.func47, Tryz.ntmps47
        go_wp2_with (first
          | (go_at_call 77; refine (HO.out _).mono ?_; rintro e w1 ⟨rfl, rfl⟩)
          | fail)
        go_ret
        exact ⟨rfl, rfl⟩
      · obtain rfl : v = 0 := by simpa using hv.symm
        go_enter Tryz.func47, Tryz.ntmps47
        go_wp2_with (first
          | (go_at_call 77; refine (HO.out _).mono ?_; rintro e w1 ⟨rfl, rfl⟩)
          | fail)
        go_ret
        exact ⟨rfl, rfl⟩
      · obtain rfl : v = 1 := by simpa using hv.symm
        go_enter Tryz.func47, Tryz.ntmps47
        go_wp2_with (first
          | (go_at_call 77; refine (HO.out _).mono ?_; rintro e w1 ⟨rfl, rfl⟩)
          | fail)
        go_ret
        exact ⟨rfl, rfl⟩
      · obtain rfl : v = 1 := by simpa using hv.symm
        go_enter Tryz.func47, Tryz.ntmps47
        go_wp2_with (first
          | (go_at_call 77; refine (HO.out _).mono ?_; rintro e w1 ⟨rfl, rfl⟩)
          | fail)
        go_ret
        exact ⟨rfl, rfl⟩
    · obtain rfl : v = 0 := by
        rw [← hv]
        repeat rw [if_neg (by omega)]
      have g0 : (c == 0) = false := by simp; omega
      have g1 : (c == 1) = false := by simp; omega
      have g3 : (c != 3) = true := by simp; omega
      have g6 : (c != 6) = true := by simp; omega
      clear h
      go_enter Tryz.func47, Tryz.ntmps47
      go_wp2_with (first
        | (go_at_call 77; refine (HO.out _).mono ?_; rintro e w1 ⟨rfl, rfl⟩)
        | fail)
      go_ret
      exact ⟨rfl, rfl⟩
set_option maxRecDepth 100000 in
theorem nuImp_any (c level v : Int) (hv : impF c level = v) (h0 : 0 ≤ level) (h1 : level ≤ 1000) (w : World) : Calls Tryz.prog 28 #[.int .i64 c, .int .i64 level] w fun e w' => e = .returned (.int .i64 v) ∧ w = w' := by
  rw [imp_ab] at hv
  obtain ⟨a, ha⟩ : ∃ a, abF c level = a := ⟨_, rfl⟩
  have HA := Lib.hid (fun W => nuAbove_any c level a ha W)
  have hai := ab_in c level
  rw [ha] at hv hai
  obtain ⟨q, hq⟩ : ∃ q : Int, 9223372036854775807 - a = q := ⟨_, rfl⟩
  have hw : IntKind.i64.wrap (9223372036854775807 - a) = q := by rw [IntKind.wrap_i64]; omega
  have hlt : ¬ q < level := by omega
  have hadd : level + a = v := hv
  clear ha hv hq
  go_enter Tryz.func28, Tryz.ntmps28
  go_wp2_with (first
    | (go_at_call 47; refine (HA.out _).mono ?_; rintro e w1 ⟨rfl, rfl⟩)
    | fail)
  go_ret
  exact ⟨rfl, rfl⟩
end Go.Proofs.YtdgomaoikeffhaaGreat
/- brack's side, sideOf, between and Inside, walked. -/
namespace Go.Proofs.YtdgomaoikeffhaaGreat
open Go.RowKit

/-- Which sides there are in classes. -/
def insS (l : List Int) (level : Int) : Bool × Bool := (l.any fun x => decide (sideF x = ofL level), l.any fun x => decide (0 ≤ sideF x ∧ sideF x ≠ ofL level))
theorem ins_sub {l : List Int} {lo hi : Nat} (level : Int) (h2 : hi ≤ l.length) : insF l ((lo : Int) - 1) hi level = insS ((l.take hi).drop lo) level := by
  have key : ∀ P : Int → Bool, ((List.range l.length).any fun i => decide ((lo : Int) - 1 < (i : Int) ∧ (i : Int) < hi) && P (l.getD i 0)) = ((l.take hi).drop lo).any P := by
    intro P
    rw [Bool.eq_iff_iff, List.any_eq_true, List.any_eq_true]
    constructor
    · rintro ⟨i, hi', h⟩
      rw [List.mem_range] at hi'
      rw [Bool.and_eq_true, decide_eq_true_eq] at h
      obtain ⟨⟨a, b⟩, c⟩ := h
      refine ⟨l.getD i 0, List.mem_of_getElem? (i := i - lo) ?_, c⟩
      rw [List.getElem?_drop, show lo + (i - lo) = i by omega, List.getElem?_take_of_lt (by omega), List.getD_eq_getElem?_getD, List.getElem?_eq_getElem hi']
      rfl
    · rintro ⟨x, hx, h⟩
      obtain ⟨i, hi'⟩ := List.getElem?_of_mem hx
      rw [List.getElem?_drop] at hi'
      have hl := (List.getElem?_eq_some_iff.1 hi').1
      rw [List.length_take] at hl
      rw [List.getElem?_take_of_lt (by omega)] at hi'
      refine ⟨lo + i, by rw [List.mem_range]; omega, ?_⟩
      rw [Bool.and_eq_true, decide_eq_true_eq, List.getD_eq_getElem?_getD, hi']
      exact ⟨by omega, h⟩
  unfold insF insS
  rw [← key, ← key]
  congr 1
  · congr 1
    funext i
    rw [Bool.eq_iff_iff]
    simp only [Bool.and_eq_true, decide_eq_true_eq]
    constructor
    · rintro ⟨a, b, c⟩; exact ⟨⟨a, b⟩, c⟩
    · rintro ⟨⟨a, b⟩, c⟩; exact ⟨a, b, c⟩
  · congr 1
    funext i
    rw [Bool.eq_iff_iff]
    simp only [Bool.and_eq_true, decide_eq_true_eq]
    constructor
    · rintro ⟨a, b, c⟩; exact ⟨⟨a, b⟩, c⟩
    · rintro ⟨⟨a, b⟩, c⟩; exact ⟨a, b, c⟩
theorem insS_step {l : List Int} {k : Nat} {x level : Int} {a b : Bool} (hx : l[k]? = some x) (h : insS (l.take k) level = (a, b)) : insS (l.take (k + 1)) level = (a || decide (sideF x = ofL level), b || decide (0 ≤ sideF x ∧ sideF x ≠ ofL level)) := by
  unfold insS at h ⊢
  injection h with h1 h2
  rw [List.take_add_one, hx, Option.toList_some, List.any_append, List.any_append, h1, h2]
  simp
set_option maxRecDepth 100000 in
theorem bkSide_any (x v : Int) (hv : sideF x = v) (w : World) : Calls Tryz.prog 118 #[.int .i64 x] w fun e w' => e = .returned (.int .i64 v) ∧ w = w' := by
  unfold sideF at hv
  by_cases h0 : x = 0
  · subst h0
    rw [if_pos rfl] at hv
    subst hv
    go_enter Tryz.func118, Tryz.ntmps118
    go_wp2; go_ret; exact ⟨rfl, rfl⟩
  · rw [if_neg h0] at hv
    have g0 : (x == 0) = false := by simp [h0]
    by_cases h1 : x = 1
    · subst h1
      rw [if_pos (.inl rfl)] at hv
      subst hv
      clear h0 g0
      go_enter Tryz.func118, Tryz.ntmps118
      go_wp2; go_ret; exact ⟨rfl, rfl⟩
    · have g1 : (x == 1) = false := by simp [h1]
      by_cases h3 : x = 3
      · subst h3
        rw [if_pos (.inr (.inl rfl))] at hv
        subst hv
        clear h0 h1 g0 g1
        go_enter Tryz.func118, Tryz.ntmps118
        go_wp2; go_ret; exact ⟨rfl, rfl⟩
      · have g3 : (x == 3) = false := by simp [h3]
        by_cases h6 : x = 6
        · subst h6
          rw [if_pos (.inr (.inr rfl))] at hv
          subst hv
          clear h0 h1 h3 g0 g1 g3
          go_enter Tryz.func118, Tryz.ntmps118
          go_wp2; go_ret; exact ⟨rfl, rfl⟩
        · have g6 : (x == 6) = false := by simp [h6]
          rw [if_neg (by omega)] at hv
          subst hv
          clear h0 h1 h3 h6
          go_enter Tryz.func118, Tryz.ntmps118
          go_wp2; go_ret; exact ⟨rfl, rfl⟩
set_option maxRecDepth 100000 in
theorem bkSideOf_any (n v : Int) (hv : ofL n = v) (w : World) : Calls Tryz.prog 99 #[.int .i64 n] w fun e w' => e = .returned (.int .i64 v) ∧ w = w' := by
  obtain ⟨y, hy⟩ : ∃ y, n % 2 = y := ⟨_, rfl⟩
  have hbit : bits .and .i64 n 1 = y := by rw [and1_i64, hy]
  have hy2 : y = 0 ∨ y = 1 := by omega
  unfold ofL at hv
  rw [hy] at hv
  clear hy
  rcases hy2 with h0 | h0
  · rw [if_pos h0] at hv
    subst hv
    rw [h0] at hbit
    clear h0
    go_enter Tryz.func99, Tryz.ntmps99
    go_wp2; go_ret; exact ⟨rfl, rfl⟩
  · rw [if_neg (by omega)] at hv
    subst hv
    rw [h0] at hbit
    clear h0
    go_enter Tryz.func99, Tryz.ntmps99
    go_wp2; go_ret; exact ⟨rfl, rfl⟩
/-- What lies between lo and hi. -/
def cutV (A : Option Addr) (c lo hi : Nat) : Value := .slice (if c = lo then A else A.map (·.add lo)) (hi - lo) (c - lo)
set_option maxRecDepth 100000 in
set_option maxHeartbeats 2000000 in
theorem bkBetween_any (A : Option Addr) (n c lo hi : Nat) (h1 : lo ≤ n) (h2 : lo ≤ hi) (h3 : hi ≤ n) (h4 : n ≤ c) (hn : n ≤ 1000000) (w : World) :
    Calls Tryz.prog 117 #[.slice A n c, .agg #[.int .i64 ((lo : Int) - 1), .int .i64 (hi : Int)]] w fun e w' => e = .returned (cutV A c lo hi) ∧ Below w.heap.size w w' := by
  have hb := below_new w (.cells #[.int .i64 ((lo : Int) - 1), .int .i64 (hi : Int)] 128)
  have hbx := heap_alloc_new w (.cells #[.int .i64 ((lo : Int) - 1), .int .i64 (hi : Int)] 128)
  obtain ⟨o, ho⟩ : ∃ o : Int, (lo : Int) - 1 = o := ⟨_, rfl⟩
  rw [ho] at hb hbx ⊢
  obtain ⟨wo, hwo⟩ : ∃ wo, w.alloc (.cells #[.int .i64 o, .int .i64 (hi : Int)] 128) = wo := ⟨_, rfl⟩
  rw [hwo] at hb hbx
  have c0 := hp_cell (j := 0) hbx rfl
  have c1 := hp_cell (j := 1) hbx rfl
  have m1 : (if o < -1 then -1 else o) = o := by rw [if_neg (by omega)]
  have m2 : (if (n : Int) - 1 < o then (n : Int) - 1 else o) = o := by rw [if_neg (by omega)]
  have m3 : o + 1 = (lo : Int) := by omega
  have m4 : (if (hi : Int) < (lo : Int) then (lo : Int) else (hi : Int)) = (hi : Int) := by rw [if_neg (by omega)]
  have m5 : (if (n : Int) < (hi : Int) then (n : Int) else (hi : Int)) = (hi : Int) := by rw [if_neg (by omega)]
  have HB := Lib.hid (show Below w.heap.size w (w.alloc (.cells #[.int .i64 o, .int .i64 (hi : Int)] 128)) by rw [hwo]; exact hb)
  subst hwo
  clear ho hbx hb
  go_enter Tryz.func117, Tryz.ntmps117
  go_wp2
  · go_ret
    exact ⟨by simp [cutV], HB.out⟩
  · go_ret
    exact ⟨by simp [cutV, h], HB.out⟩
theorem cutV_rd {A : Option Addr} {n c lo hi : Nat} {l : List Int} {w : World} (hr : Rd w 1 A n (l.map (Value.int .i64))) (h2 : lo ≤ hi) (h3 : hi ≤ n) (h4 : n ≤ c) : Rd w 1 (if c = lo then A else A.map (·.add lo)) (hi - lo) (((l.take hi).drop lo).map (Value.int .i64)) := by
  have hl : l.length = n := by simpa using hr.len1
  have h := hr.cut (show lo ≤ n by omega) h4
  simp only [Nat.mul_one] at h
  refine ⟨by simp; omega, fun h0 => ?_⟩
  obtain ⟨ad, e, hb, hc⟩ := h.2 (by omega)
  refine ⟨ad, e, hb, fun j u hj => hc j u ?_⟩
  have hj2 := (List.getElem?_eq_some_iff.1 hj).1
  rw [List.length_map, List.length_drop, List.length_take] at hj2
  rw [List.getElem?_map, List.getElem?_drop, List.getElem?_take_of_lt (by omega)] at hj
  rw [List.getElem?_drop, List.getElem?_map]
  exact hj
set_option maxRecDepth 100000 in
set_option maxHeartbeats 2000000 in
theorem bkInside_any (A : Option Addr) (n c lo hi : Nat) (l : List Int) (level : Int) (va vb : Bool) (hv : insS ((l.take hi).drop lo) level = (va, vb)) (h2 : lo ≤ hi) (h3 : hi ≤ n) (h4 : n ≤ c) (hn : n ≤ 1000000) (w : World) (hr : Rd w 1 A n (l.map (Value.int .i64))) :
    Calls Tryz.prog 98 #[.slice A n c, .agg #[.int .i64 ((lo : Int) - 1), .int .i64 (hi : Int)], .int .i64 level] w fun e w' => e = .returned (.tuple #[.bool va, .bool vb]) ∧ Below w.heap.size w w' := by
  have hb := below_new w (.cells #[.int .i64 ((lo : Int) - 1), .int .i64 (hi : Int)] 128)
  have hbx := heap_alloc_new w (.cells #[.int .i64 ((lo : Int) - 1), .int .i64 (hi : Int)] 128)
  have HC := Lib.hid (fun W => bkBetween_any A n c lo hi (by omega) h2 h3 h4 hn W)
  have HRC := Lib.hid (cutV_rd hr h2 h3 h4)
  obtain ⟨o, ho⟩ : ∃ o : Int, (lo : Int) - 1 = o := ⟨_, rfl⟩
  rw [ho] at hb hbx HC ⊢
  obtain ⟨D, hD⟩ : ∃ D, (if c = lo then A else A.map (·.add lo)) = D := ⟨_, rfl⟩
  obtain ⟨m, hm⟩ : ∃ m, hi - lo = m := ⟨_, rfl⟩
  obtain ⟨d, hd⟩ : ∃ d, c - lo = d := ⟨_, rfl⟩
  unfold cutV at HC
  rw [hD, hm, hd] at HC
  rw [hD, hm] at HRC
  obtain ⟨S, hS⟩ : ∃ S, (l.take hi).drop lo = S := ⟨_, rfl⟩
  rw [hS] at HRC hv
  have hm6 : m ≤ 1000000 := by omega
  have hSl : S.length = m := by simpa using HRC.out.len1
  have HSL := Lib.hid hSl
  have HV := Lib.hid hv
  obtain ⟨s, hs⟩ : ∃ s, ofL level = s := ⟨_, rfl⟩
  have HS := Lib.hid hs
  have HSO := Lib.hid (fun W => bkSideOf_any level s hs W)
  have hs01 : s = 0 ∨ s = 1 := by rw [← hs]; exact ofL_in level
  obtain ⟨wo, hwo⟩ : ∃ wo, w.alloc (.cells #[.int .i64 o, .int .i64 (hi : Int)] 128) = wo := ⟨_, rfl⟩
  rw [hwo] at hb hbx
  have c0 : wo.cell? ⟨w.heap.size, 0, none⟩ = some (.int .i64 o) := hp_cell (j := 0) hbx rfl
  have c1 : wo.cell? ⟨w.heap.size, 1, none⟩ = some (.int .i64 (hi : Int)) := hp_cell (j := 1) hbx rfl
  subst hwo
  clear ho hbx hD hm hd hS hSl hv hs hr h2 h3 h4
  go_enter Tryz.func98, Tryz.ntmps98
  go_wp2_with (first
    | (go_at_call 117; refine (HC.out _).mono ?_; rintro e w2 ⟨rfl, hb2⟩)
    | fail)
  have HB2 := Lib.hid (hb.trans (hb2.mono hb.size))
  have HR2 := Lib.hid (HRC.out.below HB2.out)
  clear hb hb2 c0 c1
  go_loopw [8, 9, 16] (fun a b i wr => wr = w2 ∧ ∃ (k : Nat) (ba bb : Bool), k ≤ m ∧ i = .int .i64 (k : Int) ∧ a = .bool ba ∧ b = .bool bb ∧ insS (S.take k) level = (ba, bb)) (fun _ _ i _ => m - (intOf i).toNat)
  case atStart => exact ⟨rfl, 0, false, false, Nat.zero_le _, rfl, rfl, rfl, rfl⟩
  case round =>
    obtain ⟨rfl, k, ba, bb, hk, rfl, rfl, rfl, hst⟩ := hrel
    have HST := Lib.hid hst
    clear hst
    by_cases hlt : k < m
    · obtain ⟨x, hx⟩ : ∃ x, S[k]? = some x := ⟨_, List.getElem?_eq_getElem (by rw [HSL.out]; exact hlt)⟩
      obtain ⟨ad, rfl, hab, hcell⟩ := HR2.out.at_ hlt
      have cx := hcell (.int .i64 x) (by rw [List.getElem?_map, hx]; rfl)
      have HN := Lib.hid (insS_step hx HST.out)
      obtain ⟨v, hv⟩ : ∃ v, sideF x = v := ⟨_, rfl⟩
      have HSI := Lib.hid (fun W => bkSide_any x v hv W)
      have hvc := side_in x
      rw [hv] at hvc HN
      rw [HS.out] at HN
      have hkm : (k : Int) < (m : Int) := by omega
      clear hx hcell hv
      by_cases hv1 : v = -1
      · subst hv1
        have HN2 := Lib.hid (show insS (S.take (k + 1)) level = (ba, bb) by rw [HN.out, decide_eq_false (show ¬ (-1 : Int) = s by omega), decide_eq_false (show ¬ ((0 : Int) ≤ -1 ∧ (-1 : Int) ≠ s) by omega), Bool.or_false, Bool.or_false])
        go_wp2_with (first
          | (go_at_call 118; refine (HSI.out _).mono ?_; rintro e w3 ⟨rfl, rfl⟩)
          | fail)
        go_roundw
        case rel => exact ⟨by first | rfl | trivial, k + 1, ba, bb, by omega, by go_num, rfl, rfl, HN2.out⟩
        case measure => simp [intOf]; omega
      · have g1 : (v == -1) = false := by simp [hv1]
        by_cases hvs : v = s
        · have g2 : (v == s) = true := by simp [hvs]
          have HN2 := Lib.hid (show insS (S.take (k + 1)) level = (true, bb) by rw [HN.out, decide_eq_true hvs, decide_eq_false (show ¬ ((0 : Int) ≤ v ∧ v ≠ s) by omega), Bool.or_true, Bool.or_false])
          clear hvs hv1
          go_wp2_with (first
            | (go_at_call 118; refine (HSI.out _).mono ?_; rintro e w3 ⟨rfl, rfl⟩)
            | (go_at_call 99; refine (HSO.out _).mono ?_; rintro e w3 ⟨rfl, rfl⟩)
            | fail)
          go_roundw
          case rel => exact ⟨by first | rfl | trivial, k + 1, true, bb, by omega, by go_num, rfl, rfl, HN2.out⟩
          case measure => simp [intOf]; omega
        · have g2 : (v == s) = false := by simp [hvs]
          have HN2 := Lib.hid (show insS (S.take (k + 1)) level = (ba, true) by rw [HN.out, decide_eq_false hvs, decide_eq_true (show ((0 : Int) ≤ v ∧ v ≠ s) by omega), Bool.or_false, Bool.or_true])
          clear hvs hv1
          go_wp2_with (first
            | (go_at_call 118; refine (HSI.out _).mono ?_; rintro e w3 ⟨rfl, rfl⟩)
            | (go_at_call 99; refine (HSO.out _).mono ?_; rintro e w3 ⟨rfl, rfl⟩)
            | fail)
          go_roundw
          case rel => exact ⟨by first | rfl | trivial, k + 1, ba, true, by omega, by go_num, rfl, rfl, HN2.out⟩
          case measure => simp [intOf]; omega
    · obtain rfl : k = m := by omega
      have HE := Lib.hid (show (ba, bb) = (va, vb) by rw [← HV.out, ← HST.out, List.take_of_length_le (by rw [HSL.out]; exact Nat.le_refl _)])
      go_wp2
      go_ret2
      have h := HE.out
      injection h with e1 e2
      exact ⟨by subst e1 e2; rfl, HB2.out⟩
end Go.Proofs.YtdgomaoikeffhaaGreat
/- The block of a row has its elements' type. No function of the program. -/
namespace Go.Proofs.YtdgomaoikeffhaaGreat
open Go.RowKit

section
variable {w : World}
theorem own_typ {e : TypeId} {base size n c g : Nat} {xs : List Value} (h : w.ownsRow base e size (.slice (some ⟨g, 0, none⟩) n c) n xs) : ∃ cs, w.heap[g]? = some (.cells cs e (0, 0)) := by
  rcases h.2 with ⟨h', _⟩ | ⟨g', cap', cur, h', _, hg, _⟩
  · simp at h'
  · simp only [Value.slice.injEq, Option.some.injEq, Addr.mk.injEq, and_true] at h'
    obtain ⟨rfl, _⟩ := h'
    exact ⟨cur, hg⟩
/-- The block of a row has its elements' type. -/
theorem own_row {e : TypeId} {base size n : Nat} {v : Value} {xs : List Value} (h : w.ownsRow base e size v n xs) : ∀ x, v.ownBlock = some x → ∃ cs, w.heap[x]? = some (.cells cs e (0, 0)) := by
  intro x hx
  rcases h.2 with ⟨rfl, _⟩ | ⟨g', cap', cur, rfl, _, hg, _⟩
  · cases hx
  · have : g' = x := by simpa [Value.ownBlock] using hx
    subst this
    exact ⟨cur, hg⟩
end
end Go.Proofs.YtdgomaoikeffhaaGreat
/- A slice of slices of integers that the call makes: appended to, and written. -/
namespace Go.Proofs.YtdgomaoikeffhaaGreat
open Go.RowKit

/-- Rows of unlike types share no block. -/
theorem typ_ne {w : World} {b1 b2 s1 s2 n1 n2 : Nat} {e1 e2 : TypeId} {v1 v2 : Value} {x1 x2 : List Value} (h1 : w.ownsRow b1 e1 s1 v1 n1 x1) (h2 : w.ownsRow b2 e2 s2 v2 n2 x2) (he : e1 ≠ e2) : v1.ownBlock = none ∨ v1.ownBlock ≠ v2.ownBlock := by
  rcases h : v1.ownBlock with _ | x
  · exact .inl rfl
  · right
    intro e
    obtain ⟨c1, g1⟩ := own_row h1 x h
    obtain ⟨c2, g2⟩ := own_row h2 x e.symm
    rw [g1] at g2
    simp only [Option.some.injEq, Obj.cells.injEq] at g2
    exact he g2.2.1
/-- A slice of slices: each row in a block of its own, if anywhere. -/
structure LsAt (w : World) (base : Nat) (v : Value) (Q : List Value) (R : List (List Int)) : Prop where
  own : w.ownsRow base 22 1 v Q.length Q
  len : Q.length = R.length
  rows : ∀ (i : Nat) (u : Value) (r : List Int), Q[i]? = some u → R[i]? = some r → w.ownsRow base 3 1 u r.length (r.map (Value.int .i64))
  ne : ∀ (i j : Nat) (u u' : Value), i ≠ j → Q[i]? = some u → Q[j]? = some u' → u.ownBlock = none ∨ u.ownBlock ≠ u'.ownBlock
section
variable {w w' : World} {base : Nat} {v : Value} {Q : List Value} {R : List (List Int)}
theorem LsAt.nil_ (w : World) (base : Nat) : LsAt w base (.slice none 0 0) [] [] := ⟨⟨rfl, .inl ⟨rfl, rfl⟩⟩, rfl, by simp, by simp⟩
theorem LsAt.low (h : LsAt w base v Q R) (hb : Below w.heap.size w w') : LsAt w' base v Q R :=
  ⟨own_below h.own hb, h.len, fun i u r h1 h2 => own_below (h.rows i u r h1 h2) hb, h.ne⟩
/-- What is written elsewhere. -/
theorem LsAt.grown {row : Option Nat} (h : LsAt w base v Q R) (hg : w.grownBy w' row) (h1 : v.ownBlock = none ∨ v.ownBlock ≠ row) (h2 : ∀ u ∈ Q, u.ownBlock = none ∨ u.ownBlock ≠ row) : LsAt w' base v Q R :=
  ⟨h.own.kept hg h1, h.len, fun i u r hi hr => (h.rows i u r hi hr).kept hg (h2 u (List.mem_of_getElem? hi)), h.ne⟩
theorem LsAt.addNil (h : LsAt w base v Q R) {v' : Value} (hg : w.grownBy w' v.ownBlock) (ho : w'.ownsRow base 22 1 v' (Q.length + 1) (Q ++ [.slice none 0 0])) : LsAt w' base v' (Q ++ [.slice none 0 0]) (R ++ [[]]) := by
  refine ⟨by simpa using ho, by simp [h.len], fun i u r hi hr => ?_, fun i j u u' hij hi hj => ?_⟩
  · by_cases hlt : i < Q.length
    · rw [List.getElem?_append_left hlt] at hi
      rw [List.getElem?_append_left (by rw [← h.len]; exact hlt)] at hr
      exact (h.rows i u r hi hr).kept hg (typ_ne (h.rows i u r hi hr) h.own (by decide))
    · have hl := (List.getElem?_eq_some_iff.1 hi).1
      simp at hl
      obtain rfl : i = Q.length := by omega
      rw [List.getElem?_append_right (Nat.le_refl _), Nat.sub_self] at hi
      rw [h.len, List.getElem?_append_right (Nat.le_refl _), Nat.sub_self] at hr
      simp at hi hr
      subst hi hr
      exact ⟨rfl, .inl ⟨rfl, rfl⟩⟩
  · by_cases hi' : i < Q.length
    · rw [List.getElem?_append_left hi'] at hi
      by_cases hj' : j < Q.length
      · rw [List.getElem?_append_left hj'] at hj
        exact h.ne i j u u' hij hi hj
      · have hl := (List.getElem?_eq_some_iff.1 hj).1
        simp at hl
        obtain rfl : j = Q.length := by omega
        rw [List.getElem?_append_right (Nat.le_refl _), Nat.sub_self] at hj
        simp at hj
        subst hj
        rcases hu : u.ownBlock with _ | x
        · exact .inl rfl
        · exact .inr (by simp [Value.ownBlock])
    · have hl := (List.getElem?_eq_some_iff.1 hi).1
      simp at hl
      obtain rfl : i = Q.length := by omega
      rw [List.getElem?_append_right (Nat.le_refl _), Nat.sub_self] at hi
      simp at hi
      subst hi
      exact .inl rfl
/-- A row of it, appended to and written back. -/
theorem LsAt.put {g n c i m : Nat} {u u' : Value} {r ys : List Int} (h : LsAt w base (.slice (some ⟨g, 0, none⟩) n c) Q R) (hn : n = Q.length) (hi : Q[i]? = some u) (hr : R[i]? = some r) (hg : w.grownBy w' u.ownBlock) (hm : m = r.length + ys.length) (ho : w'.ownsRow base 3 1 u' m ((r ++ ys).map (Value.int .i64))) (hat : u'.ownBlock = u.ownBlock ∨ u'.ownBlock = some w.heap.size) :
    LsAt (w'.setCell ⟨g, i, none⟩ u') base (.slice (some ⟨g, 0, none⟩) n c) (Q.set i u') (R.set i (r ++ ys)) := by
  subst hn
  have hown' := h.own.kept hg (typ_ne h.own (h.rows i u r hi hr) (by decide))
  have hil := (List.getElem?_eq_some_iff.1 hi).1
  have hrl : i < R.length := by rw [← h.len]; exact hil
  have ho' : w'.ownsRow base 3 1 u' (r ++ ys).length ((r ++ ys).map (Value.int .i64)) := by rw [List.length_append, ← hm]; exact ho
  have far : ∀ {z : Value} {k : Nat} {xs : List Value}, w'.ownsRow base 3 1 z k xs → (w'.setCell ⟨g, i, none⟩ u').ownsRow base 3 1 z k xs := fun hz => own_set_far hz (by
    rcases typ_ne hz hown' (by decide) with e | e
    · rw [e]; simp
    · exact e)
  refine ⟨?_, by simp [h.len], fun j z s hj hs => ?_, fun a b y z hab ha hb => ?_⟩
  · have := (hown'.stored i u').1
    rw [List.length_set]
    exact this
  · by_cases e : j = i
    · subst e
      rw [List.getElem?_set_self hil] at hj
      rw [List.getElem?_set_self hrl] at hs
      obtain rfl := Option.some.inj hj
      obtain rfl := Option.some.inj hs
      exact far ho'
    · rw [List.getElem?_set_ne (fun h => e h.symm)] at hj hs
      exact far ((h.rows j z s hj hs).kept hg (h.ne j i z u e hj hi))
  · have fresh : ∀ (j : Nat) (z : Value), Q[j]? = some z → z.ownBlock ≠ some w.heap.size := fun j z hj e => by
      obtain ⟨s, hs⟩ : ∃ s, R[j]? = some s := ⟨_, List.getElem?_eq_getElem (by rw [← h.len]; exact (List.getElem?_eq_some_iff.1 hj).1)⟩
      have := ((h.rows j z s hj hs).lt _ e).2
      omega
    by_cases ea : a = i
    · subst ea
      rw [List.getElem?_set_self hil] at ha
      obtain rfl := Option.some.inj ha
      rw [List.getElem?_set_ne hab] at hb
      rcases hat with e | e
      · rw [e]; exact h.ne a b u z hab hi hb
      · right; rw [e]; exact fun e' => fresh b z hb e'.symm
    · rw [List.getElem?_set_ne (fun h => ea h.symm)] at ha
      by_cases eb : b = i
      · subst eb
        rw [List.getElem?_set_self hil] at hb
        obtain rfl := Option.some.inj hb
        rcases hat with e | e
        · rw [e]; exact h.ne a b y u hab ha hi
        · right; rw [e]; exact fresh a y ha
      · rw [List.getElem?_set_ne (fun h => eb h.symm)] at hb
        exact h.ne a b y z hab ha hb
/-- One row, as it reads. -/
theorem LsAt.row {A : Option Addr} {n c : Nat} (h : LsAt w base (.slice A n c) Q R) (hn : n = Q.length) {i : Nat} {r : List Int} (hr : R[i]? = some r) : ∃ g V k, A = some ⟨g, 0, none⟩ ∧ base ≤ g ∧ w.cell? ⟨g, i, none⟩ = some (.slice V r.length k) ∧ w.frozen? ⟨g, i, none⟩ = false ∧ r.length ≤ k ∧ Q[i]? = some (.slice V r.length k) ∧ w.ownsRow base 3 1 (.slice V r.length k) r.length (r.map (Value.int .i64)) ∧ g < w.heap.size := by
  subst hn
  have hil := (List.getElem?_eq_some_iff.1 hr).1
  obtain ⟨u, hu⟩ : ∃ u, Q[i]? = some u := ⟨_, List.getElem?_eq_getElem (by rw [h.len]; exact hil)⟩
  have ho := h.rows i u r hu hr
  obtain ⟨V, k, rfl, hk⟩ := own_form ho
  obtain ⟨g, c', hv, _, hlt, hb, hcell⟩ := own_at h.own (by rw [h.len]; omega)
  injection hv with e1 _ e2
  subst e1 e2
  exact ⟨g, V, k, rfl, hb, hcell i _ hu, (own_slot h.own (by rw [h.len]; omega)).2, hk, hu, ho, hlt⟩
end
end Go.Proofs.YtdgomaoikeffhaaGreat
/- What isolates and what ends it have one level: the stack at the one is the stack at the other. No function of the program. -/
namespace Go.Proofs.YtdgomaoikeffhaaGreat
open Go.RowKit

/-- Whether a stack is inside of what was isolated at another. -/
def Above (T S : Stk) : Prop :=
  (∃ (P : List Ent) (e : Ent), T.R = P ++ e :: S.R ∧ (∀ x ∈ P, x.is = false) ∧ e.is = true ∧ T.bot = S.bot ∧ T.a = 0 ∧ T.c = S.c + 1 ∧ S.a = 0 ∧ S.b = 0) ∨ T = { S with a := S.a + 1 }
section
variable {T S : Stk} {r : Bool} {o : Int}
theorem above_iso : Above (isoS T r).2 T := by
  cases h : roomS T r with
  | true =>
    rw [iso_room h]
    have h3 := room_iff.1 h
    exact .inl ⟨[], _, rfl, by simp, rfl, rfl, h3.2.1, rfl, h3.2.1, h3.2.2⟩
  | false => rw [iso_no h]; exact .inr rfl
theorem above_end (h : Above T S) : endIS T = S := by
  rcases h with ⟨P, e, hR, hP, he, hb, ha, hc, h1, h2⟩ | rfl
  · have hd : (T.R.dropWhile fun e => !e.is).tail = S.R := by
      rw [hR]
      have : ∀ P : List Ent, (∀ x ∈ P, x.is = false) → (P ++ e :: S.R).dropWhile (fun e => !e.is) = e :: S.R := fun P => by
        induction P with
        | nil => intro _; rw [List.nil_append, List.dropWhile_cons, if_neg (by rw [he]; simp)]
        | cons x P ih =>
          intro h
          rw [List.cons_append, List.dropWhile_cons, if_pos (by rw [h x (by simp)]; rfl)]
          exact ih fun y hy => h y (by simp [hy])
      rw [this P hP]
      rfl
    unfold endIS
    rw [if_neg (by omega), if_pos (by omega), hd, hb, ha, hc]
    cases S
    simp_all
  · unfold endIS
    rw [if_pos (by simp)]
    simp
theorem above_emb (h : Above T S) : Above (embS T r o).2 S := by
  rcases h with ⟨P, e, hR, hP, he, hb, ha, hc, h1, h2⟩ | rfl
  · cases hr : roomS T r with
    | true =>
      rw [emb_room hr]
      exact .inl ⟨⟨nextS T r, o, false⟩ :: P, e, by simp [hR], by simpa using hP, he, hb, ha, hc, h1, h2⟩
    | false =>
      rw [emb_no hr, if_pos ha]
      exact .inl ⟨P, e, hR, hP, he, hb, ha, hc, h1, h2⟩
  · have hr : roomS { S with a := S.a + 1 } r = false := by unfold roomS; simp
    rw [emb_no hr, if_neg (by simp)]
    exact .inr rfl
theorem above_endE (h : Above T S) : Above (endES T) S := by
  rcases h with ⟨P, e, hR, hP, he, hb, ha, hc, h1, h2⟩ | rfl
  · unfold endES
    rw [if_neg (by omega)]
    split
    · exact .inl ⟨P, e, hR, hP, he, hb, ha, hc, h1, h2⟩
    · cases P with
      | nil =>
        have ht : T.top.is = true := by unfold Stk.top; rw [hR]; exact he
        rw [if_pos ht]
        exact .inl ⟨[], e, hR, hP, he, hb, ha, hc, h1, h2⟩
      | cons x P =>
        have ht : ¬ T.top.is = true := by unfold Stk.top; rw [hR]; simp [hP x (by simp)]
        rw [if_neg ht]
        unfold popS
        rw [if_neg (by rw [hR]; simp)]
        exact .inl ⟨P, e, by simp [hR], fun y hy => hP y (by simp [hy]), he, hb, ha, hc, h1, h2⟩
  · unfold endES
    rw [if_pos (by simp)]
    exact .inr rfl
theorem above_step {xs : List Int} {i : Nat} {c : Int} (h : Above T S) (hc : opB c = false) : Above (stepB xs i c T) S := by
  unfold stepB
  rw [hc]
  repeat' split
  all_goals first
    | exact above_emb h
    | exact above_endE h
    | exact h
    | (rename_i k; cases k)
end
/-- One inside the other. -/
def Nest : Stk → List Stk → Prop
  | _, [] => True
  | T, S :: F => Above T S ∧ Nest S F
theorem nest_go {xs : List Int} {base : Int} : ∀ (l : List Int) (p d j : Nat) (F : List Stk) (S : Stk), xs.drop p = l → F.length = d + 1 → F.getLast? = some S → Nest (stE xs base p) F → clo l d = some j → endIS (stE xs base (p + j)) = S
  | [], _, _, _, _, _, _, _, _, _, h => by simp [clo] at h
  | c :: l, p, d, j, F, S, hl, hF, hS, hN, h => by
    have hc : xs.getD p 0 = c := by
      have : xs[p]? = some c := by have := congrArg (fun t => t[0]?) hl; simpa using this
      rw [List.getD_eq_getElem?_getD, this]; rfl
    have hl2 : xs.drop (p + 1) = l := by rw [← List.drop_drop, hl]; rfl
    rw [clo] at h
    by_cases ho : opB c = true
    · rw [if_pos ho, Option.map_eq_some_iff] at h
      obtain ⟨j', hj, rfl⟩ := h
      have ho' := (opB_iff c).1 ho
      have hs : stE xs base (p + 1) = (isoS (stE xs base p) (rightC xs p)).2 := by
        rw [stE, hc, stepA, if_neg (by omega), stepB, if_neg (by omega), if_neg (by omega), if_neg (by omega), if_neg (by omega), if_neg (by omega), if_pos ho]
      have := nest_go l (p + 1) (d + 1) j' (stE xs base p :: F) S hl2 (by simp [hF]) (by
        cases F with
        | nil => simp at hF
        | cons x F => rw [List.getLast?_cons_cons]; exact hS) ⟨by rw [hs]; exact above_iso, hN⟩ hj
      rwa [show p + 1 + j' = p + (j' + 1) by omega] at this
    · rw [if_neg ho] at h
      have ho' : opB c = false := by simpa using ho
      by_cases hp : c = 22
      · rw [if_pos hp] at h
        match F, hF, hS, hN with
        | S0 :: F, hF, hS, ⟨hA, hN⟩ =>
          have he := above_end hA
          by_cases hd : d = 0
          · rw [if_pos hd] at h
            obtain rfl := Option.some.inj h
            have : F = [] := List.eq_nil_of_length_eq_zero (by simp at hF; omega)
            subst this
            obtain rfl : S0 = S := by simpa using hS
            exact he
          · rw [if_neg hd, Option.map_eq_some_iff] at h
            obtain ⟨j', hj, rfl⟩ := h
            have hs : stE xs base (p + 1) = S0 := by
              rw [stE, hc, stepA, if_pos hp, he, stepB, if_neg (by omega), if_neg (by omega), if_neg (by omega), if_neg (by omega), if_neg (by omega), if_neg (by rw [ho']; simp)]
            have := nest_go l (p + 1) (d - 1) j' F S hl2 (by simp at hF; omega) (by
              cases F with
              | nil => simp at hF; omega
              | cons x F => rwa [List.getLast?_cons_cons] at hS) (by rw [hs]; exact hN) hj
            rwa [show p + 1 + j' = p + (j' + 1) by omega] at this
      · rw [if_neg hp, Option.map_eq_some_iff] at h
        obtain ⟨j', hj, rfl⟩ := h
        have hs : stE xs base (p + 1) = stepB xs p c (stE xs base p) := by rw [stE, hc, stepA, if_neg hp]
        have hN2 : Nest (stE xs base (p + 1)) F := by
          match F, hN with
          | [], _ => trivial
          | S0 :: F, ⟨hA, hN⟩ => exact ⟨by rw [hs]; exact above_step hA ho', hN⟩
        have := nest_go l (p + 1) d j' F S hl2 hF hS hN2 hj
        rwa [show p + 1 + j' = p + (j' + 1) by omega] at this
/-- What isolates and what ends it have one level. -/
theorem pair_level {xs : List Int} {base : Int} {i j : Nat} {c : Int} (hc : xs[i]? = some c) (ho : opB c = true) (h : clo (xs.drop (i + 1)) 0 = some j) (hp : xs[i + 1 + j]? = some 22) : (exA xs base (i + 1 + j)).1 = (exA xs base i).1 := by
  have ho' := (opB_iff c).1 ho
  have hg : xs.getD i 0 = c := by rw [List.getD_eq_getElem?_getD, hc]; rfl
  have hg2 : xs.getD (i + 1 + j) 0 = 22 := by rw [List.getD_eq_getElem?_getD, hp]; rfl
  have hs : stE xs base (i + 1) = (isoS (stE xs base i) (rightC xs i)).2 := by
    rw [stE, hg, stepA, if_neg (by omega), stepB, if_neg (by omega), if_neg (by omega), if_neg (by omega), if_neg (by omega), if_neg (by omega), if_pos ho]
  have hn := nest_go (xs.drop (i + 1)) (i + 1) 0 j [stE xs base i] (stE xs base i) rfl rfl rfl ⟨by rw [hs]; exact above_iso, trivial⟩ h
  have e : ∀ (s : Stk) (c : Int), c ≠ 10 → (outX base s c).1 = s.top.lv := fun s c h => by
    unfold outX
    rw [if_neg h]
    split <;> rfl
  unfold exA
  rw [hg, hg2, stepA, if_pos rfl, hn, stepA, if_neg (by omega), e _ _ (by omega), e _ _ (by omega)]
end Go.Proofs.YtdgomaoikeffhaaGreat
/- Runs and sequences as mathematics: each place that is not left out is in one of them, once; a sequence has one level, where what isolates and what ends it have. No function of the program. -/
namespace Go.Proofs.YtdgomaoikeffhaaGreat
open Go.RowKit

/-- A place more: the runs, the last one first, and the last place. -/
def rnS (lv cl : List Int) (s : List (List Nat) × Option Nat) (k : Nat) : List (List Nat) × Option Nat :=
  if leftC (cl.getD k 0) = true then s else match s with
  | (r :: rs, some la) => if lv.getD la 0 = lv.getD k 0 then ((r ++ [k]) :: rs, some k) else ([k] :: r :: rs, some k)
  | (o, _) => ([k] :: o, some k)
def rnA (lv cl : List Int) : Nat → List (List Nat) × Option Nat
  | 0 => ([], none)
  | k + 1 => rnS lv cl (rnA lv cl k) k
def runsF (lv cl : List Int) : List (List Nat) := (rnA lv cl lv.length).1.reverse
/-- What holds of the runs so far. -/
def RnOk (lv cl : List Int) (s : List (List Nat) × Option Nat) (k : Nat) : Prop :=
  (s.1.reverse.flatten = (List.range k).filter fun i => !leftC (cl.getD i 0)) ∧ (∀ r ∈ s.1, r ≠ [] ∧ ∀ x ∈ r, ∀ y ∈ r, lv.getD x 0 = lv.getD y 0) ∧ (∀ r rs, s.1 = r :: rs → s.2 = r.getLast?) ∧ (s.1 = [] → s.2 = none)
theorem rn_ok (lv cl : List Int) : ∀ k, RnOk lv cl (rnA lv cl k) k
  | 0 => ⟨rfl, by simp [rnA], by simp [rnA], fun _ => rfl⟩
  | k + 1 => by
    have h := rn_ok lv cl k
    rw [rnA]
    generalize rnA lv cl k = s at h
    obtain ⟨h1, h2, h3, h4⟩ := h
    unfold rnS
    by_cases hl : leftC (cl.getD k 0) = true
    · rw [if_pos hl]
      refine ⟨?_, h2, h3, h4⟩
      rw [h1, List.range_succ, List.filter_append]
      simp only [List.filter_cons, List.filter_nil, hl, Bool.not_true, Bool.false_eq_true, if_false, List.append_nil]
    · rw [if_neg hl]
      have hr : (List.range (k + 1)).filter (fun i => !leftC (cl.getD i 0)) = (List.range k).filter (fun i => !leftC (cl.getD i 0)) ++ [k] := by
        have hl' : leftC (cl.getD k 0) = false := by simpa using hl
        rw [List.range_succ, List.filter_append]
        simp only [List.filter_cons, List.filter_nil, hl', Bool.not_false, if_true]
      have hnew : ∀ o : List (List Nat), o = s.1 → RnOk lv cl ([k] :: o, some k) (k + 1) := fun o ho => by
        subst ho
        refine ⟨?_, ?_, ?_, by simp⟩
        · rw [hr, ← h1]; simp
        · intro r hm
          rcases List.mem_cons.1 hm with rfl | hm
          · refine ⟨by simp, ?_⟩
            intro x hx y hy
            rw [List.mem_singleton] at hx hy
            rw [hx, hy]
          · exact h2 r hm
        · intro r rs e
          simp only [List.cons.injEq] at e
          rw [← e.1]; rfl
      obtain ⟨o, la⟩ := s
      match o, la with
      | [], la => exact hnew [] rfl
      | r :: rs, none => exact hnew _ rfl
      | r :: rs, some la =>
        show RnOk lv cl (if lv.getD la 0 = lv.getD k 0 then ((r ++ [k]) :: rs, some k) else ([k] :: r :: rs, some k)) (k + 1)
        split
        · rename_i he
          have hla := h3 r rs rfl
          have hm : la ∈ r := List.mem_of_getLast? hla.symm
          refine ⟨?_, ?_, ?_, by simp⟩
          · rw [hr, ← h1]; simp
          · intro r' hm'
            rcases List.mem_cons.1 hm' with rfl | hm'
            · refine ⟨by simp, ?_⟩
              have hk : ∀ x ∈ r ++ [k], lv.getD x 0 = lv.getD la 0 := fun x hx => by
                rcases List.mem_append.1 hx with hx | hx
                · exact (h2 r (by simp)).2 x hx la hm
                · rw [List.mem_singleton] at hx; rw [hx, he]
              intro x hx y hy
              rw [hk x hx, hk y hy]
            · exact h2 r' (by simp [hm'])
          · intro r' rs' e
            simp only [List.cons.injEq] at e
            rw [← e.1]; simp
        · exact hnew _ rfl
theorem runs_flat (lv cl : List Int) : (runsF lv cl).flatten = (List.range lv.length).filter fun i => !leftC (cl.getD i 0) := (rn_ok lv cl lv.length).1
theorem runs_one {lv cl : List Int} {r : List Nat} (h : r ∈ runsF lv cl) : r ≠ [] ∧ ∀ x ∈ r, ∀ y ∈ r, lv.getD x 0 = lv.getD y 0 := (rn_ok lv cl lv.length).2.1 r (List.mem_reverse.1 h)

/-- Which run begins with a place. -/
def begF (R : List (List Nat)) (p : Nat) : Option Nat := R.findIdx? fun r => decide (r.head? = some p)
/-- The run that goes on behind one. -/
def nxF (R : List (List Nat)) (bf mt : List Int) (k : Nat) : Option Nat := match (R.getD k []).getLast? with
  | none => none
  | some la => if opB (bf.getD la 0) = true ∧ mt.getD la 0 < bf.length then begF R (mt.getD la 0).toNat else none
/-- The runs used, with those that go on from one. -/
def chF (R : List (List Nat)) (bf mt : List Int) : Nat → Option Nat → List Nat → List Nat
  | 0, _, u => u
  | _ + 1, none, u => u
  | f + 1, some k, u => if k ∈ u then u else chF R bf mt f (nxF R bf mt k) (u ++ [k])
/-- The sequences as runs, and the runs used. -/
def sqF (R : List (List Nat)) (bf mt : List Int) : Nat → List (List Nat) × List Nat
  | 0 => ([], [])
  | i + 1 => if i ∈ (sqF R bf mt i).2 then sqF R bf mt i else
    ((sqF R bf mt i).1 ++ [(chF R bf mt (R.length + 1) (some i) (sqF R bf mt i).2).drop (sqF R bf mt i).2.length], chF R bf mt (R.length + 1) (some i) (sqF R bf mt i).2)
section
variable {R : List (List Nat)} {bf mt : List Int}
theorem beg_lt {p k : Nat} (h : begF R p = some k) : k < R.length ∧ (R.getD k []).head? = some p := by
  unfold begF at h
  obtain ⟨hk, hp, _⟩ := List.findIdx?_eq_some_iff_getElem.1 h
  refine ⟨hk, ?_⟩
  rw [List.getD_eq_getElem?_getD, List.getElem?_eq_getElem hk, Option.getD_some]
  exact of_decide_eq_true hp
theorem nx_lt {k j : Nat} (h : nxF R bf mt k = some j) : j < R.length := by
  unfold nxF at h
  split at h
  · cases h
  · split at h
    · exact (beg_lt h).1
    · cases h
theorem ch_ok : ∀ (f : Nat) (k : Option Nat) (u : List Nat), (∀ x ∈ u, x < R.length) → u.Nodup → (∀ j, k = some j → j < R.length) → u <+: chF R bf mt f k u ∧ (∀ x ∈ chF R bf mt f k u, x < R.length) ∧ (chF R bf mt f k u).Nodup
  | 0, _, u, h1, h2, _ => ⟨List.prefix_refl _, h1, h2⟩
  | _ + 1, none, u, h1, h2, _ => ⟨List.prefix_refl _, h1, h2⟩
  | f + 1, some k, u, h1, h2, h3 => by
    rw [chF]
    split
    · exact ⟨List.prefix_refl _, h1, h2⟩
    · rename_i hk
      have := ch_ok f (nxF R bf mt k) (u ++ [k]) (fun x hx => by
        rcases List.mem_append.1 hx with hx | hx
        · exact h1 x hx
        · rw [List.mem_singleton] at hx; rw [hx]; exact h3 k rfl) (by
        rw [List.nodup_append]
        refine ⟨h2, by simp, ?_⟩
        intro x hx y hy
        rw [List.mem_singleton] at hy
        subst hy
        exact fun e => hk (e ▸ hx)) (fun j hj => nx_lt hj)
      exact ⟨(List.prefix_append u [k]).trans this.1, this.2⟩
theorem ch_has {f k : Nat} {u : List Nat} (h1 : ∀ x ∈ u, x < R.length) (h2 : u.Nodup) (hk : k < R.length) : k ∈ chF R bf mt (f + 1) (some k) u := by
  rw [chF]
  split
  · assumption
  · rename_i hn
    have := (ch_ok (bf := bf) (mt := mt) f (nxF R bf mt k) (u ++ [k]) (fun x hx => by
        rcases List.mem_append.1 hx with hx | hx
        · exact h1 x hx
        · rw [List.mem_singleton] at hx; rw [hx]; exact hk) (by
        rw [List.nodup_append]
        refine ⟨h2, by simp, ?_⟩
        intro x hx y hy
        rw [List.mem_singleton] at hy
        subst hy
        exact fun e => hn (e ▸ hx)) (fun j hj => nx_lt hj)).1
    exact this.subset (by simp)
theorem sq_ok : ∀ i, i ≤ R.length → (∀ x ∈ (sqF R bf mt i).2, x < R.length) ∧ (sqF R bf mt i).2.Nodup ∧ (∀ j, j < i → j ∈ (sqF R bf mt i).2) ∧ (sqF R bf mt i).1.flatten = (sqF R bf mt i).2
  | 0, _ => ⟨by simp [sqF], by simp [sqF], by omega, rfl⟩
  | i + 1, hi => by
    obtain ⟨h1, h2, h3, h4⟩ := sq_ok i (by omega)
    rw [sqF]
    split
    · rename_i hm
      exact ⟨h1, h2, fun j hj => by
        by_cases e : j = i
        · rw [e]; exact hm
        · exact h3 j (by omega), h4⟩
    · have hc := ch_ok (R := R) (bf := bf) (mt := mt) (R.length + 1) (some i) _ h1 h2 (fun j hj => by obtain rfl := Option.some.inj hj; omega)
      refine ⟨hc.2.1, hc.2.2, fun j hj => ?_, ?_⟩
      · by_cases e : j = i
        · rw [e]; exact ch_has h1 h2 (by omega)
        · exact hc.1.subset (h3 j (by omega))
      · rw [List.flatten_append, h4, List.flatten_cons, List.flatten_nil, List.append_nil]
        obtain ⟨t, ht⟩ := hc.1
        show (sqF R bf mt i).2 ++ (chF R bf mt (R.length + 1) (some i) (sqF R bf mt i).2).drop (sqF R bf mt i).2.length = chF R bf mt (R.length + 1) (some i) (sqF R bf mt i).2
        rw [← ht, List.drop_left]
/-- Every run is used, once. -/
theorem sq_perm : (sqF R bf mt R.length).2.Perm (List.range R.length) := by
  obtain ⟨h1, h2, h3, _⟩ := sq_ok (R := R) (bf := bf) (mt := mt) R.length (Nat.le_refl _)
  refine (List.perm_ext_iff_of_nodup h2 List.nodup_range).2 fun a => ?_
  rw [List.mem_range]
  exact ⟨h1 a, h3 a⟩
/-- The places of the sequences, one behind the other. -/
def placesF (R : List (List Nat)) (ks : List Nat) : List Nat := ks.flatMap fun k => R.getD k []
theorem sq_places : (((sqF R bf mt R.length).1.map (placesF R)).flatten).Perm R.flatten := by
  have e : ((sqF R bf mt R.length).1.map (placesF R)).flatten = placesF R (sqF R bf mt R.length).2 := by
    rw [← (sq_ok (R := R) (bf := bf) (mt := mt) R.length (Nat.le_refl _)).2.2.2]
    have : ∀ L : List (List Nat), (L.map (placesF R)).flatten = placesF R L.flatten := fun L => by
      induction L with
      | nil => rfl
      | cons l L ih =>
        rw [List.map_cons, List.flatten_cons, ih, List.flatten_cons]
        unfold placesF
        rw [List.flatMap_append]
    exact this _
  rw [e]
  have e2 : placesF R (List.range R.length) = R.flatten := by
    unfold placesF
    rw [List.flatMap_def]
    congr 1
    refine List.ext_getElem? fun i => ?_
    rw [List.getElem?_map]
    by_cases hi : i < R.length
    · rw [List.getElem?_range hi, Option.map_some, List.getD_eq_getElem?_getD, List.getElem?_eq_getElem hi, Option.getD_some]
    · rw [List.getElem?_eq_none (by simpa using hi), List.getElem?_eq_none (by omega)]; rfl
  rw [← e2]
  exact sq_perm.flatMap_right _
/-- All runs of a sequence have one level, where what isolates and what ends it have. -/
theorem ch_level {lv : List Int} (hR : ∀ r ∈ R, r ≠ [] ∧ ∀ x ∈ r, ∀ y ∈ r, lv.getD x 0 = lv.getD y 0) (hm : ∀ la : Nat, opB (bf.getD la 0) = true → mt.getD la 0 < bf.length → lv.getD (mt.getD la 0).toNat 0 = lv.getD la 0) (n : Int) : ∀ (f : Nat) (k : Option Nat) (u : List Nat), (∀ j, k = some j → j < R.length ∧ ∀ x ∈ R.getD j [], lv.getD x 0 = n) → ∀ j ∈ chF R bf mt f k u, j ∈ u ∨ ∀ x ∈ R.getD j [], lv.getD x 0 = n
  | 0, _, u, _, j, hj => by rw [chF] at hj; exact .inl hj
  | _ + 1, none, u, _, j, hj => by rw [chF] at hj; exact .inl hj
  | f + 1, some k, u, hk, j, hj => by
    rw [chF] at hj
    split at hj
    · exact .inl hj
    · rename_i hn
      have hk' := hk k rfl
      have hstep : ∀ j', nxF R bf mt k = some j' → j' < R.length ∧ ∀ x ∈ R.getD j' [], lv.getD x 0 = n := fun j' h => by
        unfold nxF at h
        split at h
        · cases h
        · rename_i la hla
          split at h
          · rename_i hc
            obtain ⟨hlt, hh⟩ := beg_lt h
            refine ⟨hlt, fun x hx => ?_⟩
            have hmem : R.getD j' [] ∈ R := by rw [List.getD_eq_getElem?_getD, List.getElem?_eq_getElem hlt, Option.getD_some]; exact List.getElem_mem hlt
            have h1 := (hR _ hmem).2 x hx _ (List.mem_of_head? hh)
            rw [h1, hm la hc.1 hc.2]
            exact hk'.2 la (List.mem_of_getLast? hla)
          · cases h
      rcases ch_level hR hm n f (nxF R bf mt k) (u ++ [k]) hstep j hj with h | h
      · rcases List.mem_append.1 h with h | h
        · exact .inl h
        · rw [List.mem_singleton] at h
          subst h
          exact .inr hk'.2
      · exact .inr h
/-- So all places of a sequence have the level of the first one. -/
theorem sq_level {lv : List Int} (hR : ∀ r ∈ R, r ≠ [] ∧ ∀ x ∈ r, ∀ y ∈ r, lv.getD x 0 = lv.getD y 0) (hm : ∀ la : Nat, opB (bf.getD la 0) = true → mt.getD la 0 < bf.length → lv.getD (mt.getD la 0).toNat 0 = lv.getD la 0) : ∀ i, i ≤ R.length → ∀ ks ∈ (sqF R bf mt i).1, placesF R ks ≠ [] ∧ ∀ x ∈ placesF R ks, ∀ y ∈ placesF R ks, lv.getD x 0 = lv.getD y 0
  | 0, _, ks, h => by simp [sqF] at h
  | i + 1, hi, ks, h => by
    obtain ⟨h1, h2, _, _⟩ := sq_ok (R := R) (bf := bf) (mt := mt) i (by omega)
    rw [sqF] at h
    split at h
    · exact sq_level hR hm i (by omega) ks h
    · rename_i hn
      rcases List.mem_append.1 h with h | h
      · exact sq_level hR hm i (by omega) ks h
      · rw [List.mem_singleton] at h
        have hc := ch_ok (R := R) (bf := bf) (mt := mt) (R.length + 1) (some i) _ h1 h2 (fun j hj => by obtain rfl := Option.some.inj hj; omega)
        have hmem : R.getD i [] ∈ R := by rw [List.getD_eq_getElem?_getD, List.getElem?_eq_getElem (by omega), Option.getD_some]; exact List.getElem_mem _
        obtain ⟨hne, hsame⟩ := hR _ hmem
        obtain ⟨x0, hx0⟩ := List.exists_mem_of_ne_nil _ hne
        have hl := ch_level hR hm (lv.getD x0 0) (R.length + 1) (some i) (sqF R bf mt i).2 (fun j hj => by
          obtain rfl := Option.some.inj hj
          exact ⟨by omega, fun x hx => hsame x hx x0 hx0⟩)
        have hh := ch_has (R := R) (bf := bf) (mt := mt) (f := R.length) (k := i) h1 h2 (by omega)
        obtain ⟨t, ht⟩ := hc.1
        have hnd := hc.2.2
        rw [← ht, List.drop_left] at h
        rw [← ht] at hl hh hnd
        subst h
        have hall : ∀ k ∈ ks, ∀ x ∈ R.getD k [], lv.getD x 0 = lv.getD x0 0 := fun k hk => by
          rcases hl k (List.mem_append_right _ hk) with h | h
          · exact absurd rfl ((List.nodup_append.1 hnd).2.2 k h k hk)
          · exact h
        have hit : i ∈ ks := by
          rcases List.mem_append.1 hh with h | h
          · exact absurd h hn
          · exact h
        refine ⟨fun e => ?_, fun x hx y hy => ?_⟩
        · have : x0 ∈ placesF R ks := List.mem_flatMap.2 ⟨i, hit, hx0⟩
          rw [e] at this
          cases this
        · obtain ⟨k, hk, hx⟩ := List.mem_flatMap.1 hx
          obtain ⟨k', hk', hy⟩ := List.mem_flatMap.1 hy
          rw [hall k hk x hx, hall k' hk' y hy]
end
end Go.Proofs.YtdgomaoikeffhaaGreat
/- para's isolates, naskhref20's Opens. -/
namespace Go.Proofs.YtdgomaoikeffhaaGreat
open Go.RowKit
theorem opB_cases (c : Int) : (c = 19 ∧ opB c = true) ∨ (c = 20 ∧ opB c = true) ∨ (c = 21 ∧ opB c = true) ∨ (c ≠ 19 ∧ c ≠ 20 ∧ c ≠ 21 ∧ opB c = false) := by
  by_cases h1 : c = 19
  · exact .inl ⟨h1, (opB_iff c).2 (.inl h1)⟩
  by_cases h2 : c = 20
  · exact .inr (.inl ⟨h2, (opB_iff c).2 (.inr (.inl h2))⟩)
  by_cases h3 : c = 21
  · exact .inr (.inr (.inl ⟨h3, (opB_iff c).2 (.inr (.inr h3))⟩))
  refine .inr (.inr (.inr ⟨h1, h2, h3, ?_⟩))
  rw [Bool.eq_false_iff]
  intro h
  rw [opB_iff] at h
  omega
theorem prIso_of (c : Int) (v : Bool) (hv : opB c = v) (w : World) : Calls Tryz.prog 51 #[.int .i64 c] w fun e w' => e = .returned (.bool v) ∧ w = w' := by
  subst hv
  rcases opB_cases c with ⟨rfl, h⟩ | ⟨rfl, h⟩ | ⟨rfl, h⟩ | ⟨h1, h2, h3, h⟩
  iterate 3
    · rw [h]
      clear h
      go_enter Tryz.func51, Tryz.ntmps51
      go_wp2
      go_ret
      exact ⟨rfl, rfl⟩
  · rw [h]
    have g1 : (c == 19) = false := by simp [h1]
    have g2 : (c == 20) = false := by simp [h2]
    have g3 : (c == 21) = false := by simp [h3]
    clear h h1 h2 h3
    go_enter Tryz.func51, Tryz.ntmps51
    go_wp2
    go_ret
    exact ⟨rfl, rfl⟩
end Go.Proofs.YtdgomaoikeffhaaGreat
