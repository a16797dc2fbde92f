/- Pairs of brackets as mathematics: a stack, the pairs by where they open; they lie apart or one within the other; how deep it goes. No function of the program. -/
import Derived.Test.YtpddjojgcenlkaaMem
namespace Go.Proofs.Ytpddjojgcenlkaa
open Go.RowKit

/-- The first on a stack that goes with something, and what is left below it. -/
def popTo (f : Nat → Bool) : List Nat → Option (Nat × List Nat)
  | [] => none
  | o :: st => if f o = true then some (o, st) else popTo f st
theorem popTo_some {f : Nat → Bool} : ∀ {st : List Nat} {o : Nat} {st' : List Nat}, popTo f st = some (o, st') → f o = true ∧ ∃ pre, st = pre ++ o :: st'
  | [], _, _, h => by cases h
  | x :: st, o, st', h => by
    rw [popTo] at h
    split at h
    · rename_i hx
      have := Option.some.inj h
      simp only [Prod.mk.injEq] at this
      obtain ⟨rfl, rfl⟩ := this
      exact ⟨hx, [], rfl⟩
    · obtain ⟨h1, pre, h2⟩ := popTo_some h
      exact ⟨h1, x :: pre, by rw [h2]; rfl⟩
/-- A pair in its place. -/
def insP : List (Nat × Nat) → Nat × Nat → List (Nat × Nat)
  | [], p => [p]
  | q :: l, p => if q.1 < p.1 then q :: insP l p else p :: q :: l
theorem mem_insP {p x : Nat × Nat} : ∀ {l : List (Nat × Nat)}, x ∈ insP l p ↔ x = p ∨ x ∈ l
  | [] => by simp [insP]
  | q :: l => by
    rw [insP]
    split
    · rw [List.mem_cons, mem_insP, List.mem_cons]
      exact ⟨fun h => h.elim (fun h => .inr (.inl h)) (fun h => h.imp id .inr), fun h => h.elim (fun h => .inr (.inl h)) (fun h => h.imp id .inr)⟩
    · rw [List.mem_cons]
theorem insP_sorted {p : Nat × Nat} : ∀ {l : List (Nat × Nat)}, l.Pairwise (fun x y => x.1 < y.1) → (∀ x ∈ l, x.1 ≠ p.1) → (insP l p).Pairwise (fun x y => x.1 < y.1)
  | [], _, _ => by simp [insP]
  | q :: l, h, hn => by
    rw [List.pairwise_cons] at h
    rw [insP]
    split
    · rename_i hq
      rw [List.pairwise_cons]
      refine ⟨fun x hx => ?_, insP_sorted h.2 fun x hx => hn x (by simp [hx])⟩
      rcases mem_insP.1 hx with rfl | hx
      · exact hq
      · exact h.1 x hx
    · rename_i hq
      have hne := hn q (by simp)
      rw [List.pairwise_cons, List.pairwise_cons]
      refine ⟨fun x hx => ?_, h⟩
      rcases List.mem_cons.1 hx with rfl | hx
      · omega
      · have := h.1 x hx; omega
theorem insP_len (p : Nat × Nat) : ∀ l : List (Nat × Nat), (insP l p).length = l.length + 1
  | [] => rfl
  | q :: l => by
    rw [insP]
    split
    · simp [insP_len p l]
    · simp
/-- Opening brackets, the last one first; the pairs, by where they open; whether there were too many. -/
structure BkS where
  st : List Nat
  out : List (Nat × Nat)
  stop : Bool
section
variable (on : Nat → Bool) (kd : Nat → Int) (mt : Nat → Nat → Bool)
def bkStep (s : BkS) (i : Nat) : BkS :=
  if s.stop = true ∨ on i = false ∨ kd i = 0 then s else if kd i = 1 then (if 63 ≤ s.st.length then { s with stop := true } else { s with st := i :: s.st }) else
    match popTo (fun o => mt o i) s.st with
    | none => s
    | some (o, st) => { s with st := st, out := insP s.out (o, i) }
def bkA : Nat → BkS
  | 0 => ⟨[], [], false⟩
  | k + 1 => bkStep on kd mt (bkA k) k
/-- What holds of the pairs so far. -/
structure BkOk (s : BkS) (k : Nat) : Prop where
  desc : s.st.Pairwise (fun x y => y < x)
  lt : ∀ o ∈ s.st, o < k
  len : s.st.length ≤ 63
  pair : ∀ p ∈ s.out, p.1 < p.2 ∧ p.2 < k
  sort : s.out.Pairwise (fun x y => x.1 < y.1)
  off : ∀ p ∈ s.out, ∀ o ∈ s.st, o < p.1 ∨ p.2 < o
  apart : ∀ p ∈ s.out, ∀ q ∈ s.out, p ≠ q → p.2 ≠ q.2 ∧ ¬ (p.1 < q.1 ∧ q.1 < p.2 ∧ p.2 < q.2)
theorem BkOk.more {s : BkS} {k : Nat} (h : BkOk s k) {b : Bool} : BkOk { s with stop := b } (k + 1) :=
  ⟨h.desc, fun o ho => Nat.lt_succ_of_lt (h.lt o ho), h.len, fun p hp => ⟨(h.pair p hp).1, Nat.lt_succ_of_lt (h.pair p hp).2⟩, h.sort, h.off, h.apart⟩
theorem bk_ok : ∀ k, BkOk (bkA on kd mt k) k
  | 0 => ⟨by simp [bkA], by simp [bkA], by simp [bkA], by simp [bkA], by simp [bkA], by simp [bkA], by simp [bkA]⟩
  | k + 1 => by
    have h := bk_ok k
    rw [bkA]
    generalize bkA on kd mt k = s at h
    unfold bkStep
    split
    · exact h.more (b := s.stop)
    · split
      · split
        · exact h.more
        · rename_i hlen
          refine ⟨?_, ?_, by simp only [List.length_cons]; omega, fun p hp => ⟨(h.pair p hp).1, Nat.lt_succ_of_lt (h.pair p hp).2⟩, h.sort, ?_, h.apart⟩
          · rw [List.pairwise_cons]
            exact ⟨h.lt, h.desc⟩
          · intro o ho
            rcases List.mem_cons.1 ho with rfl | ho
            · omega
            · have := h.lt o ho; omega
          · intro p hp o ho
            rcases List.mem_cons.1 ho with rfl | ho
            · exact .inr (h.pair p hp).2
            · exact h.off p hp o ho
      · split
        · exact h.more (b := s.stop)
        · rename_i o st hpop
          obtain ⟨_, pre, hst⟩ := popTo_some hpop
          have hd := h.desc
          rw [hst, List.pairwise_append] at hd
          have hd2 := hd.2.1
          rw [List.pairwise_cons] at hd2
          have ho : o ∈ s.st := by rw [hst]; simp
          have hok := h.lt o ho
          have hsub : ∀ x ∈ st, x ∈ s.st := fun x hx => by rw [hst]; simp [hx]
          have hl : st.length ≤ s.st.length := by rw [hst]; simp; omega
          refine ⟨hd2.2, fun x hx => Nat.lt_succ_of_lt (h.lt x (hsub x hx)), Nat.le_trans hl h.len, ?_, ?_, ?_, ?_⟩
          · intro p hp
            rcases mem_insP.1 hp with rfl | hp
            · exact ⟨hok, Nat.lt_succ_self _⟩
            · exact ⟨(h.pair p hp).1, Nat.lt_succ_of_lt (h.pair p hp).2⟩
          · refine insP_sorted h.sort fun x hx e => ?_
            have := h.off x hx o ho
            have := (h.pair x hx).1
            simp only at e
            omega
          · intro p hp x hx
            rcases mem_insP.1 hp with rfl | hp
            · exact .inl (hd2.1 x hx)
            · exact h.off p hp x (hsub x hx)
          · intro p hp q hq hne
            rcases mem_insP.1 hp with rfl | hp
            · rcases mem_insP.1 hq with rfl | hq
              · exact absurd rfl hne
              · have := (h.pair q hq).2
                simp only
                omega
            · rcases mem_insP.1 hq with rfl | hq
              · have := (h.pair p hp).2
                have := h.off p hp o ho
                simp only
                omega
              · exact h.apart p hp q hq hne
/-- n opening ones, then n closing ones. -/
theorem bk_opens {n : Nat} (h1 : ∀ i, i < n → on i = true ∧ kd i = 1) : ∀ k, k ≤ n → k ≤ 63 → bkA on kd mt k = ⟨(List.range k).reverse, [], false⟩
  | 0, _, _ => rfl
  | k + 1, hk, h63 => by
    have h := h1 k (by omega)
    rw [bkA, bk_opens h1 k (by omega) (by omega), bkStep, if_neg (by rw [h.1, h.2]; simp), if_pos h.2, if_neg (by simp; omega), List.range_succ]
    simp
theorem bk_closes {n : Nat} (hn : n ≤ 63) (h1 : ∀ i, i < n → on i = true ∧ kd i = 1) (h2 : ∀ i, i < n → on (n + i) = true ∧ kd (n + i) = 2 ∧ ∀ o, o < n → mt o (n + i) = true) : ∀ k, k ≤ n → (bkA on kd mt (n + k)).st = (List.range (n - k)).reverse ∧ (bkA on kd mt (n + k)).out.length = k ∧ (bkA on kd mt (n + k)).stop = false
  | 0, _ => by rw [Nat.add_zero, bk_opens on kd mt h1 n (Nat.le_refl _) hn]; exact ⟨rfl, rfl, rfl⟩
  | k + 1, hk => by
    obtain ⟨i1, i2, i3⟩ := bk_closes hn h1 h2 k (by omega)
    obtain ⟨a, b, c⟩ := h2 k (by omega)
    obtain ⟨m, hm⟩ : ∃ m, n - k = m + 1 := ⟨n - (k + 1), by omega⟩
    have hst : (bkA on kd mt (n + k)).st = m :: (List.range m).reverse := by rw [i1, hm, List.range_succ]; simp
    have hpop : popTo (fun o => mt o (n + k)) (bkA on kd mt (n + k)).st = some (m, (List.range m).reverse) := by rw [hst, popTo, if_pos (c m (by omega))]
    rw [← Nat.add_assoc, bkA, bkStep, if_neg (by rw [a, b, i3]; simp), if_neg (by rw [b]; decide), hpop, show n - (k + 1) = m by omega]
    exact ⟨rfl, by simp only; rw [insP_len, i2], i3⟩
/-- One more than the stack holds: nothing is found. -/
theorem bk_over {n : Nat} (hn : 63 < n) (h1 : ∀ i, i < n → on i = true ∧ kd i = 1) : ∀ k, (bkA on kd mt (64 + k)).out = [] ∧ (bkA on kd mt (64 + k)).stop = true
  | 0 => by
    have h := h1 63 hn
    rw [show 64 + 0 = 63 + 1 from rfl, bkA, bk_opens on kd mt h1 63 (by omega) (by omega), bkStep, if_neg (by rw [h.1, h.2]; simp), if_pos h.2, if_pos (by simp)]
    exact ⟨rfl, rfl⟩
  | k + 1 => by
    obtain ⟨i1, i2⟩ := bk_over hn h1 k
    rw [← Nat.add_assoc, bkA, bkStep, if_pos (.inl i2)]
    exact ⟨i1, i2⟩
end
end Go.Proofs.Ytpddjojgcenlkaa
