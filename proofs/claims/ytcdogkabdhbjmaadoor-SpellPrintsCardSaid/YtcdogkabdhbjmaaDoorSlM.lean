/- Words between blanks: the pieces of FieldsFunc at blanks, and the pieces that a pass over the bytes finds. -/
import Derived.Lib.FieldsP
import Derived.Lib.DecodeN
import Derived.Lib.TrimUEq
import Derived.Lib.Strings
import Derived.Lib.RuneCount
namespace Go.Proofs.YtcdogkabdhbjmaaDoor
open Go.Lib

def isB (r : Nat) : Bool := r == 32
/-- The words of a text. -/
def wordsF (s : ByteArray) : List ByteArray := goFieldsP isB s
/-- The spans, byte by byte. -/
def spansB (s : ByteArray) : Nat → Nat → Option Nat → List (Nat × Nat) → List (Nat × Nat) × Option Nat
  | 0, _, st, acc => (acc, st)
  | f + 1, pos, st, acc =>
    if (s.get! pos).toNat = 32 then
      (match st with
       | some a => spansB s f (pos + 1) none (acc ++ [(a, pos)])
       | none => spansB s f (pos + 1) none acc)
    else
      (match st with
       | some a => spansB s f (pos + 1) (some a) acc
       | none => spansB s f (pos + 1) (some pos) acc)
theorem spB0 (s : ByteArray) (f pos : Nat) (acc : List (Nat × Nat)) (hb : (s.get! pos).toNat = 32) : spansB s (f + 1) pos none acc = spansB s f (pos + 1) none acc := by
  conv => lhs; unfold spansB
  rw [if_pos hb]
theorem spB1 (s : ByteArray) (f pos a : Nat) (acc : List (Nat × Nat)) (hb : (s.get! pos).toNat = 32) : spansB s (f + 1) pos (some a) acc = spansB s f (pos + 1) none (acc ++ [(a, pos)]) := by
  conv => lhs; unfold spansB
  rw [if_pos hb]
theorem spB2 (s : ByteArray) (f pos : Nat) (acc : List (Nat × Nat)) (hb : ¬ (s.get! pos).toNat = 32) : spansB s (f + 1) pos none acc = spansB s f (pos + 1) (some pos) acc := by
  conv => lhs; unfold spansB
  rw [if_neg hb]
theorem spB3 (s : ByteArray) (f pos a : Nat) (acc : List (Nat × Nat)) (hb : ¬ (s.get! pos).toNat = 32) : spansB s (f + 1) pos (some a) acc = spansB s f (pos + 1) (some a) acc := by
  conv => lhs; unfold spansB
  rw [if_neg hb]
theorem byte_lt (s : ByteArray) (i : Nat) : (s.get! i).toNat < 256 := (s.get! i).toNat_lt
set_option maxHeartbeats 2000000 in
theorem decN_blank (n b0 b1 b2 b3 : Nat) (hn : 1 ≤ n) : isB (decodeN n b0 b1 b2 b3).1 = decide (b0 = 32) ∧ 1 ≤ (decodeN n b0 b1 b2 b3).2 ∧ (decodeN n b0 b1 b2 b3).2 ≤ n ∧ (b0 = 32 → (decodeN n b0 b1 b2 b3).2 = 1) ∧
    (1 < (decodeN n b0 b1 b2 b3).2 → b1 ≠ 32) ∧ (2 < (decodeN n b0 b1 b2 b3).2 → b2 ≠ 32) ∧ (3 < (decodeN n b0 b1 b2 b3).2 → b3 ≠ 32) ∧ (decodeN n b0 b1 b2 b3).2 ≤ 4 := by
  unfold isB decodeN
  by_cases hb : b0 < 128
  · rw [if_pos hb]
    refine ⟨?_, by simp only; omega, by simp only; omega, fun _ => rfl, ?_, ?_, ?_, ?_⟩
    · by_cases h : b0 = 32 <;> simp [h]
    all_goals (simp only; omega)
  · rw [if_neg hb]
    have e : decide (b0 = 32) = false := by simp; omega
    rw [e]
    repeat' split
    all_goals (refine ⟨by simp; try omega, ?_, ?_, ?_, ?_, ?_, ?_, ?_⟩ <;> simp only <;> omega)
/-- A step over the letters of a rune that is no blank. -/
theorem spansB_skip (s : ByteArray) (f a : Nat) (acc : List (Nat × Nat)) : ∀ (j pos : Nat), (∀ i, i < j → (s.get! (pos + i)).toNat ≠ 32) → spansB s (f + j) pos (some a) acc = spansB s f (pos + j) (some a) acc
  | 0, _, _ => rfl
  | j + 1, pos, h => by
    rw [show f + (j + 1) = (f + j) + 1 by omega, spB3 _ _ _ _ _ (by have := h 0 (by omega); simpa using this)]
    rw [spansB_skip s f a acc j (pos + 1) (fun i hi => by have := h (i + 1) (by omega); rwa [show pos + (i + 1) = pos + 1 + i by omega] at this), show pos + 1 + j = pos + (j + 1) by omega]
theorem spans_same (s : ByteArray) : ∀ (f pos : Nat) (st : Option Nat) (acc : List (Nat × Nat)), s.size - pos ≤ f → spansFromP isB s f pos st acc = spansB s (s.size - pos) pos st acc
  | 0, pos, st, acc, h => by
    rw [show s.size - pos = 0 by omega]
    rfl
  | f + 1, pos, st, acc, h => by
    by_cases hp : pos < s.size
    · have hd := decN_blank (s.size - pos) (s.get! pos).toNat (s.get! (pos + 1)).toNat (s.get! (pos + 2)).toNat (s.get! (pos + 3)).toNat (by omega)
      rw [← decode_at] at hd
      obtain ⟨K, hK⟩ : ∃ K, (Utf8.decode s pos).2 = K := ⟨_, rfl⟩
      rw [hK] at hd
      obtain ⟨h1, h2, h3, h4, h5, h6, h7, h8⟩ := hd
      unfold spansFromP
      rw [if_pos hp, h1, hK]
      obtain ⟨m, hm⟩ : ∃ m, s.size - pos = m + 1 := ⟨s.size - pos - 1, by omega⟩
      by_cases hb : (s.get! pos).toNat = 32
      · have hK1 := h4 hb
        subst hK1
        rw [hm, if_pos (decide_eq_true hb)]
        have e : s.size - (pos + 1) = m := by omega
        cases st with
        | none => simp only; rw [spans_same s f _ _ _ (by omega), e, spB0 _ _ _ _ hb]
        | some a => simp only; rw [spans_same s f _ _ _ (by omega), e, spB1 _ _ _ _ _ hb]
      · rw [hm, if_neg (by simpa using hb)]
        obtain ⟨j, hj⟩ : ∃ j, K = j + 1 := ⟨K - 1, by omega⟩
        have hsk : ∀ i, i < j → (s.get! (pos + 1 + i)).toNat ≠ 32 := fun i hi => by
          have hc : i = 0 ∨ i = 1 ∨ i = 2 := by omega
          rcases hc with rfl | rfl | rfl
          · exact h5 (by omega)
          · exact h6 (by omega)
          · exact h7 (by omega)
        have e : m = (s.size - (pos + K)) + j := by omega
        have e2 : pos + 1 + j = pos + K := by omega
        cases st with
        | none => simp only; rw [spans_same s f _ _ _ (by omega), spB2 _ _ _ _ hb, e, spansB_skip s _ _ _ j (pos + 1) hsk, e2]
        | some a => simp only; rw [spans_same s f _ _ _ (by omega), spB3 _ _ _ _ _ hb, e, spansB_skip s _ _ _ j (pos + 1) hsk, e2]
    · unfold spansFromP
      rw [if_neg hp, show s.size - pos = 0 by omega]
      rfl
theorem words_bytes (s : ByteArray) : wordsF s = (closeSpans s (spansB s s.size 0 none [])).map fun x => s.extract x.1 x.2 := by
  unfold wordsF goFieldsP spansOfP
  rw [spans_same s s.size 0 none [] (by omega), Nat.sub_zero]
/-- The words of a row of bytes, behind the letters of a word that is under way. -/
def splitL : List UInt8 → List UInt8 → List ByteArray
  | cur, [] => if cur = [] then [] else [⟨cur.toArray⟩]
  | cur, b :: l => if b.toNat = 32 then (if cur = [] then splitL [] l else ⟨cur.toArray⟩ :: splitL [] l) else splitL (cur ++ [b]) l
def curOf (s : ByteArray) (pos : Nat) : Option Nat → List UInt8
  | some a => pieceU s.data.toList a pos
  | none => []
theorem get_cons (s : ByteArray) {pos : Nat} (h : pos < s.size) : s.data.toList.drop pos = s.get! pos :: s.data.toList.drop (pos + 1) := by
  have hl : pos < s.data.toList.length := by simpa using h
  rw [List.drop_eq_getElem_cons hl]
  congr 1
  have h2 : pos < s.data.size := by simpa using h
  show _ = s.data[pos]!
  rw [getElem!_pos s.data pos h2, Array.getElem_toList]
theorem ext_piece (s : ByteArray) (a b : Nat) : s.extract a b = ⟨(pieceU s.data.toList a b).toArray⟩ := extract_eq s a b
theorem piece_snoc (s : ByteArray) {a pos : Nat} (ha : a ≤ pos) (h : pos < s.size) : pieceU s.data.toList a pos ++ [s.get! pos] = pieceU s.data.toList a (pos + 1) := by
  rw [← pieceU_grow _ a pos 1 ha, get_cons s h]
  rfl
theorem spans_split (s : ByteArray) : ∀ (f pos : Nat) (st : Option Nat) (acc : List (Nat × Nat)), f = s.size - pos → pos ≤ s.size → (∀ a, st = some a → a < pos) →
    (closeSpans s (spansB s f pos st acc)).map (fun x => s.extract x.1 x.2) = acc.map (fun x => s.extract x.1 x.2) ++ splitL (curOf s pos st) (s.data.toList.drop pos)
  | 0, pos, st, acc, hf, hp, hs => by
    have he : pos = s.size := by omega
    have hd : s.data.toList.drop pos = [] := List.drop_eq_nil_of_le (by rw [he]; simp)
    rw [hd, spansB]
    cases st with
    | none => simp [closeSpans, curOf, splitL]
    | some a =>
      have hne := pieceU_ne s.data.toList a pos (hs a rfl) (by simpa using hp)
      rw [splitL, if_neg (show ¬ curOf s pos (some a) = [] from hne)]
      simp only [closeSpans, curOf, List.map_append, List.map_cons, List.map_nil]
      rw [ext_piece, he]
  | f + 1, pos, st, acc, hf, hp, hs => by
    have hlt : pos < s.size := by omega
    rw [get_cons s hlt, splitL]
    by_cases hb : (s.get! pos).toNat = 32
    · rw [if_pos hb]
      cases st with
      | none =>
        rw [spB0 _ _ _ _ hb]
        simp only [curOf, if_true]
        exact spans_split s f (pos + 1) none acc (by omega) (by omega) (fun a h => by cases h)
      | some a =>
        have hne := pieceU_ne s.data.toList a pos (hs a rfl) (by simpa using hp)
        rw [spB1 _ _ _ _ _ hb, if_neg (show ¬ curOf s pos (some a) = [] from hne)]
        rw [spans_split s f (pos + 1) none (acc ++ [(a, pos)]) (by omega) (by omega) (fun a h => by cases h), List.map_append, List.append_assoc]
        simp only [List.map_cons, List.map_nil, ext_piece, curOf]
        rfl
    · rw [if_neg hb]
      cases st with
      | none =>
        rw [spB2 _ _ _ _ hb]
        simp only [curOf, List.nil_append]
        rw [spans_split s f (pos + 1) (some pos) acc (by omega) (by omega) (fun a h => by injection h with h; omega)]
        congr 2
        have := piece_snoc s (a := pos) (Nat.le_refl _) hlt
        show pieceU s.data.toList pos (pos + 1) = _
        rw [← this]
        simp [pieceU]
      | some a =>
        rw [spB3 _ _ _ _ _ hb]
        simp only [curOf]
        rw [spans_split s f (pos + 1) (some a) acc (by omega) (by omega) (fun b h => by injection h with h; have := hs a rfl; omega), piece_snoc s (by have := hs a rfl; omega) hlt]
        rfl
theorem words_split (s : ByteArray) : wordsF s = splitL [] s.data.toList := by
  unfold wordsF goFieldsP spansOfP
  rw [spans_same s s.size 0 none [] (by omega), Nat.sub_zero, spans_split s s.size 0 none [] rfl (Nat.zero_le _) (fun a h => by cases h)]
  rfl
theorem splitL_len : ∀ (l cur : List UInt8), (splitL cur l).length ≤ l.length + 1
  | [], cur => by unfold splitL; split <;> simp
  | b :: l, cur => by
    unfold splitL
    have h1 := splitL_len l []
    have h2 := splitL_len l (cur ++ [b])
    split
    · split
      · simp only [List.length_cons]; omega
      · simp only [List.length_cons]; omega
    · simp only [List.length_cons]; omega
theorem words_len (s : ByteArray) : (wordsF s).length ≤ s.size + 1 := by
  rw [words_split]
  have := splitL_len s.data.toList []
  simpa using this
/-- A word ahead of more. -/
theorem splitL_word : ∀ (w cur l : List UInt8), (∀ b ∈ w, b.toNat ≠ 32) → splitL cur (w ++ l) = splitL (cur ++ w) l
  | [], cur, l, _ => by simp
  | b :: w, cur, l, h => by
    rw [List.cons_append, splitL, if_neg (h b (by simp)), splitL_word w (cur ++ [b]) l (fun c hc => h c (by simp [hc]))]
    simp
theorem splitL_blank (cur : List UInt8) (b : UInt8) (l : List UInt8) (hb : b.toNat = 32) (hc : cur ≠ []) : splitL cur (b :: l) = ⟨cur.toArray⟩ :: splitL [] l := by
  rw [splitL, if_pos hb, if_neg hc]
theorem splitL_blanks (l : List UInt8) : ∀ n : Nat, splitL [] (List.replicate n 32 ++ l) = splitL [] l
  | 0 => rfl
  | n + 1 => by
    rw [List.replicate_succ, List.cons_append, splitL, if_pos (by decide), if_pos rfl, splitL_blanks l n]
end Go.Proofs.YtcdogkabdhbjmaaDoor
