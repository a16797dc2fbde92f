/- Options as words: the words, what they say, the options of words and the words of options. -/
import Derived.Test.YtcdogkabdhbjmaaDoorOpD
import Derived.Test.YtcdogkabdhbjmaaDoorSlM
namespace Go.Proofs.YtcdogkabdhbjmaaDoor
open Go.Lib

theorem ba_beq {a b : ByteArray} (h : (a == b) = true) : a = b := by
  obtain ⟨a⟩ := a
  obtain ⟨b⟩ := b
  have : (a == b) = true := h
  rw [eq_of_beq this]
theorem ba_ne {a b : ByteArray} (h : ¬ a = b) : (a.toList == b.toList) = false := by
  rw [Lib.toList_data, Lib.toList_data]
  apply Bool.eq_false_iff.2
  intro e
  apply h
  obtain ⟨⟨a⟩⟩ := a
  obtain ⟨⟨b⟩⟩ := b
  have : a = b := eq_of_beq e
  rw [this]
/-- The words, in their order: the word, its field, the field's number. -/
def termsL : List (ByteArray × Nat × Int) := [
  (⟨#[108, 116, 114]⟩, 0, 0),
  (⟨#[114, 116, 108]⟩, 0, 1),
  (⟨#[102, 105, 114, 115, 116, 45, 108, 116, 114]⟩, 0, 2),
  (⟨#[102, 105, 114, 115, 116, 45, 114, 116, 108]⟩, 0, 3),
  (⟨#[108, 97, 109, 45, 114, 101, 115, 105, 122, 101]⟩, 1, 1),
  (⟨#[108, 97, 109, 45, 110, 101, 97, 114]⟩, 1, 2),
  (⟨#[108, 97, 109, 45, 98, 101, 103, 105, 110]⟩, 1, 3),
  (⟨#[108, 97, 109, 45, 101, 110, 100]⟩, 1, 4),
  (⟨#[109, 97, 114, 107, 45, 105, 115, 111, 108, 97, 116, 101, 100]⟩, 2, 1),
  (⟨#[109, 97, 114, 107, 45, 109, 101, 100, 105, 97, 108]⟩, 2, 2),
  (⟨#[109, 97, 114, 107, 45, 114, 101, 109, 111, 118, 101]⟩, 2, 3),
  (⟨#[109, 97, 114, 107, 45, 116, 97, 116, 119, 101, 101, 108]⟩, 2, 4),
  (⟨#[116, 111, 45, 97, 114, 97, 98, 105, 99]⟩, 3, 1),
  (⟨#[116, 111, 45, 101, 117, 114, 111, 112, 101, 97, 110]⟩, 3, 2),
  (⟨#[99, 111, 110, 116, 101, 120, 116, 45, 108, 116, 114]⟩, 3, 3),
  (⟨#[99, 111, 110, 116, 101, 120, 116, 45, 97, 114, 97, 98, 105, 99]⟩, 3, 4),
  (⟨#[101, 97, 115, 116, 101, 114, 110]⟩, 4, 1),
  (⟨#[108, 101, 116, 116, 101, 114, 115]⟩, 5, 1),
  (⟨#[116, 104, 114, 111, 117, 103, 104]⟩, 6, 1),
  (⟨#[112, 105, 108, 101]⟩, 7, 1),
  (⟨#[115, 101, 101, 110]⟩, 8, 1),
  (⟨#[121, 101, 104]⟩, 9, 1),
  (⟨#[114, 101, 111, 114, 100, 101, 114]⟩, 10, 1),
  (⟨#[109, 97, 114, 107, 115]⟩, 11, 1),
  (⟨#[109, 105, 114, 114, 111, 114]⟩, 12, 1),
  (⟨#[115, 116, 114, 105, 112]⟩, 13, 1)]
theorem terms_len : termsL.length = 26 := rfl
namespace Opt
def bi (b : Bool) : Int := if b = true then 1 else 0
/-- The numbers of all fields. -/
def fields (o : Opt) : List Int := [o.d, o.l, o.t, o.g, bi o.b0, bi o.b1, bi o.b2, bi o.b3, bi o.b4, bi o.b5, bi o.b6, bi o.b7, bi o.b8, bi o.b9]
/-- Options with a field's number. -/
def put (o : Opt) (k : Nat) (n : Int) : Opt := match k with
  | 0 => { o with d := n }
  | 1 => { o with l := n }
  | 2 => { o with t := n }
  | 3 => { o with g := n }
  | 4 => { o with b0 := true }
  | 5 => { o with b1 := true }
  | 6 => { o with b2 := true }
  | 7 => { o with b3 := true }
  | 8 => { o with b4 := true }
  | 9 => { o with b5 := true }
  | 10 => { o with b6 := true }
  | 11 => { o with b7 := true }
  | 12 => { o with b8 := true }
  | 13 => { o with b9 := true }
  | _ => o
end Opt
theorem bi_eq (b : Bool) : (Opt.bi b == 1) = b := by cases b <;> rfl
theorem fields_put (o : Opt) (k : Nat) (n : Int) (hk : k < 14) (hn : 4 ≤ k → n = 1) : (o.put k n).fields = o.fields.set k n := by
  have hc : k = 0 ∨ k = 1 ∨ k = 2 ∨ k = 3 ∨ k = 4 ∨ k = 5 ∨ k = 6 ∨ k = 7 ∨ k = 8 ∨ k = 9 ∨ k = 10 ∨ k = 11 ∨ k = 12 ∨ k = 13 := by omega
  rcases hc with rfl | rfl | rfl | rfl | rfl | rfl | rfl | rfl | rfl | rfl | rfl | rfl | rfl | rfl
  · rfl
  · rfl
  · rfl
  · rfl
  all_goals (rw [hn (by omega)]; rfl)
theorem terms_ok : ∀ t ∈ termsL, t.2.1 < 14 ∧ (4 ≤ t.2.1 → t.2.2 = 1) := by decide +kernel
/-- What a word says: its field, the field's number. -/
def findT (w : ByteArray) : Option (Nat × Int) := (termsL.find? fun t => t.1 == w).map (·.2)
/-- The options of words, behind those that are through. -/
def saidL : List ByteArray → Opt → List Bool → Opt × Int
  | [], o, _ => (o, 0)
  | w :: l, o, kn => match findT w with
    | none => (Opt.zero, 11)
    | some x => if kn.getD x.1 false = true then (Opt.zero, 12) else saidL l (o.put x.1 x.2) (kn.set x.1 true)
def saidF (l : List ByteArray) : Opt × Int := saidL l Opt.zero (List.replicate 14 false)
def parseF (s : ByteArray) : Opt × Int := if 1000 < s.size then (Opt.zero, 6) else if (saidF (wordsF s)).2 = 0 then (if (saidF (wordsF s)).1.err = 0 then ((saidF (wordsF s)).1, 0) else (Opt.zero, (saidF (wordsF s)).1.err)) else (Opt.zero, (saidF (wordsF s)).2)
/-- The words of options. -/
def wordsL (o : Opt) : List ByteArray := termsL.filterMap fun t => if o.fields.getD t.2.1 0 = t.2.2 then some t.1 else none
def joinB : List ByteArray → List UInt8
  | [] => []
  | [w] => w.data.toList
  | w :: l => w.data.toList ++ 32 :: joinB l
def printF (o : Opt) : ByteArray × Int := if o.err = 0 then (⟨(joinB (wordsL o)).toArray⟩, 0) else (⟨#[]⟩, o.err)
theorem findT_ok {w : ByteArray} {x : Nat × Int} (h : findT w = some x) : x.1 < 14 ∧ (4 ≤ x.1 → x.2 = 1) := by
  unfold findT at h
  cases hf : termsL.find? fun t => t.1 == w with
  | none => rw [hf] at h; cases h
  | some t =>
    rw [hf] at h
    injection h with h
    subst h
    exact terms_ok t (List.mem_of_find?_eq_some hf)
end Go.Proofs.YtcdogkabdhbjmaaDoor
