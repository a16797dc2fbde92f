/- Lines as mathematics: paragraphs cut at breaks are parts; what the end of a line makes of levels. No function of the program. -/
import Derived.Test.YtbnjflkafdkcpaaPartsD
namespace Go.Proofs.Ytbnjflkafdkcpaa
open Go.RowKit

/-- A paragraph, cut at breaks. -/
def lnCut (hi : Int) : Int → List Int → List Sp
  | lo, [] => [(lo, hi)]
  | lo, b :: bs => if lo < b ∧ b < hi then (lo, b) :: lnCut hi b bs else lnCut hi lo bs
def linesF (l : List Sp) (bs : List Int) : List Sp := l.flatMap fun s => lnCut s.2 s.1 bs
theorem lnCut_parts (hi n : Int) (rest : List Sp) : ∀ (bs : List Int) (lo : Int), 0 ≤ lo → lo < hi → partsFrom lo (lnCut hi lo bs ++ rest) n = partsFrom hi rest n
  | [], lo, h0, h1 => by
    have hr : rightB (lo, hi) = true := by simp [rightB]; omega
    simp [lnCut, partsFrom, hr]
  | b :: bs, lo, h0, h1 => by
    rw [lnCut]
    split
    · rename_i hb
      have hr : rightB (lo, b) = true := by simp [rightB]; omega
      have := lnCut_parts hi n rest bs b (by omega) hb.2
      simp [partsFrom, hr, this]
    · exact lnCut_parts hi n rest bs lo h0 h1
/-- Lines of parts are parts. -/
theorem lines_from (bs : List Int) (n : Int) : ∀ (l : List Sp) (e : Int), partsFrom e l n = true → partsFrom e (linesF l bs) n = true
  | [], e, h => h
  | s :: l, e, h => by
    simp only [partsFrom, Bool.and_eq_true, beq_iff_eq] at h
    have hs : linesF (s :: l) bs = lnCut s.2 s.1 bs ++ linesF l bs := by simp [linesF]
    obtain ⟨⟨hr, he⟩, hl⟩ := h
    have hr' : 0 ≤ s.1 ∧ s.1 < s.2 := by simpa [rightB] using hr
    rw [hs, ← he, lnCut_parts s.2 n _ bs s.1 hr'.1 hr'.2]
    exact lines_from bs n l s.2 hl
/-- What goes with the end of a line. -/
def blkB (c : Int) : Bool := decide (c = 12) || (decide (19 ≤ c) && decide (c ≤ 22)) || ((decide (14 ≤ c) && decide (c ≤ 18)) || decide (c = 9))
def endsF : List Int → Bool
  | [] => true
  | c :: l => if c = 11 ∨ c = 10 then true else if blkB c = true then endsF l else false
/-- The levels of a line: classes and levels of its places. -/
def lineF (base : Int) : List Int → List Int → List Int
  | c :: cs, n :: ns => (if endsF (c :: cs) = true then base else n) :: lineF base cs ns
  | _, _ => []
theorem lineF_len (base : Int) : ∀ (cs ns : List Int), cs.length = ns.length → (lineF base cs ns).length = ns.length
  | [], [], _ => rfl
  | _ :: cs, _ :: ns, h => by simp [lineF, lineF_len base cs ns (by simpa using h)]
  | [], _ :: _, h => by simp at h
  | _ :: _, [], h => by simp at h
theorem lineF_get (base : Int) {c n : Int} : ∀ {cs ns : List Int} {i : Nat}, cs[i]? = some c → ns[i]? = some n → (lineF base cs ns)[i]? = some (if endsF (cs.drop i) = true then base else n)
  | [], _, _, h, _ => by simp at h
  | _ :: _, [], _, _, h => by simp at h
  | x :: cs, y :: ns, 0, hc, hn => by
    obtain rfl := Option.some.inj hn
    rfl
  | x :: cs, y :: ns, i + 1, hc, hn => by
    rw [lineF, List.getElem?_cons_succ, List.drop_succ_cons]
    exact lineF_get base (by simpa using hc) (by simpa using hn)
/-- A strong place, and a digit's, stays. -/
theorem ends_strong {c : Int} (hc : c = 0 ∨ c = 1 ∨ c = 2 ∨ c = 3 ∨ c = 6) (l : List Int) : endsF (c :: l) = false := by
  rcases hc with rfl | rfl | rfl | rfl | rfl <;> rfl
end Go.Proofs.Ytbnjflkafdkcpaa
