/- lamalef's form, within, Codes. -/
import Derived.Test.YtcjcimdembkbkaaLfP1
import Derived.Test.YtcjcimdembkbkaaJnA
import Derived.Test.YtcjcimdembkbkaaHp
import Derived.Test.YtcjcimdembkbkaaJnFo
import Derived.Deep.RegionWith
namespace Go.Proofs.Ytcjcimdembkbkaa
open Go.RowKit

def ligV (a f : Int) : Int := (ligF a f).1
def lfForm (ts : List Int) (i : Int) : Int := if jJoined ts (jAhead ts i) then 2 else 1
theorem lfForm_any (B : Option Addr) (m d : Nat) (ts : List Int) (i v : Int) (hv : lfForm ts i = v) (w : World) (hs : Rd w 1 B m (ts.map (Value.int .i64))) (hm : m ≤ 1000000) (hmd : m ≤ d) :
    Calls Try.prog 53 #[.slice B m d, .int .i64 i] w fun e w' => e = .returned (.int .i64 v) ∧ Below w.heap.size w w' := by
  have HA := Lib.hid (jnAhead_any B m d ts i w hs hm hmd)
  obtain ⟨q, hq⟩ : ∃ q, jAhead ts i = q := ⟨_, rfl⟩
  unfold lfForm at hv
  rw [hq] at HA hv
  have HJ := Lib.hid (fun w1 (h : Rd w1 1 B m (ts.map (Value.int .i64))) => jnJoined_any B m d ts q w1 h hm)
  obtain ⟨j, hj⟩ : ∃ j, jJoined ts q = j := ⟨_, rfl⟩
  rw [hj] at HJ hv
  have HS := Lib.hid hs
  clear hs hq hj
  cases j with
  | true =>
    obtain rfl : (2 : Int) = v := hv
    go_enter Try.func53, Try.ntmps53
    go_wp2_with (first
      | (go_at_call 15; with_reducible refine HA.out.mono ?_; rintro e w1 ⟨rfl, hb1⟩)
      | (go_at_call 19; with_reducible refine (HJ.out _ (HS.out.below hb1)).mono ?_; rintro e w2 ⟨rfl, rfl⟩)
      | fail)
    go_ret
    exact ⟨rfl, hb1⟩
  | false =>
    obtain rfl : (1 : Int) = v := hv
    go_enter Try.func53, Try.ntmps53
    go_wp2_with (first
      | (go_at_call 15; with_reducible refine HA.out.mono ?_; rintro e w1 ⟨rfl, hb1⟩)
      | (go_at_call 19; with_reducible refine (HJ.out _ (HS.out.below hb1)).mono ?_; rintro e w2 ⟨rfl, rfl⟩)
      | fail)
    go_ret
    exact ⟨rfl, hb1⟩
theorem lfWithin_any (A : Option Addr) (n c : Nat) (a b : Int) (v : Bool) (hv : decide (0 ≤ a ∧ a < n ∧ 0 ≤ b ∧ b < n) = v) (w : World) :
    Calls Try.prog 52 #[.slice A n c, .agg #[.int .i64 a, .int .i64 b]] w fun e w' => e = .returned (.bool v) ∧ Below w.heap.size w w' := by
  have hb := below_new w (.cells #[.int .i64 a, .int .i64 b] 37)
  have HB := Lib.hid hb
  clear hb
  have HV := Lib.hid hv
  clear hv
  go_enter Try.func52, Try.ntmps52
  go_wp2
  all_goals
    go_ret
    refine ⟨?_, HB.out⟩
    refine retB ?_
    rw [← HV.out]
    simp
    omega
/-- The codes of the first k pairs; 0 of the others. -/
def lcPart (xs ts : List Int) (l : List Sp) (k : Nat) : List Int := (List.range l.length).map fun j => if j < k then lfCode ligV xs ts (l.getD j (0, 0)) else 0
def lcAll (xs ts : List Int) (l : List Sp) : List Int := l.map (lfCode ligV xs ts)
theorem lcPart_zero (xs ts : List Int) (l : List Sp) : lcPart xs ts l 0 = List.replicate l.length 0 := by
  apply List.ext_getElem <;> simp [lcPart]
theorem lcPart_all (xs ts : List Int) (l : List Sp) : lcPart xs ts l l.length = lcAll xs ts l := by
  apply List.ext_getElem
  · simp [lcPart, lcAll]
  · intro i h1 h2
    have hi : i < l.length := by simpa [lcPart] using h1
    simp [lcPart, lcAll, hi]
theorem lcPart_len (xs ts : List Int) (l : List Sp) (k : Nat) : (lcPart xs ts l k).length = l.length := by simp [lcPart]
theorem lcPart_at {xs ts : List Int} {l : List Sp} {k : Nat} (hk : k < l.length) : (lcPart xs ts l k)[k]? = some 0 := by simp [lcPart, hk]
theorem lcPart_succ {xs ts : List Int} {l : List Sp} {k : Nat} {p : Sp} (hp : l[k]? = some p) : lcPart xs ts l (k + 1) = (lcPart xs ts l k).set k (lfCode ligV xs ts p) := by
  have hk := (List.getElem?_eq_some_iff.1 hp).1
  apply List.ext_getElem
  · simp [lcPart]
  · intro i h1 h2
    have hi : i < l.length := by simpa [lcPart] using h1
    rw [List.getElem_set]
    simp only [lcPart, List.getElem_map, List.getElem_range]
    by_cases e : k = i
    · subst e
      rw [if_pos (by omega), if_pos rfl]
      simp [hp]
    · rw [if_neg e]
      by_cases h : i < k
      · rw [if_pos (by omega), if_pos h]
      · rw [if_neg (by omega), if_neg h]
theorem lcPart_stay {xs ts : List Int} {l : List Sp} {k : Nat} {p : Sp} (hp : l[k]? = some p) (h0 : lfCode ligV xs ts p = 0) : lcPart xs ts l (k + 1) = lcPart xs ts l k := by
  rw [lcPart_succ hp, h0]
  have hk := (List.getElem?_eq_some_iff.1 hp).1
  have h := lcPart_at (xs := xs) (ts := ts) hk
  apply List.ext_getElem
  · simp
  · intro i h1 h2
    rw [List.getElem_set]
    split
    · rename_i e; subst e
      rw [List.getElem?_eq_getElem (by rw [lcPart_len]; exact hk)] at h
      exact (Option.some.inj h).symm
    · rfl
end Go.Proofs.Ytcjcimdembkbkaa
