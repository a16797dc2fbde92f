/- cluster's fit and covered, walked. -/
import Derived.Test.YtnmefomipldalaaOutsP
import Derived.Test.YtnmefomipldalaaSpRightP
import Derived.Test.YtnmefomipldalaaClD
namespace Go.Proofs.Ytnmefomipldalaa
open Go.RowKit

def fitC (n m : Int) (c : Cl) : Bool := rightB c.1 && decide (c.1.2 ≤ n) && (rightB c.2 && decide (c.2.2 ≤ m))
def fitN (n m : Int) : Bool := decide (0 ≤ n ∧ n ≤ 16777216 ∧ 0 ≤ m ∧ m ≤ 16777216)
def fitB (n m : Int) (l : List Cl) : Bool := fitN n m && l.all (fitC n m)
theorem all_split {l : List Cl} {k : Nat} {c : Cl} (f : Cl → Bool) (h : l[k]? = some c) : (l.drop k).all f = (f c && (l.drop (k + 1)).all f) := by
  rw [dropCons h]; rfl
set_option maxRecDepth 100000 in
set_option maxHeartbeats 2000000 in
theorem fit_any (n m : Int) (A : Option Addr) (q c : Nat) (l : List Cl) (w : World) (hr : Rd w 4 A q (cellsC l)) (hq : q ≤ maxLen) :
    Calls Try.prog 46 #[.int .i64 n, .int .i64 m, .slice A q c] w fun e w' => e = .returned (.bool (fitB n m l)) ∧ Below w.heap.size w w' := by
  have hlen : l.length = q := by have := hr.1; rw [cellsC_len] at this; omega
  have HL := Lib.hid hlen
  unfold maxLen at hq
  clear hlen
  by_cases hN : fitN n m = true
  · have HN := Lib.hid hN
    unfold fitN at hN
    simp at hN
    obtain ⟨n1, n2, n3, n4⟩ := hN
    go_enter Try.func46, Try.ntmps46
    go_wp2_with fail
    go_loopw [25] (fun i wr => ∃ k : Nat, k ≤ q ∧ i = .int .i64 (k : Int) ∧ fitB n m l = (l.drop k).all (fitC n m) ∧ Below w.heap.size w wr) (fun i _ => q - (intOf i).toNat)
    case atStart => exact ⟨0, Nat.zero_le _, rfl, by unfold fitB; rw [HN.out, List.drop_zero]; rfl, Below.refl _ _⟩
    case round =>
      obtain ⟨k, hk, rfl, hf, hb⟩ := hrel
      have HF := Lib.hid hf
      clear hf
      by_cases hlt : k < q
      · obtain ⟨x, hx⟩ : ∃ x, l[k]? = some x := ⟨_, List.getElem?_eq_getElem (by rw [HL.out]; exact hlt)⟩
        have HS := Lib.hid (all_split (fitC n m) hx)
        obtain ⟨ad, rfl, hab, c0, c1, c2, c3⟩ := (hr.below hb).clus hx
        obtain ⟨⟨x1, x2⟩, ⟨x3, x4⟩⟩ := x
        simp only at c0 c1 c2 c3
        clear hx
        have hb1 := hb.alloc hb.size (.cells #[.int .i64 x1, .int .i64 x2, .int .i64 x3, .int .i64 x4] 33)
        have hn := cells_new wr [.int .i64 x1, .int .i64 x2, .int .i64 x3, .int .i64 x4] 33
        have d1 := hn 1 _ rfl
        have d2 := hn 2 _ rfl
        have d3 := hn 3 _ rfl
        rw [addNew] at d1 d2 d3
        clear hn
        have HFC := Lib.hid (show fitC n m ((x1, x2), (x3, x4)) = (rightB (x1, x2) && decide (x2 ≤ n) && (rightB (x3, x4) && decide (x4 ≤ m))) from rfl)
        go_wp2_with fail
        refine (prRight_any x1 x2 _).mono ?_
        rintro e w1 ⟨rfl, hw1⟩
        have g1 := cell_below hw1 d1
        have g2 := cell_below hw1 d2
        have g3 := cell_below hw1 d3
        have hb2 := hb1.trans (hw1.mono hb1.size)
        clear d1 d2 d3
        rcases h1 : rightB (x1, x2) with _ | _
        · go_wp2_with fail
          go_ret
          exact ⟨retB (by rw [HF.out, HS.out, HFC.out, h1]; rfl), hb2⟩
        · by_cases h2 : x2 ≤ n
          · go_wp2_with fail
            refine (prRight_any x3 x4 _).mono ?_
            rintro e w2 ⟨rfl, hw2⟩
            have g4 := cell_below hw2 g3
            have hb3 := hb2.trans (hw2.mono hb2.size)
            rcases h3 : rightB (x3, x4) with _ | _
            · go_wp2_with fail
              go_ret
              exact ⟨retB (by rw [HF.out, HS.out, HFC.out, h1, h3]; simp), hb3⟩
            · by_cases h4 : x4 ≤ m
              · go_wp2_with fail
                go_roundw
                case rel => exact ⟨k + 1, by omega, by go_num, by rw [HF.out, HS.out, HFC.out, h1, h3]; simp [h2, h4], hb3⟩
                case measure => simp [intOf]; omega
              · go_wp2_with fail
                go_ret
                exact ⟨retB (by rw [HF.out, HS.out, HFC.out, h1, h3, decide_eq_true h2, decide_eq_false (show ¬x4 ≤ m by omega)]; rfl), hb3⟩
          · go_wp2_with fail
            go_ret
            exact ⟨retB (by rw [HF.out, HS.out, HFC.out, h1, decide_eq_false (show ¬x2 ≤ n by omega)]; rfl), hb2⟩
      · have hkq : k = q := by omega
        have HKQ := Lib.hid hkq
        go_wp2_with fail
        go_ret
        exact ⟨retB (by rw [HF.out, HKQ.out, ← HL.out, List.drop_length]; rfl), hb⟩
  · have HN := Lib.hid (show fitB n m l = false by unfold fitB; rw [Bool.eq_false_iff.2 hN]; rfl)
    unfold fitN at hN
    simp at hN
    go_enter Try.func46, Try.ntmps46
    have hc : n < 0 ∨ (0 ≤ n ∧ 16777216 < n) ∨ (0 ≤ n ∧ n ≤ 16777216 ∧ m < 0) ∨ (0 ≤ n ∧ n ≤ 16777216 ∧ 0 ≤ m ∧ 16777216 < m) := by omega
    clear hN
    rcases hc with h | ⟨h, h'⟩ | ⟨h, h', h''⟩ | ⟨h, h', h'', h3⟩
    all_goals
      go_wp2_with fail
      go_ret
      exact ⟨retB (by rw [HN.out]), Below.refl _ _⟩
/-- Whether spans by their Lo leave no place out, from e on; where they end. -/
def covGo : Int → List Sp → Option Int
  | e, [] => some e
  | e, s :: l => if e < s.1 then none else covGo (if e < s.2 then s.2 else e) l
def covB (m : Int) (l : List Sp) : Bool := match covGo 0 l with
  | some e => decide (e = m)
  | none => false
theorem covGo_next {l : List Sp} {k : Nat} {s : Sp} (h : l[k]? = some s) (e : Int) : covGo e (l.drop k) = if e < s.1 then none else covGo (if e < s.2 then s.2 else e) (l.drop (k + 1)) := by
  rw [dropCons h]; rfl
set_option maxRecDepth 100000 in
set_option maxHeartbeats 2000000 in
theorem covered_any (m : Int) (A : Option Addr) (q c : Nat) (l : List Cl) (w : World) (hr : Rd w 4 A q (cellsC l)) (hq : q ≤ 1000000) :
    Calls Try.prog 47 #[.int .i64 m, .slice A q c] w fun e w' => ∃ l', List.Perm l' (l.map Prod.snd) ∧ LoSorted l' ∧ e = .returned (.bool (covB m l')) ∧ Below w.heap.size w w' := by
  go_enter Try.func47, Try.ntmps47
  go_wp2_with fail
  refine (prOuts_any A q c l w hr hq).mono ?_
  rintro e w1 ⟨v, l', rfl, hp, hs, hown, hb1⟩
  have HPS := Lib.hid (And.intro hp hs)
  have hlen : l'.length = q := by have := hown.1; rw [cellsS_len] at this; omega
  have HL := Lib.hid hlen
  clear hp hs hlen hr
  obtain ⟨V, cv, rfl, _⟩ := own_form hown
  go_wp2_with fail
  go_loopw [5, 11] (fun z i wr => ∃ (k : Nat) (e : Int), k ≤ q ∧ i = .int .i64 (k : Int) ∧ z = .int .i64 e ∧ covGo 0 l' = covGo e (l'.drop k) ∧ Below w1.heap.size w1 wr) (fun _ i _ => q - (intOf i).toNat)
  case atStart => exact ⟨0, 0, Nat.zero_le _, rfl, rfl, rfl, Below.refl _ _⟩
  case round =>
    obtain ⟨k, e, hk, rfl, rfl, hf, hb⟩ := hrel
    have HF := Lib.hid hf
    clear hf
    by_cases hlt : k < q
    · obtain ⟨s, hx⟩ : ∃ s, l'[k]? = some s := ⟨_, List.getElem?_eq_getElem (by rw [HL.out]; exact hlt)⟩
      have HS := Lib.hid (covGo_next hx e)
      obtain ⟨ad, rfl, hab, c0, c1⟩ := ((Rd.of_own hown).below hb).span hx
      obtain ⟨x1, x2⟩ := s
      simp only at c0 c1
      clear hx
      have hb2 := hb.alloc hb.size (.cells #[.int .i64 x1, .int .i64 x2] 31)
      have hb3 := hb1.trans (hb2.mono hb1.size)
      by_cases h1 : e < x1
      · have HC := Lib.hid (show covB m l' = false by unfold covB; rw [HF.out, HS.out, if_pos h1])
        go_wp2_with fail
        go_ret
        exact ⟨l', HPS.out.1, HPS.out.2, retB (by rw [HC.out]), hb3⟩
      · by_cases h2 : e < x2
        · go_wp2_with fail
          go_roundw
          case rel => exact ⟨k + 1, x2, by omega, by go_num, by first | rfl | go_num, by rw [HF.out, HS.out, if_neg h1, if_pos h2], hb2⟩
          case measure => simp [intOf]; omega
        · go_wp2_with fail
          go_roundw
          case rel => exact ⟨k + 1, e, by omega, by go_num, by first | rfl | go_num, by rw [HF.out, HS.out, if_neg h1, if_neg h2], hb2⟩
          case measure => simp [intOf]; omega
    · have hkq : k = q := by omega
      have HC := Lib.hid (show covGo 0 l' = some e by rw [HF.out, hkq, ← HL.out, List.drop_length]; rfl)
      have hb2 := hb1.trans (hb.mono hb1.size)
      go_wp2_with fail
      go_ret
      exact ⟨l', HPS.out.1, HPS.out.2, retB (by unfold covB; rw [HC.out]; first | rfl | simp | (by_cases h9 : e = m <;> simp [h9])), hb2⟩
end Go.Proofs.Ytnmefomipldalaa
