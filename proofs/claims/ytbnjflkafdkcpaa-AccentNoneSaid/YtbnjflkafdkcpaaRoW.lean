/- The reference's turn, walked. -/
import Derived.Test.YtbnjflkafdkcpaaRoV
namespace Go.Proofs.Ytbnjflkafdkcpaa
open Go.RowKit

def nV (xs : List Nat) : List Value := xs.map fun i => .int .i64 ((i : Nat) : Int)
theorem nV_len (xs : List Nat) : (nV xs).length = xs.length := by simp [nV]
theorem nV_at {xs : List Nat} {k i : Nat} (h : xs[k]? = some i) : (nV xs)[k]? = some (.int .i64 (i : Int)) := by unfold nV; rw [List.getElem?_map, h]; rfl
theorem nV_swap (a mm r : List Nat) (x y : Nat) : ((nV (a ++ (x :: mm ++ [y]) ++ r)).set a.length (.int .i64 (y : Int))).set (a.length + (mm.length + 1)) (.int .i64 (x : Int)) = nV ((a ++ [y]) ++ mm ++ (x :: r)) := by
  have e1 : (nV (a ++ (x :: mm ++ [y]) ++ r)).set a.length (.int .i64 (y : Int)) = nV ((a ++ [y]) ++ mm ++ (y :: r)) := by
    unfold nV
    rw [← List.map_set]
    congr 1
    rw [List.append_assoc, List.set_append_right _ _ (Nat.le_refl _), Nat.sub_self]
    simp
  rw [e1]
  unfold nV
  rw [← List.map_set]
  congr 1
  rw [List.set_append_right _ _ (by simp)]
  simp
theorem two_ends {m : List Nat} (h : 1 < m.length) : ∃ x mm y, m = x :: mm ++ [y] := by
  cases m with
  | nil => simp at h
  | cons x l =>
    refine ⟨x, l.dropLast, l.getLast (by intro e; subst e; simp at h), ?_⟩
    rw [List.cons_append, List.dropLast_concat_getLast]
set_option maxRecDepth 100000 in
set_option maxHeartbeats 2000000 in
theorem roTurn_any (g n cv : Nat) (a m r : List Nat) (base : Nat) (w : World) (ho : w.ownsRow base 3 1 (.slice (some ⟨g, 0, none⟩) n cv) n (nV (a ++ m ++ r))) (_hcv : n ≤ cv) (hn : n ≤ 100000) :
    Calls Try.prog 35 #[.slice (some ⟨g, 0, none⟩) n cv, .int .i64 (a.length : Nat), .int .i64 ((a.length + m.length : Nat) : Int)] w fun e w' => (∃ v, e = .returned v) ∧ w'.ownsRow base 3 1 (.slice (some ⟨g, 0, none⟩) n cv) n (nV (a ++ m.reverse ++ r)) ∧ Below base w w' := by
  have HL0 := Lib.hid ho
  have hlen : a.length + m.length + r.length = n := by have := ho.1; rw [nV_len] at this; simp at this; omega
  clear ho
  go_enter Try.func35, Try.ntmps35
  go_wp2
  go_loopw [1, 2] (fun lo hi wr => ∃ a' m' r' : List Nat, lo = .int .i64 (a'.length : Nat) ∧ hi = .int .i64 ((a'.length + m'.length : Nat) : Int) ∧ a'.length + m'.length + r'.length = n ∧ a ++ m.reverse ++ r = a' ++ m'.reverse ++ r' ∧ wr.ownsRow base 3 1 (.slice (some ⟨g, 0, none⟩) n cv) n (nV (a' ++ m' ++ r')) ∧ Below base w wr) (fun lo hi _ => (intOf hi - intOf lo).toNat)
  case atStart => exact ⟨a, m, r, rfl, rfl, hlen, rfl, HL0.out, Below.refl _ _⟩
  case round =>
    obtain ⟨a', m', r', rfl, rfl, hl, he, hO, hb⟩ := hrel
    have HE := Lib.hid he
    have HO := Lib.hid hO
    have HB := Lib.hid hb
    clear he hO hb
    by_cases hm : 1 < m'.length
    · obtain ⟨x, mm, y, rfl⟩ := two_ends hm
      obtain ⟨la, hla⟩ : ∃ la, a'.length = la := ⟨_, rfl⟩
      obtain ⟨lm, hlm⟩ : ∃ lm, mm.length = lm := ⟨_, rfl⟩
      have hml : (x :: mm ++ [y]).length = lm + 2 := by simp; omega
      have HLA := Lib.hid hla
      have HLM := Lib.hid hlm
      rw [hml] at hl
      rw [hml, hla]
      have cx : wr.cell? ⟨g, la, none⟩ = some (.int .i64 (x : Int)) := by
        rw [HO.out.cellAt la (by omega), nV_at]
        rw [List.append_assoc, List.getElem?_append_right (by omega), show la - a'.length = 0 by omega]
        rfl
      have cy : wr.cell? ⟨g, la + (lm + 1), none⟩ = some (.int .i64 (y : Int)) := by
        rw [HO.out.cellAt _ (by omega), nV_at]
        rw [List.append_assoc, List.getElem?_append_right (by omega), show la + (lm + 1) - a'.length = lm + 1 by omega, List.getElem?_append_left (by rw [hml]; omega), List.cons_append, List.getElem?_cons_succ, List.getElem?_append_right (by omega), show lm - mm.length = 0 by omega]
        rfl
      have fx := (own_slot HO.out (j := la) (by omega)).2
      have HO1 := Lib.hid ((HO.out.stored la (.int .i64 (y : Int))).1)
      obtain ⟨⟨u1, cu1⟩, fu1⟩ := own_slot HO1.out (j := la + (lm + 1)) (by omega)
      have fy := (own_slot HO.out (j := la + (lm + 1)) (by omega)).2
      have HO2 := Lib.hid (show ((wr.setCell ⟨g, la, none⟩ (.int .i64 (y : Int))).setCell ⟨g, la + (lm + 1), none⟩ (.int .i64 (x : Int))).ownsRow base 3 1 (.slice (some ⟨g, 0, none⟩) n cv) n (nV ((a' ++ [y]) ++ mm ++ (x :: r'))) by
        have h := (HO1.out.stored (la + (lm + 1)) (.int .i64 (x : Int))).1
        rw [← nV_swap a' mm r' x y, HLA.out, HLM.out]
        exact h)
      have HB2 := Lib.hid ((HB.out.setCell (p := ⟨g, la, none⟩) (HO.out.lt g rfl).1 (.int .i64 (y : Int))).setCell (p := ⟨g, la + (lm + 1), none⟩) (HO.out.lt g rfl).1 (.int .i64 (x : Int)))
      have HE2 := Lib.hid (HE.out.trans (show a' ++ (x :: mm ++ [y]).reverse ++ r' = (a' ++ [y]) ++ mm.reverse ++ (x :: r') by simp))
      obtain ⟨lb, hlb⟩ : ∃ lb, la + (lm + 1) = lb := ⟨_, rfl⟩
      rw [hlb] at cy cu1 fu1 fy HO2 HB2
      rw [show la + (lm + 2) = lb + 1 by omega]
      have i2 : (1 : Int) < ((lb : Int) + 1) - (la : Int) := by omega
      have i3 : (0 : Int) ≤ (la : Int) := by omega
      have i4 : (la : Int) < (n : Int) := by omega
      have i5 : (0 : Int) ≤ (lb : Int) := by omega
      have i6 : (lb : Int) < (n : Int) := by omega
      have i7 : ((lb : Int) + 1) - 1 = (lb : Int) := by omega
      have HLB := Lib.hid hlb
      clear hlm hml hla hlb
      go_wp2
      go_region
      have HO3 := Lib.hid (own_below HO2.out (Below.refl _ _).drew)
      have HB3 := Lib.hid HB2.out.drew
      go_wp2
      go_roundw
      case rel =>
        have q1 := HLA.out
        have q2 := HLM.out
        have q3 := HLB.out
        have p1 : (la : Int) + 1 = (((a' ++ [y]).length : Nat) : Int) := by simp; omega
        have p2 : (lb : Int) = (((a' ++ [y]).length + mm.length : Nat) : Int) := by simp; omega
        have p3 : (a' ++ [y]).length + mm.length + (x :: r').length = n := by simp; omega
        exact ⟨a' ++ [y], mm, x :: r', by rw [← p1], by rw [← p2], p3, HE2.out, HO3.out, HB3.out⟩
      case measure => simp [intOf]; have := HLB.out; omega
    · have i2 : ¬ (1 : Int) < ((a'.length + m'.length : Nat) : Int) - (a'.length : Int) := by omega
      have HT := Lib.hid (show a ++ m.reverse ++ r = a' ++ m' ++ r' by
        rw [HE.out]
        congr 2
        match m', hm with
        | [], _ => rfl
        | [z], _ => rfl
        | _ :: _ :: _, h => simp at h)
      go_wp2
      go_end0
      exact ⟨⟨_, rfl⟩, by rw [← List.append_assoc, HT.out]; exact HO.out, HB.out⟩
end Go.Proofs.Ytbnjflkafdkcpaa
