/- The places of runs as they are seen are in the order in which places are seen. No function of the program. -/
import Derived.Test.YtaiefneimjdmhaaRuD
import Derived.Test.YtaiefneimjdmhaaRoD
import Derived.Test.YtaiefneimjdmhaaVgD
import Derived.Test.YtaiefneimjdmhaaOiD
namespace Go.Proofs.Ytaiefneimjdmhaa
open Go.RowKit

def toRn (r : Rg) : Rn := ⟨r.1.toNat, r.2.1.toNat, r.2.2⟩
theorem revR_map {α β : Type} (f : α → β) (p : β → Bool) : ∀ l acc : List α, revR p (acc.map f) (l.map f) = (revR (fun x => p (f x)) acc l).map f
  | [], acc => rfl
  | x :: l, acc => by
    rw [List.map_cons, revR, revR]
    by_cases h : p (f x) = true
    · rw [if_pos h, if_pos h]
      exact revR_map f p l (x :: acc)
    · rw [if_neg h, if_neg h, List.map_append, List.map_cons]
      congr 2
      exact revR_map f p l []
theorem revR_congr {α : Type} {p q : α → Bool} : ∀ {l acc : List α}, (∀ x ∈ l, p x = q x) → revR p acc l = revR q acc l
  | [], _, _ => rfl
  | x :: l, acc, h => by
    rw [revR, revR, h x (by simp), revR_congr (acc := x :: acc) fun y hy => h y (by simp [hy]), revR_congr (acc := []) fun y hy => h y (by simp [hy])]
/-- Parts, flattened. -/
theorem fl_parts (t : Int → Bool) (ht : ∀ L, t L = false) : ∀ (R : List Rg) (e n : Nat), partsFrom e (R.map fun r => (r.1, r.2.1)) n = true → flR t (R.map toRn) = List.range' e (n - e)
  | [], e, n, h => by
    have h : (e : Int) = n := by simpa [partsFrom] using h
    rw [show n - e = 0 by omega]
    rfl
  | r :: R, e, n, h => by
    rw [List.map_cons] at h
    simp only [partsFrom, Bool.and_eq_true, beq_iff_eq] at h
    obtain ⟨⟨h1, h2⟩, h3⟩ := h
    have hr : 0 ≤ r.1 ∧ r.1 < r.2.1 := by simpa [rightB] using h1
    have e1 : (r.2.1.toNat : Int) = r.2.1 := by omega
    rw [← e1] at h3
    have ih := fl_parts t ht R r.2.1.toNat n h3
    have hle : r.2.1.toNat ≤ n := by
      have : ∀ (l : List Sp) (e n : Int), partsFrom e l n = true → e ≤ n := by
        intro l
        induction l with
        | nil =>
          intro e n h
          have h : e = n := by simpa [partsFrom] using h
          omega
        | cons s l ih =>
          intro e n h
          simp only [partsFrom, Bool.and_eq_true, beq_iff_eq] at h
          have := ih _ _ h.2
          have : 0 ≤ s.1 ∧ s.1 < s.2 := by simpa [rightB] using h.1.1
          omega
      have := this _ _ _ h3
      omega
    rw [List.map_cons, flR_cons, ih, blR, ht, if_neg (by decide)]
    have hp : plR (toRn r) = List.range' e (r.2.1.toNat - e) := by
      unfold plR toRn
      simp only
      rw [show r.1.toNat = e by omega, List.range'_eq_map_range]
    obtain ⟨m, hm⟩ : ∃ m, r.2.1.toNat = e + m := ⟨r.2.1.toNat - e, by omega⟩
    rw [hm] at hle
    rw [hp, hm, show e + m - e = m by omega, List.range'_append_1, show m + (n - (e + m)) = n - e by omega]
theorem visB_stay {ls : List Int} : ∀ (v : Nat) (R : List Rn), oddB ls v = false → visB ls v R = R
  | 0, _, _ => rfl
  | v + 1, R, h => by
    rw [visB, if_neg (by rw [h]; decide), visB_stay v R]
    rw [Bool.eq_false_iff] at h ⊢
    exact fun h2 => h (oddB_mono (by omega) h2)
theorem turA_stay {ls : List Int} : ∀ (v : Nat) (t : Int → Bool), oddB ls v = false → turA ls v t = t
  | 0, _, _ => rfl
  | v + 1, t, h => by
    rw [turA, if_neg (by rw [h]; decide), turA_stay v t]
    rw [Bool.eq_false_iff] at h ⊢
    exact fun h2 => h (oddB_mono (by omega) h2)
/-- The runs that both see. -/
theorem visB_vis {ls : List Int} {low : Int} (hlow : ∀ v : Nat, oddB ls v = true ↔ low ≤ v) : ∀ (v : Nat) (R : List Rg), (∀ r ∈ R, 0 ≤ r.2.2 ∧ r.2.2 ≤ 126) → visB ls v (R.map toRn) = (visGA low v R).map toRn
  | 0, _, _ => rfl
  | v + 1, R, h => by
    by_cases ho : low ≤ ((v + 1 : Nat) : Int)
    · rw [visB, visGA, if_pos ho, if_pos ((hlow (v + 1)).2 ho)]
      have e := revR_map toRn (fun r => decide (((v + 1 : Nat) : Int) ≤ r.lev)) R []
      rw [List.map_nil] at e
      rw [e, revR_congr (q := fun r => decide (((v + 1 : Nat) : Int) ≤ heldF r.2.2)) (fun r hr => by
        have := h r hr
        have : heldF r.2.2 = r.2.2 := by unfold heldF; omega
        rw [this]
        rfl)]
      exact visB_vis hlow v _ fun r hr => h r (by simpa using (revR_perm (fun r : Rg => decide (((v + 1 : Nat) : Int) ≤ heldF r.2.2)) R []).mem_iff.1 hr)
    · rw [visGA, if_neg ho, visB_stay]
      rw [Bool.eq_false_iff]
      exact fun h2 => ho ((hlow (v + 1)).1 h2)
theorem visGA_perm (low : Int) : ∀ (v : Nat) (R : List Rg), (visGA low v R).Perm R
  | 0, R => .refl R
  | v + 1, R => by
    rw [visGA]
    split
    · exact (visGA_perm low v _).trans (by simpa using revR_perm (fun r : Rg => decide (((v + 1 : Nat) : Int) ≤ heldF r.2.2)) R [])
    · exact .refl R
theorem visG_perm (R : List Rg) : (visG R).Perm R := by
  unfold visG
  split
  · exact visGA_perm _ _ _
  · exact .refl R
/-- A run's places, turned where its level is odd. -/
theorem plI_bl {t : Int → Bool} {r : Rg} (hr : rightB (r.1, r.2.1) = true) (ht : t r.2.2 = decide (r.2.2 % 2 ≠ 0)) : plI r = (blR t (toRn r)).map fun i => ((i : Nat) : Int) := by
  have hr' : 0 ≤ r.1 ∧ r.1 < r.2.1 := by simpa [rightB] using hr
  rw [plI, if_pos hr, blR]
  have e : (toRn r).lev = r.2.2 := rfl
  rw [e, ht]
  by_cases ho : r.2.2 % 2 ≠ 0
  · rw [if_pos (decide_eq_true ho)]
    apply List.ext_getElem
    · simp [plR, toRn]; omega
    · intro i h1 h2
      simp [plR, toRn] at h1 h2 ⊢
      simp [plK, ho]
      omega
  · rw [if_neg (by rw [decide_eq_false ho]; decide)]
    apply List.ext_getElem
    · simp [plR, toRn]; omega
    · intro i h1 h2
      simp [plR, toRn] at h1 h2 ⊢
      have ho2 : r.2.2 % 2 = 0 := by omega
      simp [plK, ho2]
      omega
theorem ord_fl {t : Int → Bool} : ∀ R : List Rg, (∀ r ∈ R, rightB (r.1, r.2.1) = true ∧ t r.2.2 = decide (r.2.2 % 2 ≠ 0)) → ordI R = (flR t (R.map toRn)).map fun i => ((i : Nat) : Int)
  | [], _ => rfl
  | r :: R, h => by
    have e : ordI (r :: R) = plI r ++ ordI R := by simp [ordI]
    rw [e, List.map_cons, flR_cons, List.map_append, ord_fl R fun x hx => h x (by simp [hx]), plI_bl (h r (by simp)).1 (h r (by simp)).2]
/-- What the least odd level is. -/
def LowOk (S : List Int) (m : Int) : Prop := (m = 0 ∧ ∀ x ∈ S, x % 2 ≠ 1) ∨ (0 < m ∧ m % 2 = 1 ∧ m ∈ S ∧ ∀ x ∈ S, x % 2 = 1 → m ≤ x)
theorem LowOk.step {S : List Int} {m x : Int} (h : LowOk S m) (hx : 0 ≤ x) : LowOk (S ++ [x]) (lowS m x) := by
  unfold lowS
  rcases h with ⟨rfl, h⟩ | ⟨h0, h1, h2, h3⟩
  · by_cases ho : x % 2 = 1
    · rw [if_pos ⟨ho, .inl rfl⟩]
      refine .inr ⟨by omega, ho, by simp, fun y hy hy1 => ?_⟩
      rcases List.mem_append.1 hy with hy | hy
      · exact absurd hy1 (h y hy)
      · simp at hy; omega
    · rw [if_neg (fun h => ho h.1)]
      refine .inl ⟨rfl, fun y hy => ?_⟩
      rcases List.mem_append.1 hy with hy | hy
      · exact h y hy
      · simp at hy; rw [hy]; exact ho
  · by_cases ho : x % 2 = 1 ∧ (m = 0 ∨ x < m)
    · rw [if_pos ho]
      refine .inr ⟨by omega, ho.1, by simp, fun y hy hy1 => ?_⟩
      rcases List.mem_append.1 hy with hy | hy
      · have := h3 y hy hy1; omega
      · simp at hy; omega
    · rw [if_neg ho]
      refine .inr ⟨h0, h1, by simp [h2], fun y hy hy1 => ?_⟩
      rcases List.mem_append.1 hy with hy | hy
      · exact h3 y hy hy1
      · simp at hy
        subst hy
        omega
theorem LowOk.fold : ∀ (l S : List Int) (m : Int), LowOk S m → (∀ x ∈ l, 0 ≤ x) → LowOk (S ++ l) (l.foldl lowS m)
  | [], S, m, h, _ => by simpa using h
  | x :: l, S, m, h, hl => by
    have := LowOk.fold l (S ++ [x]) (lowS m x) (h.step (hl x (by simp))) fun y hy => hl y (by simp [hy])
    simpa using this
theorem parts_mem {n : Int} : ∀ {l : List Sp} {e : Int}, partsFrom e l n = true → e ≤ n ∧ ∀ s ∈ l, rightB s = true ∧ e ≤ s.1 ∧ s.2 ≤ n
  | [], e, h => by
    have h : e = n := by simpa [partsFrom] using h
    exact ⟨by omega, by simp⟩
  | s :: l, e, h => by
    simp only [partsFrom, Bool.and_eq_true, beq_iff_eq] at h
    obtain ⟨h1, h2⟩ := parts_mem h.2
    have hr : 0 ≤ s.1 ∧ s.1 < s.2 := by simpa [rightB] using h.1.1
    refine ⟨by omega, fun t ht => ?_⟩
    rcases List.mem_cons.1 ht with rfl | ht
    · exact ⟨h.1.1, by omega, h1⟩
    · have := h2 t ht
      exact ⟨this.1, by omega, this.2.2⟩
/-- The places of runs as they are seen are in the order in which places are seen. -/
theorem runs_order {ls : List Int} (h : ∀ x ∈ ls, 0 ≤ x ∧ x ≤ 126) : ordI (visG (logR ls ls.length)) = (visF ls).map fun i => ((i : Nat) : Int) := by
  have ho := log_ok ls ls.length
  obtain ⟨R, hR⟩ : ∃ R, logR ls ls.length = R := ⟨_, rfl⟩
  rw [hR] at ho ⊢
  have hrt : ∀ r ∈ R, rightB (r.1, r.2.1) = true ∧ 0 ≤ r.1 ∧ r.1 < r.2.1 ∧ r.2.1 ≤ ls.length := fun r hr => by
    have := (parts_mem ho.parts).2 (r.1, r.2.1) (List.mem_map.2 ⟨r, hr, rfl⟩)
    have h2 : 0 ≤ r.1 ∧ r.1 < r.2.1 := by simpa [rightB] using this.1
    exact ⟨this.1, h2.1, h2.2, this.2.2⟩
  have hpl : ∀ r ∈ R, ∀ i ∈ plR (toRn r), ls.getD i 0 = r.2.2 := fun r hr i hi => by
    obtain ⟨k, hk, rfl⟩ := List.mem_map.1 hi
    rw [List.mem_range] at hk
    obtain ⟨_, h1, h2, _⟩ := hrt r hr
    simp only [toRn] at hk ⊢
    exact ho.lev r hr _ (by omega) (by omega)
  have hlv : ∀ r ∈ R, r.2.2 ∈ ls := fun r hr => by
    obtain ⟨_, h1, h2, h3⟩ := hrt r hr
    have e := ho.lev r hr r.1.toNat (by omega) (by omega)
    have hl : r.1.toNat < ls.length := by omega
    rw [List.getD_eq_getElem?_getD, List.getElem?_eq_getElem hl] at e
    simp only [Option.getD_some] at e
    rw [← e]
    exact List.getElem_mem hl
  have hfl := fl_parts (fun _ => false) (fun _ => rfl) R 0 ls.length ho.parts
  rw [Nat.sub_zero, ← List.range_eq_range'] at hfl
  have hbk : ∀ x ∈ ls, ∃ r ∈ R, r.2.2 = x := fun x hx => by
    obtain ⟨i, hi, rfl⟩ := List.mem_iff_getElem.1 hx
    have hm : i ∈ flR (fun _ => false) (R.map toRn) := by rw [hfl]; exact List.mem_range.2 hi
    obtain ⟨q, hq, hiq⟩ := List.mem_flatMap.1 hm
    obtain ⟨r, hr, rfl⟩ := List.mem_map.1 hq
    have e := hpl r hr i (blR_mem.1 hiq)
    rw [List.getD_eq_getElem?_getD, List.getElem?_eq_getElem hi] at e
    exact ⟨r, hr, by rw [← e]; rfl⟩
  have hlow : LowOk (R.map fun r => heldF r.2.2) (lowF R) := by
    have := LowOk.fold (R.map fun r => heldF r.2.2) [] 0 (.inl ⟨rfl, by simp⟩) (by
      intro x hx
      obtain ⟨r, _, rfl⟩ := List.mem_map.1 hx
      unfold heldF
      omega)
    rw [List.nil_append] at this
    exact this
  have hhl : ∀ r ∈ R, heldF r.2.2 = r.2.2 := fun r hr => by
    have := h _ (hlv r hr)
    unfold heldF
    omega
  rw [vis_126 h]
  rcases hlow with ⟨h0, hev⟩ | ⟨h0, h1, h2, h3⟩
  · have hev2 : ∀ x ∈ ls, x % 2 = 0 := fun x hx => by
      obtain ⟨r, hr, rfl⟩ := hbk x hx
      have := hev _ (List.mem_map.2 ⟨r, hr, rfl⟩)
      rw [hhl r hr] at this
      omega
    have hno : oddB ls ((126 : Nat) : Int) = false := by
      rw [Bool.eq_false_iff]
      intro hc
      unfold oddB at hc
      rw [List.any_eq_true] at hc
      obtain ⟨x, hx, hd⟩ := hc
      have := hev2 x hx
      have := of_decide_eq_true hd
      omega
    rw [visA_stay 126 _ hno, visG, if_neg (by omega), ← hfl]
    exact ord_fl R fun r hr => ⟨(hrt r hr).1, by
      have := hev2 _ (hlv r hr)
      simp [this]⟩
  · obtain ⟨low, hl⟩ : ∃ low : Nat, lowF R = (low : Int) := ⟨(lowF R).toNat, by omega⟩
    rw [hl] at h0 h1 h2 h3
    have hod : ∀ v : Nat, oddB ls v = true ↔ low ≤ v := fun v => by
      unfold oddB
      rw [List.any_eq_true]
      constructor
      · rintro ⟨x, hx, hd⟩
        have hd := of_decide_eq_true hd
        obtain ⟨r, hr, rfl⟩ := hbk x hx
        have := h3 _ (List.mem_map.2 ⟨r, hr, rfl⟩) (by rw [hhl r hr]; exact hd.1)
        rw [hhl r hr] at this
        omega
      · intro hv
        obtain ⟨r, hr, he⟩ := List.mem_map.1 h2
        rw [hhl r hr] at he
        exact ⟨r.2.2, hlv r hr, decide_eq_true ⟨by rw [he]; exact h1, by omega⟩⟩
    have hvb := visB_vis (ls := ls) (low := (low : Int)) (fun v => by rw [hod v]; omega) 126 R (fun r hr => h _ (hlv r hr))
    have hvr := vis_runs ls 126 (fun _ => false) (R.map toRn) (fun q hq => by
      obtain ⟨r, hr, rfl⟩ := List.mem_map.1 hq
      obtain ⟨_, a1, a2, _⟩ := hrt r hr
      exact ⟨by simp only [toRn]; omega, fun i hi => hpl r hr i hi⟩)
    rw [hfl, hvb] at hvr
    have hvg : visG R = visGA (low : Int) 126 R := by unfold visG; rw [hl, if_pos h0]
    rw [hvr, hvg]
    refine ord_fl _ fun r hr => ?_
    have hr := (visGA_perm (low : Int) 126 R).mem_iff.1 hr
    refine ⟨(hrt r hr).1, ?_⟩
    have hb := h _ (hlv r hr)
    obtain ⟨L, hL⟩ : ∃ L : Nat, r.2.2 = (L : Int) := ⟨r.2.2.toNat, by omega⟩
    rw [hL] at hb ⊢
    rcases tur_at hod L 126 (fun _ => false) with ht | ht
    · rw [ht]
      by_cases hpar : (L : Int) % 2 ≠ 0
      · have hlL : low ≤ L := by
          have := h3 _ (List.mem_map.2 ⟨r, hr, rfl⟩) (by rw [hhl r hr, hL]; omega)
          rw [hhl r hr, hL] at this
          omega
        rw [if_pos (by omega), decide_eq_true hpar]
        rfl
      · rw [if_neg (by omega), decide_eq_false hpar]
    · omega
end Go.Proofs.Ytaiefneimjdmhaa
