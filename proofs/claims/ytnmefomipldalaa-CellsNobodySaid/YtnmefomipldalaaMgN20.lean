/- Texts of one claim, one behind the other. -/
import Derived.Deep.RegionHeld3
import Derived.Laws.MakeOwn
import Derived.Deep.RegionLaw
import Derived.Test.YtnmefomipldalaaMgN1
import Derived.Test.YtnmefomipldalaaMgN2
import Derived.Test.YtnmefomipldalaaMgN3
import Derived.Test.YtnmefomipldalaaMgN4
import Derived.Test.YtnmefomipldalaaMgN16
import Derived.Test.YtnmefomipldalaaMgN18
import Derived.Test.YtnmefomipldalaaMgN19
/- The reference's links and what it adds to them: the same as what fills. No program in this text. -/
namespace Go.Proofs.Ytnmefomipldalaa

theorem fillB_get {xs : List Bool} {lo hi : Nat} (h : lo ≤ hi) (hk : hi ≤ xs.length) (i : Nat) : (fillB xs lo hi)[i]? = if lo ≤ i ∧ i < hi then some true else xs[i]? := by
  unfold fillB
  rcases Nat.lt_or_ge i lo with h1 | h1
  · rw [if_neg (by omega), List.append_assoc, List.getElem?_append_left (by simp; omega), List.getElem?_take, if_pos h1]
  · rcases Nat.lt_or_ge i hi with h2 | h2
    · rw [if_pos ⟨h1, h2⟩, List.getElem?_append_left (by simp; omega), List.getElem?_append_right (by simp; omega), List.getElem?_replicate, if_pos (by simp; omega)]
    · rw [if_neg (by omega), List.getElem?_append_right (by simp; omega), List.getElem?_drop]
      congr 1
      simp; omega
/-- A link in range, its ends natural numbers. -/
def RealC (n m : Nat) (c : Cl) : Prop := c = (ncOf c).cl ∧ (ncOf c).real ∧ (ncOf c).b ≤ n ∧ (ncOf c).d ≤ m
theorem linked_fold {n m : Nat} (i : Nat) : ∀ (l : List Cl) (xs : List Bool), xs.length = n → (∀ x ∈ l, RealC n m x) → (l.foldl linkStep xs).length = n ∧ ((l.foldl linkStep xs)[i]? = some true ↔ xs[i]? = some true ∨ ∃ y ∈ l.map ncOf, y.a ≤ i ∧ i < y.b)
  | [], xs, hl, _ => ⟨hl, by simp⟩
  | c :: l, xs, hl, h => by
    obtain ⟨e, h1, h2, h3⟩ := h c (List.mem_cons_self ..)
    have e1 : linkStep xs c = fillB xs (ncOf c).a (ncOf c).b := rfl
    have hb : (ncOf c).b ≤ xs.length := by omega
    have hle := Nat.le_of_lt h1.1
    obtain ⟨r1, r2⟩ := linked_fold i l (linkStep xs c) (by rw [e1, fillB_len hle hb, hl]) (fun x hx => h x (List.mem_cons_of_mem _ hx))
    rw [List.foldl_cons]
    refine ⟨r1, r2.trans ?_⟩
    rw [e1, fillB_get hle hb]
    simp only [List.map_cons, List.mem_cons, exists_eq_or_imp]
    by_cases hc : (ncOf c).a ≤ i ∧ i < (ncOf c).b
    · simp [hc]
    · simp [hc]
theorem linked_iff {n m : Nat} {l : List Cl} (h : ∀ x ∈ l, RealC n m x) (i : Nat) : (linkedS n l)[i]? = some true ↔ ∃ y ∈ l.map ncOf, y.a ≤ i ∧ i < y.b := by
  have := (linked_fold (m := m) i l (List.replicate n false) (by simp) h).2
  unfold linkedS
  rw [this, List.getElem?_replicate]
  constructor
  · rintro (h | h)
    · split at h <;> cases h
    · exact h
  · exact .inr
theorem linked_len {n m : Nat} {l : List Cl} (h : ∀ x ∈ l, RealC n m x) : (linkedS n l).length = n := (linked_fold (m := m) 0 l (List.replicate n false) (by simp) h).1
/-- What joins each place that no link has to the one ahead of it, below k. -/
def backC (i : Nat) : Cl := (((i : Int) - 1, (i : Int) + 1), (0, 0))
def backAt (h : List Bool) (i : Nat) : Option Cl := if i = 0 then none else if h[i]? = some true then none else some (backC i)
def backTo (h : List Bool) (k : Nat) : List Cl := (List.range k).filterMap (backAt h)
theorem backTo_one (h : List Bool) : backTo h 1 = [] := rfl
theorem backTo_yes {h : List Bool} {k : Nat} (hk : h[k]? = some true) : backTo h (k + 1) = backTo h k := by
  unfold backTo
  rw [List.range_succ, List.filterMap_append]
  simp [backAt, hk]
theorem backTo_no {h : List Bool} {k : Nat} (h0 : 0 < k) (hk : h[k]? = some false) : backTo h (k + 1) = backTo h k ++ [backC k] := by
  unfold backTo
  rw [List.range_succ, List.filterMap_append]
  have : k ≠ 0 := by omega
  simp [backAt, hk, this]
theorem backTo_len (h : List Bool) (k : Nat) : (backTo h k).length ≤ k := by
  unfold backTo
  exact Nat.le_trans (List.length_filterMap_le _ _) (by simp)
theorem ncOf_back {i : Nat} (h : i ≠ 0) : ncOf (backC i) = ⟨i - 1, i + 1, 0, 0⟩ := by
  unfold ncOf backC
  simp only [NC.mk.injEq]
  omega
theorem aheadFrom_no : ∀ (l : List Bool) (k : Nat), (∀ j : Nat, l[j]? ≠ some true) → aheadFrom l k = []
  | [], _, _ => rfl
  | true :: _, _, h => absurd rfl (h 0)
  | false :: l, k, h => by
    rw [aheadFrom]
    exact aheadFrom_no l (k + 1) (fun j hj => h (j + 1) (by simpa using hj))
theorem aheadFrom_at : ∀ (l : List Bool) (k j : Nat), l[j]? = some true → (∀ i : Nat, i < j → l[i]? ≠ some true) → aheadFrom l k = if 0 < k + j then [((0, ((k + j : Nat) : Int) + 1), (0, 0))] else []
  | [], _, _, h, _ => by simp at h
  | true :: l, k, j, h, h2 => by
    have : j = 0 := by
      rcases Nat.eq_zero_or_pos j with e | e
      · exact e
      · exact absurd rfl (h2 0 e)
    subst this
    rfl
  | false :: l, k, 0, h, _ => by simp at h
  | false :: l, k, j + 1, h, h2 => by
    rw [aheadFrom, aheadFrom_at l (k + 1) j (by simpa using h) (fun i hi h9 => h2 (i + 1) (by omega) (by simpa using h9)), show k + 1 + j = k + (j + 1) by omega]
theorem ahead_fill {n m : Nat} {l : List Cl} (h : ∀ x ∈ l, RealC n m x) (hne : l ≠ []) : (aheadS (linkedS n l)).map ncOf = fillAhead (l.map ncOf) := by
  have hreal : ∀ y ∈ l.map ncOf, y.real := fun y hy => by
    obtain ⟨x, hx, rfl⟩ := List.mem_map.1 hy
    exact (h x hx).2.1
  obtain ⟨c, l', e⟩ := List.exists_cons_of_ne_nil hne
  obtain ⟨f, hf⟩ := first_of (L := l.map ncOf) ⟨ncOf c, by rw [e]; exact List.mem_cons_self .., hreal _ (by rw [e]; exact List.mem_cons_self ..)⟩
  obtain ⟨⟨y, hy, hyr, hya⟩, hmin⟩ := id hf
  have h1 : (linkedS n l)[f]? = some true := (linked_iff h f).2 ⟨y, hy, by omega, by have := hyr.1; omega⟩
  have h2 : ∀ i, i < f → (linkedS n l)[i]? ≠ some true := fun i hi h9 => by
    obtain ⟨z, hz, z1, z2⟩ := (linked_iff h i).1 h9
    have := hmin z hz (hreal z hz)
    omega
  unfold aheadS
  rw [aheadFrom_at _ 0 f h1 h2, Nat.zero_add]
  unfold fillAhead
  by_cases h0 : 0 < f
  · have hex : ∃ f, FirstOf (l.map ncOf) f ∧ 0 < f := ⟨f, hf, h0⟩
    rw [if_pos h0, dif_pos hex]
    have e := (Classical.choose_spec hex).1.only hf
    rw [e]
    unfold ncOf
    simp
  · rw [if_neg h0, dif_neg (fun ⟨g, hg, hg0⟩ => h0 (by rw [← hg.only hf]; exact hg0))]
    rfl
/-- All links of the reference. -/
def allC (n : Nat) (l : List Cl) : List Cl := l ++ backTo (linkedS n l) n ++ aheadS (linkedS n l)
theorem all_fills {n m : Nat} {l : List Cl} (h : ∀ x ∈ l, RealC n m x) (hne : l ≠ []) (x : NC) : x ∈ l.map ncOf ++ fillsOf n (l.map ncOf) ↔ x ∈ (allC n l).map ncOf := by
  unfold allC fillsOf
  rw [List.map_append, List.map_append, ahead_fill h hne, List.append_assoc]
  simp only [List.mem_append]
  have key : x ∈ (List.range n).filterMap (fillAt (l.map ncOf)) ↔ x ∈ (backTo (linkedS n l) n).map ncOf := by
    unfold backTo
    simp only [List.mem_filterMap, List.mem_map, List.mem_range]
    constructor
    · rintro ⟨i, hi, hf⟩
      unfold fillAt at hf
      split at hf
      · cases hf
      · rename_i hno
        injection hf with hf
        have h0 : i ≠ 0 := fun e => hno (.inl e)
        refine ⟨backC i, ⟨i, hi, ?_⟩, by rw [ncOf_back h0, hf]⟩
        unfold backAt
        rw [if_neg h0, if_neg (fun h9 => hno (.inr ((linked_iff h i).1 h9)))]
    · rintro ⟨c, ⟨i, hi, hb⟩, rfl⟩
      unfold backAt at hb
      split at hb
      · cases hb
      · rename_i h0
        split at hb
        · cases hb
        · rename_i h1
          injection hb with hb
          subst hb
          refine ⟨i, hi, ?_⟩
          unfold fillAt
          rw [if_neg (fun h9 => by rcases h9 with h9 | h9; exact h0 h9; exact h1 ((linked_iff h i).2 h9)), ncOf_back h0]
  rw [key]
/-- A link of all: its ends. -/
def LinkC (n m : Nat) (c : Cl) : Prop := c = (ncOf c).cl ∧ (ncOf c).a < (ncOf c).b ∧ (ncOf c).b ≤ n ∧ (((ncOf c).c < (ncOf c).d ∧ (ncOf c).d ≤ m) ∨ ((ncOf c).c = 0 ∧ (ncOf c).d = 0))
theorem all_link {n m : Nat} {l : List Cl} (h : ∀ x ∈ l, RealC n m x) {c : Cl} (hc : c ∈ allC n l) : LinkC n m c := by
  unfold allC at hc
  rcases List.mem_append.1 hc with hc | hc
  · rcases List.mem_append.1 hc with hc | hc
    · obtain ⟨e, h1, h2, h3⟩ := h c hc
      exact ⟨e, h1.1, h2, .inl ⟨h1.2, h3⟩⟩
    · unfold backTo at hc
      obtain ⟨i, hi, hb⟩ := List.mem_filterMap.1 hc
      rw [List.mem_range] at hi
      unfold backAt at hb
      split at hb
      · cases hb
      · rename_i h0
        split at hb
        · cases hb
        · injection hb with hb
          subst hb
          unfold LinkC
          rw [ncOf_back h0]
          refine ⟨?_, by simp only; omega, by simp only; omega, .inr ⟨rfl, rfl⟩⟩
          unfold backC NC.cl
          simp only [Prod.mk.injEq]
          omega
  · have hl := linked_len (m := m) h
    have hh : ∀ (l : List Bool) (k : Nat), c ∈ aheadFrom l k → ∃ j, k ≤ j ∧ j < k + l.length ∧ 0 < j ∧ c = ((0, (j : Int) + 1), (0, 0)) := by
      intro l
      induction l with
      | nil => intro k hk; cases hk
      | cons b l ih =>
        intro k hk
        cases b with
        | true =>
          rw [aheadFrom] at hk
          split at hk
          · exact ⟨k, Nat.le_refl _, by simp, by assumption, List.mem_singleton.1 hk⟩
          · cases hk
        | false =>
          rw [aheadFrom] at hk
          obtain ⟨j, j1, j2, j3, j4⟩ := ih (k + 1) hk
          exact ⟨j, by omega, by simp; omega, j3, j4⟩
    obtain ⟨j, j1, j2, j3, rfl⟩ := hh _ 0 hc
    rw [hl] at j2
    unfold LinkC ncOf NC.cl
    simp only [Prod.mk.injEq]
    omega
theorem all_len {n m : Nat} {l : List Cl} (h : ∀ x ∈ l, RealC n m x) : (allC n l).length ≤ l.length + n + 1 := by
  unfold allC
  rw [List.length_append, List.length_append]
  have h1 := backTo_len (linkedS n l) n
  have h2 : ∀ (l : List Bool) (k : Nat), (aheadFrom l k).length ≤ 1 := by
    intro l
    induction l with
    | nil => intro k; simp [aheadFrom]
    | cons b l ih =>
      intro k
      cases b with
      | true => rw [aheadFrom]; split <;> simp
      | false => rw [aheadFrom]; exact ih _
  have h3 := h2 (linkedS n l) 0
  unfold aheadS
  omega
end Go.Proofs.Ytnmefomipldalaa
/- The reference's turn, walked: labels of both sides in memory. -/
namespace Go.Proofs.Ytnmefomipldalaa
open Go.RowKit

/-- Both sides' labels, each in a row of its own. -/
structure LabM (w : World) (gi go ci co n m : Nat) (lab : Bool → List Int) : Prop where
  hi : w.ownsRow 0 3 1 (.slice (some ⟨gi, 0, none⟩) n ci) n ((lab false).map (Value.int .i64))
  ho : w.ownsRow 0 3 1 (.slice (some ⟨go, 0, none⟩) m co) m ((lab true).map (Value.int .i64))
  ne : gi ≠ go
section
variable {w w' : World} {gi go ci co n m : Nat} {lab : Bool → List Int}
theorem LabM.below (h : LabM w gi go ci co n m lab) (hb : Below w.heap.size w w') : LabM w' gi go ci co n m lab := ⟨own_below h.hi hb, own_below h.ho hb, h.ne⟩
theorem LabM.alloc (h : LabM w gi go ci co n m lab) (o : Obj) : LabM (w.alloc o) gi go ci co n m lab := h.below (below_new w o)
theorem LabM.lt (h : LabM w gi go ci co n m lab) : gi < w.heap.size ∧ go < w.heap.size := ⟨(h.hi.lt _ rfl).2, (h.ho.lt _ rfl).2⟩
theorem LabM.out (h : LabM w gi go ci co n m lab) {zs : List Int} (ho : w'.ownsRow 0 3 1 (.slice (some ⟨go, 0, none⟩) m co) m (zs.map (Value.int .i64))) (hg : w.grownBy w' (some go)) : LabM w' gi go ci co n m (put lab true zs) :=
  ⟨h.hi.kept hg (.inr (fun e => h.ne (Option.some.inj e))), by rw [put_at]; exact ho, h.ne⟩
theorem LabM.in_ (h : LabM w gi go ci co n m lab) {zs : List Int} (ho : w'.ownsRow 0 3 1 (.slice (some ⟨gi, 0, none⟩) n ci) n (zs.map (Value.int .i64))) (hg : w.grownBy w' (some gi)) : LabM w' gi go ci co n m (put lab false zs) :=
  ⟨by rw [put_at]; exact ho, h.ho.kept hg (.inr (fun e => h.ne (Option.some.inj e).symm)), h.ne⟩
end
theorem Rd.kept {w w' : World} {size n : Nat} {A : Option Addr} {xs : List Value} {S : List Nat} (h : Rd w size A n xs) (hA : ∀ ad, A = some ad → ad.block ∉ S) (hk : Kept w w' S) : Rd w' size A n xs :=
  ⟨h.1, fun hn => by
    obtain ⟨ad, e, hlt, hc⟩ := h.2 hn
    refine ⟨ad, e, Nat.lt_of_lt_of_le hlt hk.size, fun j u hu => ?_⟩
    have := hc j u hu
    unfold World.cell? at this ⊢
    have hb : (ad.add j).block = ad.block := blockAdd ad j
    rw [hb] at this ⊢
    rw [hk.block _ hlt (hA ad e)]
    exact this⟩
theorem in_two {gi go b : Nat} (h1 : gi < b) (h2 : go < b) : b ∉ [gi, go] := by simp; omega
set_option maxRecDepth 100000 in
set_option maxHeartbeats 4000000 in
theorem refTurn_any (gi go ci co n m q c : Nat) (A : Option Addr) (l : List Cl) (lab : Bool → List Int) (w : World) (hM : LabM w gi go ci co n m lab) (hr : Rd w 4 A q (cellsC l)) (hA : ∀ ad, A = some ad → ad.block ∉ [gi, go]) (hl : ∀ x ∈ l, LinkC n m x)
    (hs : SoundLab (l.map ncOf) lab) (hp : PosLab lab) (hlx : (lab false).length = n) (hly : (lab true).length = m) (hn : n ≤ 16777216) (hm : m ≤ 16777216) (hq : q ≤ 100000000) :
    Calls Try.prog 54 #[.slice (some ⟨gi, 0, none⟩) n ci, .slice (some ⟨go, 0, none⟩) m co, .slice A q c] w fun e w' => ∃ lab' ch, e = .returned (.bool ch) ∧ LabM w' gi go ci co n m lab' ∧ TurnOk (l.map ncOf) n m lab lab' ch ∧ Kept w w' [gi, go] := by
  have hlen : l.length = q := by have := hr.1; rw [cellsC_len] at this; omega
  have HL := Lib.hid hlen
  have HR := Lib.hid hr
  have HS0 := Lib.hid (show LinkSt (l.map ncOf) n m 0 lab lab false from ⟨hlx, hly, hs, hp, Went.refl _, fun _ j x hj => absurd hj (Nat.not_lt_zero _)⟩)
  have HM := Lib.hid hM
  obtain ⟨g1, g2⟩ := hM.lt
  clear hlen hr hs hp hlx hly hM
  go_enter Try.func54, Try.ntmps54
  go_wp2_with fail
  go_loopw [7, 8] (fun b i wr => ∃ (k : Nat) (lab' : Bool → List Int) (ch : Bool), k ≤ q ∧ i = .int .i64 (k : Int) ∧ b = .bool ch ∧ LabM wr gi go ci co n m lab' ∧ LinkSt (l.map ncOf) n m k lab lab' ch ∧ Kept w wr [gi, go]) (fun _ i _ => q - (intOf i).toNat)
  case atStart => exact ⟨0, lab, false, Nat.zero_le _, rfl, rfl, HM.out, HS0.out, Kept.refl _ _⟩
  case round =>
    obtain ⟨k, lab1, ch, hk, rfl, rfl, hM1, hS1, hK1⟩ := hrel
    by_cases hlt : k < q
    · obtain ⟨x, hx⟩ : ∃ x, l[k]? = some x := ⟨_, List.getElem?_eq_getElem (by rw [HL.out]; exact hlt)⟩
      obtain ⟨hxe, ha, hbn, hcd⟩ := hl x (List.mem_of_getElem? hx)
      have hN : (l.map ncOf)[k]? = some (ncOf x) := by rw [List.getElem?_map, hx]; rfl
      obtain ⟨ad, rfl, hab, c0, c1, c2, c3⟩ := (HR.out.kept hA hK1).clus hx
      obtain ⟨y, hy⟩ : ∃ y, ncOf x = y := ⟨_, rfl⟩
      rw [hy] at hxe ha hbn hcd hN
      rw [hxe] at c0 c1 c2 c3
      obtain ⟨a, b, cc, d⟩ := y
      simp only [NC.cl] at c0 c1 c2 c3 ha hbn hcd
      clear hxe hy hx
      have hLx := hS1.lx
      have hLy := hS1.ly
      have l1 := hM1.lt
      have HS1 := Lib.hid hS1
      have HN := Lib.hid hN
      have HLX := Lib.hid hLx
      have HLY := Lib.hid hLy
      have HK1 := Lib.hid hK1
      clear hS1 hN hLx hLy hK1
      have hM2 := hM1.alloc (.cells #[.int .i64 (a : Int), .int .i64 (b : Int), .int .i64 (cc : Int), .int .i64 (d : Int)] 33)
      have hnw := cells_new wr [.int .i64 (a : Int), .int .i64 (b : Int), .int .i64 (cc : Int), .int .i64 (d : Int)] 33
      have d0 := hnw 0 _ rfl
      have d1 := hnw 1 _ rfl
      have d2 := hnw 2 _ rfl
      have d3 := hnw 3 _ rfl
      rw [addNew] at d0 d1 d2 d3
      have HK2 := Lib.hid (HK1.out.trans (Kept.of_below (below_new wr (.cells #[.int .i64 (a : Int), .int .i64 (b : Int), .int .i64 (cc : Int), .int .i64 (d : Int)] 33)) [gi, go]))
      have HLE := Lib.hid (fun (w : World) (h : LabM w gi go ci co n m lab1) => refLeast_any (some ⟨gi, 0, none⟩) n ci a b (lab1 false) w (Rd.of_own h.hi) (by omega) hbn (by omega))
      have HM2 := Lib.hid hM2
      clear hnw hM1 hM2
      obtain ⟨v0, hv0⟩ : ∃ v0, leastS (lab1 false) a b = v0 := ⟨_, rfl⟩
      rw [hv0] at HLE
      have HV0 := Lib.hid hv0
      clear hv0
      go_wp2_with fail
      refine (HLE.out _ HM2.out).mono ?_
      rintro e w1 ⟨rfl, hb1⟩
      have HM3 := Lib.hid (HM2.out.below hb1)
      have HK3 := Lib.hid (HK2.out.trans (Kept.of_below hb1 [gi, go]))
      have e0 := cell_below hb1 d0
      have e1 := cell_below hb1 d1
      have e2 := cell_below hb1 d2
      have e3 := cell_below hb1 d3
      clear hb1 d0 d1 d2 d3 c0 c1 c2 c3
      obtain ⟨bk, hbk⟩ : ∃ bk, wr.heap.size = bk := ⟨_, rfl⟩
      simp only [hbk] at e0 e1 e2 e3 l1
      go_wp2_with fail
      try simp only [hbk]
      refine (refRight_any (cc : Int) (d : Int) _).mono ?_
      rintro e w2 ⟨rfl, hb2⟩
      have HM4 := Lib.hid (HM3.out.below hb2)
      have HK4 := Lib.hid (HK3.out.trans (Kept.of_below hb2 [gi, go]))
      have f0 := cell_below hb2 e0
      have f1 := cell_below hb2 e1
      have f2 := cell_below hb2 e2
      have f3 := cell_below hb2 e3
      clear hb2 e0 e1 e2 e3
      obtain ⟨hcd, hdm⟩ | ⟨rfl, rfl⟩ := hcd
      · rw [show rightB ((cc : Int), (d : Int)) = true by unfold rightB; exact decide_eq_true (by omega)]
        have HL2 := Lib.hid (fun (w : World) (h : LabM w gi go ci co n m lab1) => refLeast_any (some ⟨go, 0, none⟩) m co cc d (lab1 true) w (Rd.of_own h.ho) (by omega) hdm (by omega))
        obtain ⟨v1, hv1⟩ : ∃ v1, leastS (lab1 true) cc d = v1 := ⟨_, rfl⟩
        rw [hv1] at HL2
        have HV1 := Lib.hid hv1
        clear hv1
        go_wp2_with fail
        refine (HL2.out _ HM4.out).mono ?_
        rintro e w3 ⟨rfl, hb3⟩
        have HM5 := Lib.hid (HM4.out.below hb3)
        have HK5 := Lib.hid (HK4.out.trans (Kept.of_below hb3 [gi, go]))
        have g0 := cell_below hb3 f0
        have g1 := cell_below hb3 f1
        have g2 := cell_below hb3 f2
        have g3 := cell_below hb3 f3
        clear hb3 f0 f1 f2 f3
        have hstep : ∀ v, v = minI v0 v1 → LinkSt (l.map ncOf) n m (k + 1) lab (put (put lab1 true (setTo (lab1 true) cc d v)) false (setTo (lab1 false) a b v)) (changedB (lab1 false) a b v || (changedB (lab1 true) cc d v || ch)) := fun v hv => link_both HS1.out HN.out ha hbn hcd hdm v (by rw [hv, HV0.out, HV1.out])
        have HST := Lib.hid hstep
        clear hstep
        obtain ⟨v, hv⟩ : ∃ v, min v0 v1 = v := ⟨_, rfl⟩
        have HST2 := Lib.hid (HST.out v (by rw [← hv]; unfold minI; omega))
        have HSM := Lib.hid (fun (w : World) (h : LabM w gi go ci co n m lab1) => refSame_any 0 go co m cc d (lab1 true) v w HLY.out h.ho (Nat.zero_le _) (by omega) hdm (by omega))
        have HSI := Lib.hid (fun (w : World) (h : LabM w gi go ci co n m (put lab1 true (setTo (lab1 true) cc d v))) => refSame_any 0 gi ci n a b (lab1 false) v w HLX.out h.hi (Nat.zero_le _) (by omega) hbn (by omega))
        obtain ⟨p1, hp1⟩ : ∃ p1, changedB (lab1 true) cc d v = p1 := ⟨_, rfl⟩
        obtain ⟨p2, hp2⟩ : ∃ p2, changedB (lab1 false) a b v = p2 := ⟨_, rfl⟩
        rw [hp1] at HST2 HSM
        rw [hp2] at HST2 HSI
        have HVE := Lib.hid hv
        clear hp1 hp2 HST hv
        go_wp2_with fail
        simp only [HVE.out]
        refine (HSM.out _ HM5.out).mono ?_
        rintro e w4 ⟨rfl, ho4, hg4⟩
        have hM6 := HM5.out.out ho4 hg4
        have HM6 := Lib.hid hM6
        have HK6 := Lib.hid (HK5.out.trans (Kept.of_grown hg4 (show go ∈ [gi, go] by simp)))
        have i0 := (hg4.cell_far ⟨bk, 0, none⟩ (cell_lt g0) (by simp; omega)).trans g0
        have i1 := (hg4.cell_far ⟨bk, 1, none⟩ (cell_lt g1) (by simp; omega)).trans g1
        clear g0 g1 g2 g3 ho4 hg4 hM6
        cases p1 <;> cases p2
        all_goals
          go_wp2_with fail
          refine (HSI.out _ HM6.out).mono ?_
          rintro e w5 ⟨rfl, ho5, hg5⟩
          have HM7 := Lib.hid (HM6.out.in_ ho5 hg5)
          have HK7 := Lib.hid (HK6.out.trans (Kept.of_grown hg5 (show gi ∈ [gi, go] by simp)))
          clear i0 i1 ho5 hg5
          go_wp2_with fail
          go_roundw
          case rel => exact ⟨k + 1, _, _, by omega, by go_num, rfl, HM7.out, HST2.out, HK7.out⟩
          case measure => simp [intOf]; omega
      · rw [show rightB (((0 : Nat) : Int), ((0 : Nat) : Int)) = false by decide]
        have HST2 := Lib.hid (link_in HS1.out HN.out ha hbn (Nat.le_refl 0) v0 HV0.out.symm)
        have HSI := Lib.hid (fun (w : World) (h : LabM w gi go ci co n m lab1) => refSame_any 0 gi ci n a b (lab1 false) v0 w HLX.out h.hi (Nat.zero_le _) (by omega) hbn (by omega))
        simp only at HST2
        obtain ⟨p2, hp2⟩ : ∃ p2, changedB (lab1 false) a b v0 = p2 := ⟨_, rfl⟩
        rw [hp2] at HST2 HSI
        clear hp2 f2 f3
        cases p2
        all_goals
          go_wp2_with fail
          refine (HSI.out _ HM4.out).mono ?_
          rintro e w5 ⟨rfl, ho5, hg5⟩
          have HM7 := Lib.hid (HM4.out.in_ ho5 hg5)
          have HK7 := Lib.hid (HK4.out.trans (Kept.of_grown hg5 (show gi ∈ [gi, go] by simp)))
          clear ho5 hg5
          go_wp2_with fail
          go_roundw
          case rel => exact ⟨k + 1, _, _, by omega, by go_num, rfl, HM7.out, HST2.out, HK7.out⟩
          case measure => simp [intOf]; omega
    · have hkq : k = q := by omega
      have HE := Lib.hid (turn_end (show LinkSt (l.map ncOf) n m (l.map ncOf).length lab lab1 ch by rw [List.length_map, HL.out, ← hkq]; exact hS1))
      obtain ⟨p1, p2, h1, h2, h3⟩ := HE.out
      have HW1 := Lib.hid (fun (w : World) (h : LabM w gi go ci co n m lab1) => refWhole_any 0 gi ci n (lab1 false) w hS1.lx h.hi (Nat.zero_le _) (by omega))
      have HW2 := Lib.hid (fun (w : World) (h : LabM w gi go ci co n m (put lab1 false (wholeFrom n 0 (lab1 false, false)).1)) => refWhole_any 0 go co m (lab1 true) w hS1.ly h.ho (Nat.zero_le _) (by omega))
      have HT := Lib.hid h3
      rw [h1] at HW1
      rw [h2] at HW2
      have HM1 := Lib.hid hM1
      have HK1 := Lib.hid hK1
      clear h1 h2 h3 HE hkq hS1 hM1 hK1
      have e2 : put (put lab1 false (wholeFrom n 0 (lab1 false, false)).1) true (wholeFrom m 0 (lab1 true, false)).1 = labs (wholeFrom n 0 (lab1 false, false)).1 (wholeFrom m 0 (lab1 true, false)).1 := by
        funext t; cases t <;> rfl
      have HE2 := Lib.hid e2
      clear e2
      cases ch <;> cases p1 <;> cases p2
      all_goals
        go_wp2_with fail
        refine (HW1.out _ HM1.out).mono ?_
        rintro e w4 ⟨rfl, ho4, hg4⟩
        have HM6 := Lib.hid (HM1.out.in_ ho4 hg4)
        have HK6 := Lib.hid (HK1.out.trans (Kept.of_grown hg4 (show gi ∈ [gi, go] by simp)))
        clear ho4 hg4
        go_wp2_with fail
        refine (HW2.out _ HM6.out).mono ?_
        rintro e w5 ⟨rfl, ho5, hg5⟩
        have HM7 := Lib.hid (HM6.out.out ho5 hg5)
        have HK7 := Lib.hid (HK6.out.trans (Kept.of_grown hg5 (show go ∈ [gi, go] by simp)))
        rw [HE2.out] at HM7
        clear ho5 hg5
        go_wp2_with fail
        go_ret
        exact ⟨_, _, rfl, HM7.out, HT.out, HK7.out⟩
end Go.Proofs.Ytnmefomipldalaa
/- The reference's wrong: what is wrong with links. -/
namespace Go.Proofs.Ytnmefomipldalaa
open Go.RowKit

def outStep (xs : List Bool) (c : Cl) : List Bool := fillB xs c.2.1.toNat c.2.2.toNat
def outedS (m : Nat) (l : List Cl) : List Bool := l.foldl outStep (List.replicate m false)
/-- What is wrong with links, as a number. -/
def wrongS (n m : Nat) (l : List Cl) : Int := if fitB (n : Int) (m : Int) l = false then 1 else if m = 0 ∧ 0 < n then 8 else if n = 0 ∧ 0 < m then 13 else if (outedS m l).all id = true then 0 else 13
theorem boolSliceB : SliceOf Try.prog 77 4 1 1 := .mk_ (z := .bool false) Try.underlying77 (by kernel_rfl) rfl
theorem all_take {xs : List Bool} {k : Nat} (h : xs[k]? = some true) (ht : (xs.take k).all id = true) : (xs.take (k + 1)).all id = true := by
  rw [List.take_add_one, h, List.all_append, ht]
  rfl
theorem all_not {xs : List Bool} {k : Nat} (h : xs[k]? = some false) : xs.all id = false := by
  rw [List.all_eq_false]
  exact ⟨false, List.mem_of_getElem? h, by simp⟩
set_option maxRecDepth 100000 in
set_option maxHeartbeats 4000000 in
theorem refWrong_any (n m q c : Nat) (A : Option Addr) (l : List Cl) (w : World) (hr : Rd w 4 A q (cellsC l)) (hq : q ≤ 1000000) (hn : n ≤ 16777216) (hm : m ≤ 16777216) :
    Calls Try.prog 51 #[.int .i64 (n : Int), .int .i64 (m : Int), .slice A q c] w fun e w' => e = .returned (.int .i64 (wrongS n m l)) ∧ Below w.heap.size w w' := by
  have hlen : l.length = q := by have := hr.1; rw [cellsC_len] at this; omega
  have HL := Lib.hid hlen
  have HR := Lib.hid hr
  have HN := Lib.hid (show fitN (n : Int) (m : Int) = true by unfold fitN; exact decide_eq_true (by omega))
  have HW : Hid (wrongS n m l = if fitB (n : Int) (m : Int) l = false then 1 else if m = 0 ∧ 0 < n then 8 else if n = 0 ∧ 0 < m then 13 else if (outedS m l).all id = true then 0 else 13) := Lib.hid rfl
  clear hlen hr
  generalize wrongS n m l = W at *
  go_enter Try.func51, Try.ntmps51
  go_wp2_with (at_make; refine wpList_mkFull rfl _ _ _ rfl (base := w.heap.size) (z := .bool false) (bytes := 1) Try.underlying77 (by kernel_rfl) rfl _ _ m rfl rfl rfl rfl (by omega) (by unfold maxLen; omega) (Nat.le_refl _) ?_; intro w0 hown0 hg0)
  have hb0 : Below w.heap.size w w0 := (Below.refl _ _).grown hg0 (Nat.le_refl _) (fun k h => by cases h)
  go_loopw [8] (fun i wr => ∃ (k : Nat) (xs : List Bool), k ≤ q ∧ i = .int .i64 (k : Int) ∧ fitB (n : Int) (m : Int) l = (l.drop k).all (fitC n m) ∧ outedS m l = (l.drop k).foldl outStep xs ∧ xs.length = m ∧ wr.ownsRow w.heap.size 4 1 (.slice (some ⟨w.heap.size, 0, none⟩) m m) m (xs.map Value.bool) ∧ Below w.heap.size w wr ∧ w.heap.size < wr.heap.size) (fun i _ => q - (intOf i).toNat)
  case atStart =>
    exact ⟨0, List.replicate m false, Nat.zero_le _, rfl, by unfold fitB; rw [HN.out, List.drop_zero]; rfl, rfl, by simp, by rw [List.map_replicate]; exact hown0, hb0, (hown0.lt _ rfl).2⟩
  case round =>
    obtain ⟨k, xs, hk, rfl, hf, hh, hxl, hown, hb, hlt0⟩ := hrel
    have HF := Lib.hid hf
    have HH := Lib.hid hh
    have HX := Lib.hid hxl
    clear hf hh hxl hown0 hg0 hb0
    by_cases hlt : k < q
    · obtain ⟨x, hx⟩ : ∃ x, l[k]? = some x := ⟨_, List.getElem?_eq_getElem (by rw [HL.out]; exact hlt)⟩
      have HS := Lib.hid (all_split (fitC n m) hx)
      have HD := Lib.hid (dropCons hx)
      obtain ⟨ad, rfl, hab, c0, c1, c2, c3⟩ := (HR.out.below hb).clus hx
      obtain ⟨⟨x1, x2⟩, ⟨x3, x4⟩⟩ := x
      simp only at c0 c1 c2 c3
      clear hx
      have hb1 := hb.alloc hb.size (.cells #[.int .i64 x1, .int .i64 x2, .int .i64 x3, .int .i64 x4] 33)
      have hown1 := hown.alloc (.cells #[.int .i64 x1, .int .i64 x2, .int .i64 x3, .int .i64 x4] 33)
      have hnw := cells_new wr [.int .i64 x1, .int .i64 x2, .int .i64 x3, .int .i64 x4] 33
      have d1 := hnw 1 _ rfl
      have d2 := hnw 2 _ rfl
      have d3 := hnw 3 _ rfl
      rw [addNew] at d1 d2 d3
      have HO1 := Lib.hid hown1
      have HO := Lib.hid hown
      clear hnw hown1 hown
      have HFC := Lib.hid (show fitC n m ((x1, x2), (x3, x4)) = (rightB (x1, x2) && decide (x2 ≤ n) && (rightB (x3, x4) && decide (x4 ≤ m))) from rfl)
      go_wp2_with fail
      refine (refRight_any x1 x2 _).mono ?_
      rintro e w1 ⟨rfl, hw1⟩
      have g1 := cell_below hw1 d1
      have g2 := cell_below hw1 d2
      have g3 := cell_below hw1 d3
      have hb2 := hb1.trans (hw1.mono hb1.size)
      have HO2 := Lib.hid (own_below HO1.out hw1)
      clear d1 d2 d3
      rcases h1 : rightB (x1, x2) with _ | _
      · have HV := Lib.hid (show W = 1 by rw [HW.out, HF.out, HS.out, HFC.out, h1]; rfl)
        go_wp2_with fail
        go_ret
        exact ⟨by rw [HV.out]; rfl, hb2⟩
      · go_wp2_with fail
        refine (refRight_any x3 x4 _).mono ?_
        rintro e w2 ⟨rfl, hw2⟩
        have f1 := cell_below hw2 g1
        have f2 := cell_below hw2 g2
        have f3 := cell_below hw2 g3
        have hb3 := hb2.trans (hw2.mono hb2.size)
        have HO3 := Lib.hid (own_below HO2.out hw2)
        have hsz : wr.heap.size < w2.heap.size := cell_lt f1
        clear g1 g2 g3
        rcases h3 : rightB (x3, x4) with _ | _
        · have HV := Lib.hid (show W = 1 by rw [HW.out, HF.out, HS.out, HFC.out, h1, h3]; simp)
          go_wp2_with fail
          go_ret
          exact ⟨by rw [HV.out]; rfl, hb3⟩
        · by_cases h2 : x2 ≤ n
          · by_cases h4 : x4 ≤ m
            · have hx34 : 0 ≤ x3 ∧ x3 < x4 := by unfold rightB at h3; simpa using h3
              obtain ⟨lo, rfl⟩ : ∃ lo : Nat, x3 = lo := ⟨x3.toNat, by omega⟩
              obtain ⟨hi, rfl⟩ : ∃ hi : Nat, x4 = hi := ⟨x4.toNat, by omega⟩
              have hlh : lo < hi ∧ hi ≤ m := by omega
              obtain ⟨hlh, hhn⟩ := hlh
              have HFN := Lib.hid (show fitB (n : Int) (m : Int) l = (l.drop (k + 1)).all (fitC n m) by rw [HF.out, HS.out, HFC.out, h1, h3]; simp [h2, h4])
              have HHN := Lib.hid (show outedS m l = (l.drop (k + 1)).foldl outStep (fillB xs lo hi) by rw [HH.out, HD.out]; rfl)
              have HLE := Lib.hid (show (fillB xs lo hi).length = m by rw [fillB_len (by omega) (by rw [HX.out]; exact hhn), HX.out])
              clear hx34 h1 h3
              obtain ⟨b, hbb⟩ : ∃ b, wr.heap.size = b := ⟨_, rfl⟩
              simp only [hbb] at f1 f2 f3 hsz hlt0
              go_wp2_with fail
              try simp only [hbb]
              go_loopw [10] (fun i ws => ∃ j : Nat, lo ≤ j ∧ j ≤ hi ∧ i = .int .i64 (j : Int) ∧ ws.ownsRow w.heap.size 4 1 (.slice (some ⟨w.heap.size, 0, none⟩) m m) m ((fillB xs lo j).map Value.bool) ∧ Below w.heap.size w ws ∧ ws.cell? ⟨b, 3, none⟩ = some (.int .i64 (hi : Int)) ∧ b < ws.heap.size) (fun i _ => hi - (intOf i).toNat)
              case atStart => exact ⟨lo, Nat.le_refl _, Nat.le_of_lt hlh, rfl, by rw [fillB_start]; exact HO3.out, hb3, f3, hsz⟩
              case round =>
                obtain ⟨j, hlj, hjh, rfl, hownr, hbr, hc3, hbs⟩ := hrel
                clear f1 f2 f3
                by_cases hjt : j < hi
                · have HST0 := Lib.hid (fillB_step (xs := xs) hlj (by rw [HX.out]; omega))
                  have hfx := hownr.frozenAt j
                  obtain ⟨bj, hbj⟩ : ∃ bj, wr.cell? ⟨w.heap.size, j, none⟩ = some bj := ⟨_, by rw [hownr.cellAt j (by omega)]; exact List.getElem?_eq_getElem (by rw [List.length_map, fillB_len hlj (by rw [HX.out]; omega), HX.out]; omega)⟩
                  have hst := hownr.stored j (.bool true)
                  rw [← List.map_set] at hst
                  have HST := Lib.hid hst
                  have hbe := hbr.setCell (p := ⟨w.heap.size, j, none⟩) (Nat.le_refl _) (.bool true)
                  have hc4 : (wr.setCell ⟨w.heap.size, j, none⟩ (.bool true)).cell? ⟨b, 3, none⟩ = some (.int .i64 (hi : Int)) := (World.cell?_setCell_other (h := by first | (simp; done) | (simp; omega)) ..).trans hc3
                  clear hst
                  go_wp2_with fail
                  go_roundw
                  case rel => exact ⟨j + 1, by omega, by omega, by go_num, by rw [← HST0.out]; exact HST.out.1, hbe, hc4, by simpa [World.setCell] using hbs⟩
                  case measure => simp [intOf]; omega
                · have HJ := Lib.hid (show j = hi by omega)
                  go_wp2_with fail
                  go_roundw
                  case rel => exact ⟨k + 1, fillB xs lo hi, by omega, by go_num, HFN.out, HHN.out, HLE.out, by rw [← HJ.out]; exact hownr, hbr, by omega⟩
                  case measure => simp [intOf]; omega
            · have HV := Lib.hid (show W = 1 by rw [HW.out, HF.out, HS.out, HFC.out, h1, h3, decide_eq_false h4]; simp)
              go_wp2_with fail
              go_ret
              exact ⟨by rw [HV.out]; rfl, hb3⟩
          · have HV := Lib.hid (show W = 1 by rw [HW.out, HF.out, HS.out, HFC.out, h1, h3, decide_eq_false h2]; simp)
            go_wp2_with fail
            go_ret
            exact ⟨by rw [HV.out]; rfl, hb3⟩
    · have hkq : k = q := by omega
      have HFT := Lib.hid (show fitB (n : Int) (m : Int) l = true by rw [HF.out, hkq, ← HL.out, List.drop_length]; rfl)
      have HXS := Lib.hid (show outedS m l = xs by rw [HH.out, hkq, ← HL.out, List.drop_length]; rfl)
      have HV : Hid (W = if m = 0 ∧ 0 < n then 8 else if n = 0 ∧ 0 < m then 13 else if xs.all id = true then 0 else 13) := Lib.hid (by rw [HW.out, HFT.out, HXS.out]; rfl)
      clear HFT HXS HW HF HH hkq
      have hc : (m = 0 ∧ 0 < n) ∨ (0 < m ∧ n = 0) ∨ ¬ ((m = 0 ∧ 0 < n) ∨ (n = 0 ∧ 0 < m)) := by omega
      rcases hc with h | h | h
      · have HZ := Lib.hid (show W = 8 by rw [HV.out, if_pos h])
        have g1 : ((m : Int) == 0) = true := by simp; omega
        have g2 : 0 < (n : Int) := by omega
        clear h HV
        go_wp2_with fail
        go_ret
        exact ⟨by rw [HZ.out]; rfl, hb⟩
      · have HZ := Lib.hid (show W = 13 by rw [HV.out, if_neg (by omega), if_pos ⟨h.2, h.1⟩])
        have g1 : ((m : Int) == 0) = false := by simp; omega
        have g2 : ((n : Int) == 0) = true := by simp; omega
        have g3 : 0 < (m : Int) := by omega
        clear h HV
        go_wp2_with fail
        go_ret
        exact ⟨by rw [HZ.out]; rfl, hb⟩
      · have HZ := Lib.hid (show W = if xs.all id = true then 0 else 13 by rw [HV.out, if_neg (fun e => h (.inl e)), if_neg (fun e => h (.inr e))])
        have h2 : (m = 0 ∧ n = 0) ∨ (0 < m ∧ 0 < n) := by omega
        clear h HV
        have hg : ∃ p, ((m : Int) == 0) = p ∧ ((n : Int) == 0) = p ∧ (p = true → ¬ 0 < (n : Int) ∧ ¬ 0 < (m : Int)) := by
          rcases h2 with h2 | h2
          · exact ⟨true, by simp; omega, by simp; omega, fun _ => by omega⟩
          · exact ⟨false, by simp; omega, by simp; omega, fun e => by cases e⟩
        clear h2
        obtain ⟨p, g1, g2, g3⟩ := hg
        have hdone : ∀ (k : Nat), ¬ k < m → k ≤ m → (xs.take k).all id = true → W = 0 := fun k h1 h2 h3 => by
          rw [HZ.out, if_pos]
          rwa [List.take_of_length_le (by rw [HX.out]; omega)] at h3
        have HDN := Lib.hid hdone
        have HBAD := Lib.hid (fun (k : Nat) (h : xs[k]? = some false) => show W = 13 by rw [HZ.out, all_not h]; rfl)
        clear hdone HZ
        cases p
        case' true => obtain ⟨g4, g5⟩ := g3 rfl
        all_goals
          clear g3
          go_wp2_with fail
          go_loopw [11] (fun i ws => ∃ j : Nat, j ≤ m ∧ i = .int .i64 (j : Int) ∧ (xs.take j).all id = true ∧ ws.ownsRow w.heap.size 4 1 (.slice (some ⟨w.heap.size, 0, none⟩) m m) m (xs.map Value.bool) ∧ Below w.heap.size w ws) (fun i _ => m - (intOf i).toNat)
          case atStart => exact ⟨0, Nat.zero_le _, rfl, rfl, hown, hb⟩
          case round =>
            clear hown hb
            obtain ⟨j, hj, rfl, ha, hown, hb⟩ := hrel
            have HA := Lib.hid ha
            clear ha
            by_cases hjm : j < m
            · obtain ⟨y, hy⟩ : ∃ y, xs[j]? = some y := ⟨_, List.getElem?_eq_getElem (by rw [HX.out]; exact hjm)⟩
              have cj : wr.cell? ⟨w.heap.size, j, none⟩ = some (.bool y) := by rw [hown.cellAt j (by omega), List.getElem?_map, hy]; rfl
              have HY := Lib.hid hy
              clear hy
              cases y with
              | true =>
                go_wp2_with fail
                go_roundw
                case rel => exact ⟨j + 1, by omega, by go_num, all_take HY.out HA.out, hown, hb⟩
                case measure => simp [intOf]; omega
              | false =>
                go_wp2_with fail
                go_ret
                exact ⟨by rw [HBAD.out j HY.out]; rfl, hb⟩
            · have HE := Lib.hid (HDN.out j hjm hj HA.out)
              go_wp2_with fail
              go_ret
              exact ⟨by rw [HE.out]; rfl, hb⟩
end Go.Proofs.Ytnmefomipldalaa
/- The reference's Finest, walked: labels, turns till nothing changes, the clusters that they tell. -/
namespace Go.Proofs.Ytnmefomipldalaa
open Go.RowKit

def upI (off : Int) (n k : Nat) : List Int := (List.range n).map fun j => if j < k then off + (j : Int) else 0
theorem upI_len (off : Int) (n k : Nat) : (upI off n k).length = n := by simp [upI]
theorem upI_zero (off : Int) (n : Nat) : upI off n 0 = List.replicate n 0 := by
  apply List.ext_getElem <;> simp [upI]
theorem upI_succ {off : Int} {n k : Nat} : (upI off n k).set k (off + (k : Int)) = upI off n (k + 1) := by
  apply List.ext_getElem
  · simp [upI]
  · intro j h1 h2
    simp only [upI, List.getElem_set, List.getElem_map, List.getElem_range]
    split <;> split <;> (try split) <;> omega
theorem upI_at {off : Int} {n i : Nat} {v : Int} (h : (upI off n n)[i]? = some v) : i < n ∧ v = off + (i : Int) := by
  have hi := (List.getElem?_eq_some_iff.1 h).1
  rw [upI_len] at hi
  unfold upI at h
  rw [List.getElem?_map, List.getElem?_range hi] at h
  simp only [Option.map_some, Option.some.injEq] at h
  rw [if_pos hi] at h
  exact ⟨hi, h.symm⟩
/-- The labels that the reference begins with. -/
def lab0 (n m : Nat) : Bool → List Int := labs (upI 0 n n) (upI (n : Int) m m)
theorem lab0_at {n m : Nat} {p : Pl} {v : Int} (h : lamOf (lab0 n m) p = some v) : (p.1 = false ∧ p.2 < n ∧ v = (p.2 : Int)) ∨ (p.1 = true ∧ v = (n : Int) + (p.2 : Int)) := by
  obtain ⟨s, i⟩ := p
  cases s with
  | false =>
    obtain ⟨h1, h2⟩ := upI_at (off := 0) (show (upI 0 n n)[i]? = some v from h)
    exact .inl ⟨rfl, h1, by omega⟩
  | true =>
    obtain ⟨h1, h2⟩ := upI_at (show (upI (n : Int) m m)[i]? = some v from h)
    exact .inr ⟨rfl, h2⟩
theorem lab0_sound (L : List NC) (n m : Nat) : SoundLab L (lab0 n m) := fun p q v h1 h2 => by
  have : p = q := by
    obtain ⟨s, i⟩ := p
    obtain ⟨t, j⟩ := q
    rcases lab0_at h1 with ⟨a1, a2, a3⟩ | ⟨a1, a2⟩ <;> rcases lab0_at h2 with ⟨b1, b2, b3⟩ | ⟨b1, b2⟩ <;> simp only at a1 b1 <;> subst a1 b1 <;> simp only [Prod.mk.injEq, true_and, reduceCtorEq, false_and]
    all_goals first | omega | (simp only at *; omega)
  rw [this]
  exact .refl _
theorem lab0_pos (n m : Nat) : PosLab (lab0 n m) := fun p v h => by
  rcases lab0_at h with ⟨_, _, h⟩ | ⟨_, h⟩ <;> omega
theorem sum_pos : ∀ (l : List Int), (∀ x ∈ l, 0 ≤ x) → 0 ≤ l.sum
  | [], _ => Int.le_refl _
  | x :: l, h => by
    rw [List.sum_cons]
    have h1 := h x (List.mem_cons_self ..)
    have h2 := sum_pos l (fun y hy => h y (List.mem_cons_of_mem _ hy))
    omega
theorem tot_pos {lab : Bool → List Int} (h : PosLab lab) : 0 ≤ totLab lab := by
  have key : ∀ s, 0 ≤ (lab s).sum := fun s => sum_pos _ fun x hx => by
    obtain ⟨i, hi⟩ := List.getElem?_of_mem hx
    exact h (s, i) x hi
  have h1 := key false
  have h2 := key true
  unfold totLab
  omega
theorem own_blkZ {W : World} {g n : Nat} {xs : List Int} (h : W.heap[g]? = some (.cells (intsZ xs).toArray 3 (0, 0))) (hl : xs.length = n) (hn : n ≤ 100000000) : W.ownsRow 0 3 1 (.slice (some ⟨g, 0, none⟩) n n) n (xs.map (Value.int .i64)) := by
  refine ⟨by simp [hl], .inr ⟨g, n, _, rfl, Nat.zero_le _, h, Nat.le_refl _, by unfold maxLen; omega, ?_, ?_⟩⟩
  · simp [intsZ, hl]
  · simp only [intsZ, Nat.mul_one, List.drop_zero]
    exact List.take_of_length_le (by simp [hl])
theorem labM_new {w1 w2 : World} {n m gi go : Nat} {xs ys : List Int} (h1 : w2.heap[gi]? = some (.cells (intsZ xs).toArray 3 (0, 0))) (h2 : w2.heap[go]? = some (.cells (intsZ ys).toArray 3 (0, 0))) (l1 : xs.length = n) (l2 : ys.length = m) (b1 : n ≤ 100000000) (b2 : m ≤ 100000000) (hne : gi ≠ go) :
    LabM w2 gi go n m n m (labs xs ys) := ⟨own_blkZ h1 l1 b1, own_blkZ h2 l2 b2, hne⟩
theorem two_heap (w : World) (o0 o1 : Obj) : ((w.alloc o0).alloc o1).drew.heap[w.heap.size]? = some o0 ∧ ((w.alloc o0).alloc o1).drew.heap[w.heap.size + 1]? = some o1 ∧ Below w.heap.size w ((w.alloc o0).alloc o1).drew := by
  have h1 := heap_alloc_new (w.alloc o0) o1
  simp only [World.size_alloc] at h1
  refine ⟨?_, by simp only [heap_drew]; exact h1, (((Below.refl _ _).alloc (Nat.le_refl _) _).alloc (by simp) _).drew⟩
  simp only [heap_drew]
  rw [heap_alloc_old (h := by simp)]
  exact heap_alloc_new w _
end Go.Proofs.Ytnmefomipldalaa
/- Labels in memory: one stored; the turns' measure; what the clusters are made of. -/
namespace Go.Proofs.Ytnmefomipldalaa
open Go.RowKit

section
variable {w : World} {gi go ci co n m : Nat} {lab : Bool → List Int}
theorem LabM.set_in (h : LabM w gi go ci co n m lab) (k : Nat) (v : Int) : LabM (w.setCell ⟨gi, k, none⟩ (.int .i64 v)) gi go ci co n m (put lab false ((lab false).set k v)) := by
  refine ⟨?_, own_set_far (show w.ownsRow 0 3 1 (.slice (some ⟨go, 0, none⟩) m co) m (((put lab false ((lab false).set k v)) true).map (Value.int .i64)) by rw [put_other lab (by decide)]; exact h.ho) (fun e => h.ne (Option.some.inj e).symm), h.ne⟩
  have := h.hi.stored k (.int .i64 v)
  rw [put_at, List.map_set]
  exact this.1
theorem LabM.set_out (h : LabM w gi go ci co n m lab) (k : Nat) (v : Int) : LabM (w.setCell ⟨go, k, none⟩ (.int .i64 v)) gi go ci co n m (put lab true ((lab true).set k v)) := by
  refine ⟨own_set_far (show w.ownsRow 0 3 1 (.slice (some ⟨gi, 0, none⟩) n ci) n (((put lab true ((lab true).set k v)) false).map (Value.int .i64)) by rw [put_other lab (by decide)]; exact h.hi) (fun e => h.ne (Option.some.inj e)), ?_, h.ne⟩
  have := h.ho.stored k (.int .i64 v)
  rw [put_at, List.map_set]
  exact this.1
theorem LabM.grown {w' : World} {b : Option Nat} (h : LabM w gi go ci co n m lab) (hg : w.grownBy w' b) (h1 : b ≠ some gi) (h2 : b ≠ some go) : LabM w' gi go ci co n m lab :=
  ⟨h.hi.kept hg (.inr (fun e => h1 e.symm)), h.ho.kept hg (.inr (fun e => h2 e.symm)), h.ne⟩
end
theorem cellsC_one : ∀ (l : List Cl), ∀ u ∈ cellsC l, u.oneCell' = true
  | [], u, h => by simp [cellsC] at h
  | c :: l, u, h => by
    have h' : u ∈ encC c ++ cellsC l := h
    rcases List.mem_append.1 h' with h | h
    · simp [encC] at h
      rcases h with rfl | rfl | rfl | rfl <;> rfl
    · exact cellsC_one l u h
theorem cellsC_append (a b : List Cl) : cellsC (a ++ b) = cellsC a ++ cellsC b := by simp [cellsC]
theorem below_self' {w a b : World} (h : Below w.heap.size w a) (k : Below a.heap.size a b) : Below w.heap.size w b := h.trans (k.mono h.size)
/-- The state while the reference puts its links together. -/
structure L3 (w ws : World) (gi go n m : Nat) (lab : Bool → List Int) (H : Option Addr) (ch : Nat) (h : List Bool) (b0 : Nat) (v : Value) (L : List Cl) : Prop where
  lab : LabM ws gi go n m n m lab
  has : ws.ownsRow 0 4 1 (.slice H n ch) n (h.map Value.bool)
  all : ws.ownsRow b0 33 4 v L.length (cellsC L)
  far : gi < b0 ∧ go < b0 ∧ w.heap.size ≤ b0 ∧ b0 ≤ ws.heap.size
  ne : (Value.slice H n ch).ownBlock = none ∨ (Value.slice H n ch).ownBlock ≠ v.ownBlock
  below : Below w.heap.size w ws
theorem L3.low {w ws w' : World} {gi go n m : Nat} {lab : Bool → List Int} {H : Option Addr} {ch : Nat} {h : List Bool} {b0 : Nat} {v : Value} {L : List Cl} (s : L3 w ws gi go n m lab H ch h b0 v L) (hb : Below ws.heap.size ws w') : L3 w w' gi go n m lab H ch h b0 v L :=
  ⟨s.lab.below hb, own_below s.has hb, own_below s.all hb, ⟨s.far.1, s.far.2.1, s.far.2.2.1, Nat.le_trans s.far.2.2.2 hb.size⟩, s.ne, below_self' s.below hb⟩
theorem L3.app {w ws w' : World} {gi go n m : Nat} {lab : Bool → List Int} {H : Option Addr} {ch : Nat} {h : List Bool} {b0 k : Nat} {v v' : Value} {L M : List Cl} (s : L3 w ws gi go n m lab H ch h b0 v L) (hl : M.length = k) (hown : w'.ownsRow b0 33 4 v' (L.length + k) (cellsC L ++ cellsC M)) (hg : ws.grownBy w' v.ownBlock) (hat : v'.ownBlock = v.ownBlock ∨ v'.ownBlock = some ws.heap.size) : L3 w w' gi go n m lab H ch h b0 v' (L ++ M) := by
  have hv : ∀ b, v.ownBlock = some b → b0 ≤ b := fun b hb => (s.all.lt b hb).1
  refine ⟨s.lab.grown hg (fun e => by have := hv _ e; have := s.far.1; omega) (fun e => by have := hv _ e; have := s.far.2.1; omega), s.has.kept hg s.ne, by rw [List.length_append, cellsC_append, hl]; exact hown, ⟨s.far.1, s.far.2.1, s.far.2.2.1, Nat.le_trans s.far.2.2.2 hg.size⟩, ?_, s.below.grown hg (Nat.le_trans s.far.2.2.1 s.far.2.2.2) (fun b hb => Nat.le_trans s.far.2.2.1 (hv b hb))⟩
  rcases hat with e | e
  · rw [e]; exact s.ne
  · rcases hH : (Value.slice H n ch).ownBlock with _ | g
    · exact .inl rfl
    · refine .inr (fun e2 => ?_)
      rw [e] at e2
      have := (s.has.lt g hH).2
      have := Option.some.inj e2
      omega
end Go.Proofs.Ytnmefomipldalaa
/- cells' links and Clusters, walked. -/
namespace Go.Proofs.Ytnmefomipldalaa
open Go.RowKit

/-- One group more: its link, if it has codes, and where its codes end. -/
def lkStep (R : List RC) (ah : List Int) (acc : List Cl × Nat) (g : Sp) : List Cl × Nat :=
  (if 0 < cntR R ah g.1.toNat g.2.toNat then acc.1 ++ [(g, ((acc.2 : Int), (acc.2 : Int) + (cntR R ah g.1.toNat g.2.toNat : Nat)))] else acc.1, acc.2 + cntR R ah g.1.toNat g.2.toNat)
def linksTo (R : List RC) (ah : List Int) (G : List Sp) : List Cl × Nat := G.foldl (lkStep R ah) ([], 0)
theorem linksTo_step {R : List RC} {ah : List Int} {G : List Sp} {k : Nat} {g : Sp} (h : G[k]? = some g) : linksTo R ah (G.take (k + 1)) = lkStep R ah (linksTo R ah (G.take k)) g := by
  unfold linksTo; rw [List.take_add_one, h]; simp
theorem linksTo_len (R : List RC) (ah : List Int) (G : List Sp) (k : Nat) : (linksTo R ah (G.take k)).1.length ≤ k := by
  induction k with
  | zero => simp [linksTo]
  | succ k ih =>
    rcases h : G[k]? with _ | g
    · rw [List.take_add_one, h]; simp; omega
    · rw [linksTo_step h]
      unfold lkStep
      simp only
      split
      · rw [List.length_append]; simp; omega
      · omega
theorem linksTo_end (R : List RC) (ah : List Int) (G : List Sp) (k : Nat) : (linksTo R ah (G.take k)).2 ≤ k * (ah.length + lenR R) := by
  induction k with
  | zero => simp [linksTo]
  | succ k ih =>
    rw [Nat.succ_mul]
    rcases h : G[k]? with _ | g
    · rw [List.take_add_one, h]; simp; omega
    · rw [linksTo_step h]
      have := cntR_le R ah g.1.toNat g.2.toNat
      unfold lkStep
      simp only
      omega
theorem linksTo_yes {R : List RC} {ah : List Int} {G : List Sp} {k a b : Nat} (h : G[k]? = some ((a : Int), (b : Int))) (hc : 0 < cntR R ah a b) : linksTo R ah (G.take (k + 1)) = ((linksTo R ah (G.take k)).1 ++ [(((a : Int), (b : Int)), (((linksTo R ah (G.take k)).2 : Int), ((linksTo R ah (G.take k)).2 : Int) + (cntR R ah a b : Nat)))], (linksTo R ah (G.take k)).2 + cntR R ah a b) := by
  rw [linksTo_step h]
  unfold lkStep
  simp only [Int.toNat_natCast]
  rw [if_pos hc]
theorem linksTo_no {R : List RC} {ah : List Int} {G : List Sp} {k a b : Nat} (h : G[k]? = some ((a : Int), (b : Int))) (hc : ¬ 0 < cntR R ah a b) : linksTo R ah (G.take (k + 1)) = ((linksTo R ah (G.take k)).1, (linksTo R ah (G.take k)).2 + cntR R ah a b) := by
  rw [linksTo_step h]
  unfold lkStep
  simp only [Int.toNat_natCast]
  rw [if_neg hc]
theorem parts_mem {n : Int} : ∀ {l : List Sp} {e : Int}, 0 ≤ e → partsFrom e l n = true → ∀ g ∈ l, ∃ a b : Nat, g = ((a : Int), (b : Int)) ∧ a < b ∧ (b : Int) ≤ n
  | [], _, _, _, g, hg => by simp at hg
  | s :: l, e, he, h, g, hg => by
    cases hr : rightB s with
    | false => rw [partsFrom_no (.inl hr)] at h; cases h
    | true =>
      cases hq : (s.1 == e) with
      | false => rw [partsFrom_no (.inr hq)] at h; cases h
      | true =>
        rw [partsFrom_yes hr hq] at h
        have hs := of_decide_eq_true hr
        rcases List.mem_cons.1 hg with rfl | hg
        · have hle : g.2 ≤ n := parts_le h
          refine ⟨g.1.toNat, g.2.toNat, ?_, by omega, by omega⟩
          obtain ⟨g1, g2⟩ := g
          simp only [Prod.mk.injEq]
          simp only at hs
          omega
        · exact parts_mem (by omega) h g hg
where
  parts_le {n : Int} : ∀ {l : List Sp} {e : Int}, partsFrom e l n = true → e ≤ n
  | [], e, h => by
    have : (e == n) = true := h
    have : e = n := by simpa using this
    omega
  | s :: l, e, h => by
    cases hr : rightB s with
    | false => rw [partsFrom_no (.inl hr)] at h; cases h
    | true =>
      cases hq : (s.1 == e) with
      | false => rw [partsFrom_no (.inr hq)] at h; cases h
      | true =>
        rw [partsFrom_yes hr hq] at h
        have hs := of_decide_eq_true hr
        have h1 := parts_le h
        have h2 : s.1 = e := by simpa using hq
        omega
set_option maxRecDepth 100000 in
set_option maxHeartbeats 2000000 in
theorem links_any (base b gc n : Nat) (R : List RC) (va : Value) (ah : List Int) (w : World) (hC : CellsAt w base b gc n R va ah) (hn : n ≤ 1000) (ht : ah.length + lenR R ≤ 1000000) :
    Calls Try.prog 73 #[.pointer (some ⟨b, 0, none⟩)] w fun e w' => ∃ v, e = .returned v ∧ w'.ownsRow w.heap.size 33 4 v (linksTo R ah (groupsS n (joinedTo R n))).1.length (cellsC (linksTo R ah (groupsS n (joinedTo R n))).1) ∧ Below w.heap.size w w' := by
  obtain ⟨Aa, ca, rfl, _⟩ := own_form hC.arow
  have c0 := hp_cell (j := 0) hC.hb rfl
  have HC := Lib.hid hC
  have HJ := Lib.hid (fun W (h : Below w.heap.size w W) => joined_any base b gc n R _ ah W (hC.low h) (by omega))
  have hjl : (joinedTo R n).length ≤ 1000 := Nat.le_trans (joinedTo_len R n) hn
  obtain ⟨J, hJ⟩ : ∃ J, joinedTo R n = J := ⟨_, rfl⟩
  rw [hJ] at HJ hjl ⊢
  have HP := Lib.hid (parts_mem (Int.le_refl 0) (groups_whole (n := (n : Int)) J (by omega)))
  have hgl : (groupsS (n : Int) J).length ≤ 1000 := groups_len (by omega)
  obtain ⟨G, hG⟩ : ∃ G, groupsS (n : Int) J = G := ⟨_, rfl⟩
  rw [hG] at hgl HP ⊢
  have HGJ := Lib.hid hG
  obtain ⟨gl, hgl2⟩ : ∃ gl, G.length = gl := ⟨_, rfl⟩
  rw [hgl2] at hgl
  have HG := Lib.hid hgl2
  clear hJ hG hgl2
  go_enter Try.func73, Try.ntmps73
  go_wp2_with fail
  go_region_held3 (fun w' => w'.cell? ⟨b, 0, none⟩ = some (.slice (some ⟨gc, 0, none⟩) n n) ∧ Below w.heap.size w w')
    (first
      | exact ⟨c0, Below.refl _ _⟩
      | exact ⟨c0, (Below.refl _ _).drew⟩
      | exact ⟨cell_below hz1 c0, hz1⟩
      | exact ⟨cell_below hz2 c0, hz2⟩
      | fail)
    (first
      | (go_at_call 90; with_reducible refine (HJ.out _ (by first | exact (Below.refl _ _).drew | exact Below.refl _ _)).mono ?_; rintro e' w1 ⟨v1, rfl, hown1, hb1⟩; obtain ⟨A1, c1, rfl, hc1⟩ := own_form hown1; have hz1 : Below w.heap.size w w1 := (by first | exact below_self (Below.refl _ _).drew hb1 | exact hb1))
      | (go_at_call 89; refine (prGroups_any (n : Int) A1 J.length c1 J w1 (Rd.of_own hown1) hjl (by omega) (by omega)).mono ?_; rintro e' w2 ⟨v2, rfl, hown2, hb2⟩; rw [HGJ.out, HG.out] at hown2; obtain ⟨A2, c2, rfl, hc2⟩ := own_form hown2; have hz2 : Below w.heap.size w w2 := below_self hz1 hb2)
      | fail)
  have HRG := Lib.hid (Rd.of_own hown2)
  have HZ := Lib.hid hz2
  have HC2 := Lib.hid (HC.out.low hz2)
  clear hown1 hb1 hz1 hb2 hown2 hz2 hc1 hc2 c0 hC
  go_wp2_with fail
  go_loopw [3, 4, 17] (fun v e i ws => ∃ k : Nat, k ≤ gl ∧ i = .int .i64 (k : Int) ∧ e = .int .i64 ((linksTo R ah (G.take k)).2 : Nat) ∧ ws.ownsRow w2.heap.size 33 4 v (linksTo R ah (G.take k)).1.length (cellsC (linksTo R ah (G.take k)).1) ∧ Below w2.heap.size w2 ws) (fun _ _ i _ => gl - (intOf i).toNat)
  case atStart => exact ⟨0, Nat.zero_le _, rfl, rfl, ⟨rfl, .inl ⟨rfl, rfl⟩⟩, Below.refl _ _⟩
  case round =>
    obtain ⟨k, hk, rfl, rfl, hown, hb⟩ := hrel
    have hll := linksTo_len R ah G k
    have hle := linksTo_end R ah G k
    have hkm : k * (ah.length + lenR R) ≤ 1000 * 1000000 := Nat.mul_le_mul (by omega) ht
    by_cases hlt : k < gl
    · obtain ⟨g, hg⟩ : ∃ g, G[k]? = some g := ⟨_, List.getElem?_eq_getElem (by rw [HG.out]; exact hlt)⟩
      obtain ⟨a, d, rfl, had, hdn⟩ := HP.out g (List.mem_of_getElem? hg)
      obtain ⟨ad, rfl, hab, x0, x1⟩ := (HRG.out.below hb).span hg
      have HY := Lib.hid (fun h => linksTo_yes (R := R) (ah := ah) hg h)
      have HN := Lib.hid (fun h => linksTo_no (R := R) (ah := ah) hg h)
      have hcb := cntR_le R ah a d
      obtain ⟨e, he⟩ : ∃ e, (linksTo R ah (G.take k)).2 = e := ⟨_, rfl⟩
      obtain ⟨L, hL⟩ : ∃ L, (linksTo R ah (G.take k)).1 = L := ⟨_, rfl⟩
      rw [he, hL] at HY HN
      rw [hL] at hll hown
      rw [he] at hle ⊢
      simp only at x0 x1
      have hb1 := below_new wr (.cells #[.int .i64 (a : Int), .int .i64 (d : Int)] 31)
      have s1 := SpanBlk.new_ wr (a : Int) (d : Int) 31
      obtain ⟨W1, hW1⟩ : ∃ W1, wr.alloc (.cells #[.int .i64 (a : Int), .int .i64 (d : Int)] 31) = W1 := ⟨_, rfl⟩
      rw [hW1] at hb1 s1
      obtain ⟨p0, p1, f0, f1⟩ := s1
      obtain ⟨bk, hbk⟩ : ∃ bk, wr.heap.size = bk := ⟨_, rfl⟩
      rw [hbk] at p0 p1
      have HB1 := Lib.hid (below_self hb hb1)
      have HO1 := Lib.hid (own_below hown hb1)
      have HNE0 := Lib.hid (fun g (h : u3.ownBlock = some g) => (hown.lt g h).2)
      have hs1 := hb1.size
      clear hg he hL f0 f1 hown hb hb1
      go_wp2_with fail
      refine (count_any base b gc n a d R _ ah W1 (HC2.out.low HB1.out) had (by omega) (by omega) (by omega)).mono ?_
      rintro e' w3 ⟨rfl, hb3⟩
      obtain ⟨cq, hcq⟩ : ∃ cq, cntR R ah a d = cq := ⟨_, rfl⟩
      rw [hcq] at HY HN hcb ⊢
      have q0 := cell_below hb3 p0
      have q1 := cell_below hb3 p1
      have hb4 := below_new w3 (.cells #[.int .i64 (e : Int), .int .i64 ((e : Int) + (cq : Int))] 31)
      have s4 := SpanBlk.new_ w3 (e : Int) ((e : Int) + (cq : Int)) 31
      obtain ⟨W4, hW4⟩ : ∃ W4, w3.alloc (.cells #[.int .i64 (e : Int), .int .i64 ((e : Int) + (cq : Int))] 31) = W4 := ⟨_, rfl⟩
      rw [hW4] at hb4 s4
      obtain ⟨r0, r1, f0, f1⟩ := s4
      have HNE := Lib.hid (fun g (h : u3.ownBlock = some g) => (show g < w3.heap.size from Nat.lt_of_lt_of_le (HNE0.out g h) (Nat.le_trans hs1 hb3.size)))
      obtain ⟨bj, hbj⟩ : ∃ bj, w3.heap.size = bj := ⟨_, rfl⟩
      rw [hbj] at HNE
      clear HNE0 hs1
      rw [hbj] at r0 r1
      have t0 := cell_below hb4 q0
      have t1 := cell_below hb4 q1
      have HB4 := Lib.hid (below_self (below_self HB1.out hb3) hb4)
      have HO4 := Lib.hid (own_below (own_below HO1.out hb3) hb4)
      clear hcq p0 p1 q0 q1 f0 f1 hb3 hb4 x0 x1 hab hW1 hbk
      go_wp2_with fail
      refine (prRight_any (e : Int) ((e : Int) + (cq : Int)) W4).mono ?_
      rintro e' w5 ⟨rfl, hb5⟩
      have u0 := cell_below hb5 r0
      have u1 := cell_below hb5 r1
      have v0 := cell_below hb5 t0
      have v1 := cell_below hb5 t1
      have HB5 := Lib.hid (below_self HB4.out hb5)
      have HO5 := Lib.hid (own_below HO4.out hb5)
      clear r0 r1 t0 t1 hb5 hW4 hbj
      by_cases hc0 : 0 < cq
      · rw [show rightB ((e : Int), (e : Int) + (cq : Int)) = true by unfold rightB; exact decide_eq_true (by omega)]
        have HE := Lib.hid (HY.out hc0)
        have z0 := cell_below (below_new w5 (.cells #[.int .i64 (a : Int), .int .i64 (d : Int), .int .i64 (e : Int), .int .i64 ((e : Int) + (cq : Int))] 33)) u0
        have z1 := cell_below (below_new w5 (.cells #[.int .i64 (a : Int), .int .i64 (d : Int), .int .i64 (e : Int), .int .i64 ((e : Int) + (cq : Int))] 33)) u1
        go_wp2_with (at_builtin; refine wpList_app rfl _ _ _ rfl clusSlice (by decide) u3 L.length _ rfl (HO5.out.alloc _) ⟨w5.heap.size, 0, none⟩ 1 1 [.int .i64 (a : Int), .int .i64 (d : Int), .int .i64 (e : Int), .int .i64 ((e : Int) + (cq : Int))] rfl rfl (cells_new w5 [_, _, _, _] _) (oneInt4 _ _ _ _ _) (by omega) (by unfold maxLen; omega) (Nat.le_trans HB5.out.size (by simp)) ?_; intro v6 w6 hown6 hg6 hat6; have HB6 := Lib.hid ((HB5.out.alloc HB5.out.size (.cells #[.int .i64 (a : Int), .int .i64 (d : Int), .int .i64 (e : Int), .int .i64 ((e : Int) + (cq : Int))] 33)).grown hg6 (Nat.le_trans HB5.out.size (by simp)) (fun b hb => (HO5.out.lt b hb).1)); have y1 := hg6.cell z1 (fun h9 => absurd (HNE.out _ h9.symm) (Nat.lt_irrefl _)))
        have HO6 := Lib.hid (show w6.ownsRow w2.heap.size 33 4 v6 (L ++ [(((a : Int), (d : Int)), ((e : Int), (e : Int) + (cq : Int)))]).length (cellsC (L ++ [(((a : Int), (d : Int)), ((e : Int), (e : Int) + (cq : Int)))])) by rw [List.length_append, cellsC_snoc]; exact hown6)
        clear hown6 hg6 hat6 z0 z1 y1 u0 u1 v0 v1
        go_roundw
        case rel => exact ⟨k + 1, by omega, by go_num, by rw [HE.out]; go_num, by rw [HE.out]; exact HO6.out, HB6.out⟩
        case measure => simp [intOf]; omega
      · rw [show rightB ((e : Int), (e : Int) + (cq : Int)) = false by unfold rightB; exact decide_eq_false (by omega)]
        have HE := Lib.hid (HN.out hc0)
        go_wp2_with fail
        clear u0 u1 v0 v1
        go_roundw
        case rel => exact ⟨k + 1, by omega, by go_num, by rw [HE.out]; go_num, by rw [HE.out]; exact HO5.out, HB5.out⟩
        case measure => simp [intOf]; omega
    · have hkg : k = gl := by omega
      have HTK := Lib.hid (show G.take k = G by rw [hkg, ← HG.out, List.take_length])
      rw [HTK.out] at hown
      have HO := Lib.hid (own_base hown HZ.out.size)
      have HB := Lib.hid (below_self HZ.out hb)
      clear hown hb hkg hll hle hkm
      go_wp2_with fail
      go_ret
      exact ⟨u3, rfl, HO.out, HB.out⟩
end Go.Proofs.Ytnmefomipldalaa
/- cells' Clusters, Text, At, walked. -/
namespace Go.Proofs.Ytnmefomipldalaa
open Go.RowKit

theorem FinAns.low {w w1 w' : World} {n m : Int} {l : List Cl} {e : Ending} (h : FinAns w1 w' n m l e) (hw : w.heap.size ≤ w1.heap.size) : FinAns w w' n m l e := by
  rcases h with h | ⟨h0, h1, h2, h3, h4, h5, h6, v, l', h7, h8, h9⟩
  · exact .inl h
  · exact .inr ⟨h0, h1, h2, h3, h4, h5, h6, v, l', h7, h8, own_base h9 hw⟩
theorem FinAns.form {w w' : World} {n m : Int} {l : List Cl} {e : Ending} (h : FinAns w w' n m l e) : ∃ (v : Value) (er : Int), e = .returned (.tuple #[v, .int .i64 er]) := by
  rcases h with ⟨_, h⟩ | ⟨_, _, _, _, _, _, _, v, l', h, _⟩
  · exact ⟨_, _, h⟩
  · exact ⟨v, 0, h⟩
/-- The links of cells. -/
def linksR (n : Nat) (R : List RC) (ah : List Int) : List Cl := (linksTo R ah (groupsS n (joinedTo R n))).1
set_option maxRecDepth 100000 in
set_option maxHeartbeats 2000000 in
theorem clusters_cells (base b gc n : Nat) (R : List RC) (va : Value) (ah : List Int) (w : World) (hC : CellsAt w base b gc n R va ah) (hn0 : 0 < n) (hn : n ≤ 1000) (ht : ah.length + lenR R ≤ 1000000) :
    Calls Try.prog 34 #[.pointer (some ⟨b, 0, none⟩)] w fun e w' => FinAns w w' (n : Int) (cntR R ah 0 n : Nat) (linksR n R ah) e ∧ Below w.heap.size w w' := by
  have c0 := hp_cell (j := 0) hC.hb rfl
  have HC := Lib.hid hC
  have HAL := Lib.hid (all_any b (some ⟨gc, 0, none⟩) n n w c0)
  have HL := Lib.hid (fun W (h : Below w.heap.size w W) => links_any base b gc n R va ah W (hC.low h) hn ht)
  have hll : (linksR n R ah).length ≤ 1000 := by
    have h1 := linksTo_len R ah (groupsS (n : Int) (joinedTo R n)) (groupsS (n : Int) (joinedTo R n)).length
    rw [List.take_length] at h1
    exact Nat.le_trans h1 (groups_len (by omega))
  have hct := cntR_le R ah 0 n
  have HLE : Hid ((linksTo R ah (groupsS n (joinedTo R n))).1 = linksR n R ah) := Lib.hid rfl
  rw [HLE.out] at HL
  obtain ⟨L, hL⟩ : ∃ L, linksR n R ah = L := ⟨_, rfl⟩
  rw [hL] at HL hll ⊢
  have HCT := Lib.hid (fun W (h : Below w.heap.size w W) => count_any base b gc n 0 n R va ah W (hC.low h) hn0 (Nat.le_refl _) (by omega) (by omega))
  obtain ⟨cq, hcq⟩ : ∃ cq, cntR R ah 0 n = cq := ⟨_, rfl⟩
  rw [hcq] at HCT hct ⊢
  clear hC c0 hL HLE hcq
  go_enter Try.func34, Try.ntmps34
  go_wp2_with fail
  refine HAL.out.mono ?_
  rintro e w1 ⟨rfl, hb1⟩
  have hb2 := below_new w1 (.cells #[.int .i64 0, .int .i64 (n : Int)] 31)
  have s2 := SpanBlk.new_ w1 0 (n : Int) 31
  obtain ⟨W2, hW2⟩ : ∃ W2, w1.alloc (.cells #[.int .i64 0, .int .i64 (n : Int)] 31) = W2 := ⟨_, rfl⟩
  rw [hW2] at hb2 s2
  obtain ⟨p0, p1, f0, f1⟩ := s2
  obtain ⟨bk, hbk⟩ : ∃ bk, w1.heap.size = bk := ⟨_, rfl⟩
  rw [hbk] at p0 p1
  have hbw2 := below_self hb1 hb2
  clear f0 f1 hb1 hb2
  go_wp2_with fail
  refine (prRight_any 0 (n : Int) W2).mono ?_
  rintro e w3 ⟨rfl, hb3⟩
  rw [show rightB ((0 : Int), (n : Int)) = true by unfold rightB; exact decide_eq_true (by omega)]
  have q0 := cell_below hb3 p0
  have q1 := cell_below hb3 p1
  have hbw3 := below_self hbw2 hb3
  have HB3 := Lib.hid hbw3
  clear p0 p1 hb3 hbw2 hW2 hbk
  go_wp2_with fail
  go_region_held3 (fun w' => w'.cell? ⟨bk, 0, none⟩ = some (.int .i64 0) ∧ w'.cell? ⟨bk, 1, none⟩ = some (.int .i64 (n : Int)) ∧ Below w3.heap.size w3 w')
    (first
      | exact ⟨q0, q1, Below.refl _ _⟩
      | exact ⟨q0, q1, (Below.refl _ _).drew⟩
      | exact ⟨cell_below hz1 q0, cell_below hz1 q1, hz1⟩
      | exact ⟨cell_below hz2 q0, cell_below hz2 q1, hz2⟩
      | exact ⟨cell_below hz3 q0, cell_below hz3 q1, hz3⟩
      | fail)
    (first
      | (go_at_call 72; refine (HCT.out _ (by first | exact below_self HB3.out (Below.refl _ _).drew | exact HB3.out)).mono ?_; rintro e' w4 ⟨rfl, hb4⟩; have hz1 : Below w3.heap.size w3 w4 := (by first | exact below_self (Below.refl _ _).drew hb4 | exact hb4))
      | (go_at_call 73; refine (HL.out _ (below_self HB3.out hz1)).mono ?_; rintro e' w5 ⟨v5, rfl, hown5, hb5⟩; obtain ⟨A5, c5, rfl, hc5⟩ := own_form hown5; have hz2 : Below w3.heap.size w3 w5 := below_self hz1 hb5)
      | (go_at_call 16; refine (prFinest_all (n : Int) (cq : Int) L.length c5 A5 L w5 (Rd.of_own hown5) (by omega)).mono ?_; rintro e' w6 ⟨hans, hb6⟩; obtain ⟨v6, er, rfl⟩ := hans.form; have hz3 : Below w3.heap.size w3 w6 := below_self hz2 hb6)
      | fail)
  have HA := Lib.hid (hans.low (Nat.le_trans HB3.out.size hz2.size))
  have HBF := Lib.hid (below_self HB3.out hz3)
  clear hans hz1 hz2 hz3 hb4 hown5 hb5 hb6 q0 q1
  go_wp2_with fail
  exact bodyPost_ret (v := .tuple #[v6, .int .i64 er]) (by simp [results, go_sem]) rfl ⟨HA.out, HBF.out⟩
set_option maxRecDepth 100000 in
set_option maxHeartbeats 2000000 in
theorem text_cells (base b gc n : Nat) (R : List RC) (va : Value) (ah : List Int) (w : World) (hC : CellsAt w base b gc n R va ah) (hn0 : 0 < n) (hn : n ≤ 100000000) (ht : ah.length + lenR R ≤ 100000000) :
    Calls Try.prog 30 #[.pointer (some ⟨b, 0, none⟩)] w fun e w' => ∃ v, e = .returned v ∧ w'.ownsRow w.heap.size 3 1 v (toldR R ah 0 n).length ((toldR R ah 0 n).map (Value.int .i64)) ∧ Below w.heap.size w w' := by
  have c0 := hp_cell (j := 0) hC.hb rfl
  have HAL := Lib.hid (all_any b (some ⟨gc, 0, none⟩) n n w c0)
  have HT := Lib.hid (fun W (h : Below w.heap.size w W) => told_any base b gc n 0 n R va ah W (hC.low h) hn0 (Nat.le_refl _) hn ht)
  clear hC c0
  go_enter Try.func30, Try.ntmps30
  go_wp2_with fail
  refine HAL.out.mono ?_
  rintro e w1 ⟨rfl, hb1⟩
  have hb2 := below_new w1 (.cells #[.int .i64 0, .int .i64 (n : Int)] 31)
  have s2 := SpanBlk.new_ w1 0 (n : Int) 31
  obtain ⟨W2, hW2⟩ : ∃ W2, w1.alloc (.cells #[.int .i64 0, .int .i64 (n : Int)] 31) = W2 := ⟨_, rfl⟩
  rw [hW2] at hb2 s2
  obtain ⟨p0, p1, f0, f1⟩ := s2
  obtain ⟨bk, hbk⟩ : ∃ bk, w1.heap.size = bk := ⟨_, rfl⟩
  rw [hbk] at p0 p1
  have hbw2 := below_self hb1 hb2
  clear f0 f1 hb1 hb2
  go_wp2_with fail
  refine (prRight_any 0 (n : Int) W2).mono ?_
  rintro e w3 ⟨rfl, hb3⟩
  rw [show rightB ((0 : Int), (n : Int)) = true by unfold rightB; exact decide_eq_true (by omega)]
  have q0 := cell_below hb3 p0
  have q1 := cell_below hb3 p1
  have HB3 := Lib.hid (below_self hbw2 hb3)
  clear p0 p1 hb3 hbw2 hW2 hbk
  go_wp2_with fail
  go_region_held3 (fun w' => w'.cell? ⟨bk, 0, none⟩ = some (.int .i64 0) ∧ w'.cell? ⟨bk, 1, none⟩ = some (.int .i64 (n : Int)) ∧ Below w3.heap.size w3 w')
    (first
      | exact ⟨q0, q1, Below.refl _ _⟩
      | exact ⟨q0, q1, (Below.refl _ _).drew⟩
      | exact ⟨cell_below hz1 q0, cell_below hz1 q1, hz1⟩
      | fail)
    (first
      | (go_at_call 70; refine (HT.out _ (by first | exact below_self HB3.out (Below.refl _ _).drew | exact HB3.out)).mono ?_; rintro e' w4 ⟨v4, rfl, hown4, hb4⟩; have hz1 : Below w3.heap.size w3 w4 := (by first | exact below_self (Below.refl _ _).drew hb4 | exact hb4); have ho4 := (by first | exact own_base hown4 (Nat.le_trans HB3.out.size (Nat.le_refl w3.heap.size)) | exact own_base hown4 HB3.out.size : w4.ownsRow w.heap.size 3 1 v4 (toldR R ah 0 n).length ((toldR R ah 0 n).map (Value.int .i64))))
      | fail)
  have HO := Lib.hid ho4
  have HBF := Lib.hid (below_self HB3.out hz1)
  clear ho4 hown4 hz1 hb4 q0 q1
  go_wp2_with fail
  go_ret
  exact ⟨v4, rfl, HO.out, HBF.out⟩
end Go.Proofs.Ytnmefomipldalaa
/- cells' New, set, Set, walked. -/
namespace Go.Proofs.Ytnmefomipldalaa
open Go.RowKit

/-- A cell that has nothing. -/
def zRC : RC := (.slice none 0 0, 0, [])
theorem zcells_at (n : Nat) {j : Nat} (h : j < n * 2) : (cellsRC (List.replicate n zRC))[j]? = some (if j % 2 = 0 then .slice none 0 0 else .int .i64 0) := by
  have hr : (List.replicate n zRC)[j / 2]? = some zRC := by rw [List.getElem?_replicate, if_pos (by omega)]
  obtain ⟨h1, h2⟩ := cellsRC_at hr
  rcases Nat.mod_two_eq_zero_or_one j with e | e
  · rw [show j / 2 * 2 = j by omega] at h1
    rw [h1, if_pos e]; rfl
  · rw [show j / 2 * 2 + 1 = j by omega] at h2
    rw [h2, if_neg (by omega)]; rfl
theorem mk_cells (n : Nat) (hn : n ≤ 16777216) (w : World) : (Instr.makeSlice 62 (.int .i64 (n : Int)) (.int .i64 (n : Int))).run Try.prog w = .ok (.slice (some ⟨w.heap.size, 0, none⟩) n n) (w.alloc (.cells (cellsRC (List.replicate n zRC)).toArray 108)) := by
  have hin : (Try.prog.info? 108).map (fun i => (i.zero, i.size, i.bytes)) = some (some (.agg #[.slice none 0 0, .int .i64 0]), 2, 32) := by kernel_rfl
  obtain ⟨i, h1, h2, h3, h4⟩ := info_parts hin
  have h := run_make (P := Try.prog) w 62 108 i (.agg #[.slice none 0 0, .int .i64 0]) Try.underlying62 h1 h2 .i64 .i64 n n (by omega) (Int.le_refl _) (by rw [h4]; omega) (by omega)
  rw [h3] at h
  simp only [Int.toNat_natCast] at h
  rw [h]
  refine congrArg (fun c => Result.ok _ (w.alloc (.cells c _))) ?_
  apply Array.toList_inj.1
  rw [show (Value.agg #[.slice none 0 0, .int .i64 0]).cells = #[.slice none 0 0, .int .i64 0] from rfl]
  apply List.ext_getElem?
  intro j
  by_cases hj : j < n * 2
  · rw [show (cellsRC (List.replicate n zRC)).toArray.toList = cellsRC (List.replicate n zRC) from rfl, zcells_at n hj]
    unfold madeCells
    simp only [Array.toList_map, Array.toList_range, List.getElem?_map, List.getElem?_range hj, Option.map_some]
    rcases Nat.mod_two_eq_zero_or_one j with e | e
    · simp [e]
    · simp [e]
  · rw [List.getElem?_eq_none (by simp [madeCells]; omega), List.getElem?_eq_none (by simp [cellsRC_len]; omega)]
theorem zrows (w : World) (base n : Nat) : ∀ (i : Nat) (r : RC), (List.replicate n zRC)[i]? = some r → w.ownsRow base 3 1 r.1 r.2.2.length (r.2.2.map (Value.int .i64)) := fun i r h => by
  rw [List.getElem?_replicate] at h
  split at h
  · obtain rfl := Option.some.inj h
    exact ⟨rfl, .inl ⟨rfl, rfl⟩⟩
  · cases h
theorem znone (n : Nat) : ∀ (i : Nat) (r : RC), (List.replicate n zRC)[i]? = some r → r.1.ownBlock = none := fun i r h => by
  rw [List.getElem?_replicate] at h
  split at h
  · obtain rfl := Option.some.inj h
    rfl
  · cases h
/-- What New answers. -/
def NewAns (w w' : World) (n : Int) (e : Ending) : Prop :=
  ((n < 0 ∨ 16777216 < n) ∧ e = .returned (.tuple #[.pointer none, .int .i64 1])) ∨
  (∃ (m b gc base : Nat), n = (m : Int) ∧ m ≤ 16777216 ∧ e = .returned (.tuple #[.pointer (some ⟨b, 0, none⟩), .int .i64 0]) ∧ CellsAt w' base b gc m (List.replicate m zRC) (.slice none 0 0) [] ∧ w.heap.size ≤ b ∧ w.heap.size ≤ gc)
set_option maxRecDepth 100000 in
set_option maxHeartbeats 1000000 in
theorem new_any (n : Int) (w : World) : Calls Try.prog 26 #[.int .i64 n] w fun e w' => NewAns w w' n e ∧ Below w.heap.size w w' := by
  have hb0 := Below.refl w.heap.size w
  have hc : n < 0 ∨ (0 ≤ n ∧ 16777216 < n) ∨ (∃ m : Nat, n = (m : Int) ∧ m ≤ 16777216) := by
    by_cases h1 : n < 0
    · exact .inl h1
    · by_cases h2 : 16777216 < n
      · exact .inr (.inl ⟨by omega, h2⟩)
      · exact .inr (.inr ⟨n.toNat, by omega, by omega⟩)
  rcases hc with h1 | ⟨h1, h2⟩ | ⟨m, rfl, hm⟩
  · go_enter Try.func26, Try.ntmps26
    go_wp2_with fail
    exact bodyPost_ret (v := .tuple #[.pointer none, .int .i64 1]) (by simp [results, go_sem]) rfl ⟨.inl ⟨.inl h1, rfl⟩, hb0⟩
  · go_enter Try.func26, Try.ntmps26
    go_wp2_with fail
    exact bodyPost_ret (v := .tuple #[.pointer none, .int .i64 1]) (by simp [results, go_sem]) rfl ⟨.inl ⟨.inr h2, rfl⟩, hb0⟩
  · have hmk := mk_cells m hm
    have hmi : (m : Int) ≤ 16777216 := by omega
    have hm0 : (0 : Int) ≤ (m : Int) := by omega
    have HB := Lib.hid (below_self (below_new w (.cells (cellsRC (List.replicate m zRC)).toArray 108)) (below_new (w.alloc (.cells (cellsRC (List.replicate m zRC)).toArray 108)) (.cells #[.slice (some ⟨w.heap.size, 0, none⟩) m m, .slice none 0 0] 66)))
    have HC := Lib.hid (show CellsAt ((w.alloc (.cells (cellsRC (List.replicate m zRC)).toArray 108)).alloc (.cells #[.slice (some ⟨w.heap.size, 0, none⟩) m m, .slice none 0 0] 66)) (w.heap.size + 2) (w.heap.size + 1) w.heap.size m (List.replicate m zRC) (.slice none 0 0) [] from
      ⟨by have h := heap_alloc_new (w.alloc (.cells (cellsRC (List.replicate m zRC)).toArray 108)) (.cells #[.slice (some ⟨w.heap.size, 0, none⟩) m m, .slice none 0 0] 66); simpa using h,
       by rw [heap_alloc_old (h := by simp)]; exact heap_alloc_new w _, by simp, zrows _ _ m, ⟨rfl, .inl ⟨rfl, rfl⟩⟩, fun i j r s _ h _ => .inl (znone m i r h), fun i r h => .inl (znone m i r h), ⟨by omega, by omega, by omega, by simp⟩⟩)
    clear hb0
    go_enter Try.func26, Try.ntmps26
    go_wp2_with fail
    exact bodyPost_ret (v := .tuple #[.pointer (some ⟨w.heap.size + 1, 0, none⟩), .int .i64 0]) (by simp [results, go_sem]) rfl ⟨.inr ⟨m, w.heap.size + 1, w.heap.size, w.heap.size + 2, rfl, hm, rfl, HC.out, by omega, by omega⟩, HB.out⟩
end Go.Proofs.Ytnmefomipldalaa
/- naskhlaw12's awake: two cells, of which the second one has two codes. -/
namespace Go.Proofs.Ytnmefomipldalaa
open Go.RowKit

def twoR (v : Value) : List RC := [zRC, (v, 0, [7, 8])]
theorem two_set (v : Value) : (List.replicate 2 zRC).set 1 (v, zRC.2.1, [7, 8]) = twoR v := rfl
theorem two_cnt (v : Value) : cntR (twoR v) [] 0 2 = 2 := rfl
theorem two_len (v : Value) : ([] : List Int).length + lenR (twoR v) ≤ 1000000 := by rw [show ([] : List Int).length + lenR (twoR v) = 2 from rfl]; omega
theorem two_told (v : Value) : toldR (twoR v) [] 0 2 = [7, 8] := rfl
def twoL : List Cl := [((1, 2), (0, 2))]
theorem two_links (v : Value) : linksR 2 (twoR v) [] = twoL := by
  have h1 : joinedTo (twoR v) 2 = [] := rfl
  unfold linksR
  rw [h1]
  rfl
theorem two_fit : fitB 2 2 twoL = true := rfl
theorem two_cov : CovP 2 twoL := fun j h1 h2 => ⟨(0, 2), by simp [twoL], h1, h2⟩
theorem two_E : finE 2 2 twoL = 0 := by
  unfold finE
  rw [two_fit, if_neg (by simp), if_neg (by simp), if_neg (by simp), if_pos two_cov]
theorem two_finest : Finest (twoL.map ncOf ++ fillsOf 2 (twoL.map ncOf)) 0 2 2 [⟨0, 2, 0, 2⟩] := by
  have hK : twoL.map ncOf = [⟨1, 2, 0, 2⟩] := rfl
  rw [hK]
  have hf : FirstOf [(⟨1, 2, 0, 2⟩ : NC)] 1 := ⟨⟨_, List.mem_singleton_self _, ⟨by decide, by decide⟩, rfl⟩, fun y hy _ => by rw [List.mem_singleton.1 hy]; exact Nat.le_refl 1⟩
  have hmem : (⟨0, 2, 0, 0⟩ : NC) ∈ fillsOf 2 [(⟨1, 2, 0, 2⟩ : NC)] := by
    unfold fillsOf
    refine List.mem_append_right _ ?_
    unfold fillAhead
    have hex : ∃ f, FirstOf [(⟨1, 2, 0, 2⟩ : NC)] f ∧ 0 < f := ⟨1, hf, by omega⟩
    rw [dif_pos hex, (Classical.choose_spec hex).1.only hf]
    exact List.mem_singleton_self _
  have t1 : ∀ i, i < 2 → Tog ([(⟨1, 2, 0, 2⟩ : NC)] ++ fillsOf 2 [(⟨1, 2, 0, 2⟩ : NC)]) (false, 1) (false, i) := fun i hi => .link ⟨0, 2, 0, 0⟩ _ _ (List.mem_append_right _ hmem) (show 0 ≤ 1 ∧ 1 < 2 by omega) (show 0 ≤ i ∧ i < 2 by omega)
  have t2 : ∀ k, k < 2 → Tog ([(⟨1, 2, 0, 2⟩ : NC)] ++ fillsOf 2 [(⟨1, 2, 0, 2⟩ : NC)]) (false, 1) (true, k) := fun k hk => .link ⟨1, 2, 0, 2⟩ _ _ (List.mem_append_left _ (List.mem_singleton_self _)) (show 1 ≤ 1 ∧ 1 < 2 by omega) (show 0 ≤ k ∧ k < 2 by omega)
  refine ⟨⟨rfl, by decide, rfl⟩, fun x hx => by rw [List.mem_singleton.1 hx]; exact ⟨by decide, by decide⟩, fun i _ hi q hq => ⟨fun _ => ⟨_, List.mem_singleton_self _, (show 0 ≤ i ∧ i < 2 by omega), ?_⟩, fun _ => ?_⟩⟩
  · obtain ⟨s, k⟩ := q
    cases s
    · exact (show 0 ≤ k ∧ k < 2 from hq)
    · exact (show 0 ≤ k ∧ k < 2 from ⟨Nat.zero_le _, hq⟩)
  · obtain ⟨s, k⟩ := q
    cases s
    · exact .trans _ _ _ (.symm _ _ (t1 i hi)) (t1 k hq.2)
    · exact .trans _ _ _ (.symm _ _ (t1 i hi)) (t2 k hq)
set_option maxRecDepth 100000 in
set_option maxHeartbeats 2000000 in
theorem awake12_any (w : World) : Calls Try.prog 25 #[] w fun e w' => e = .returned (.bool true) ∧ Below w.heap.size w w' := by
  go_enter Try.func25, Try.ntmps25
  go_wp2_with fail
  refine (new_any 2 w).mono ?_
  rintro e w1 ⟨hans, hb1⟩
  rcases hans with ⟨h, _⟩ | ⟨m, b, gc, base, hm, _, rfl, hC, hbb, hbg⟩
  · omega
  · have hm2 : m = 2 := by omega
    subst hm2
    have hbn := below_new w1 (.cells #[.int .i64 7, .int .i64 8] 3)
    have HC2 := Lib.hid (hC.low hbn)
    have hr : Rd (w1.alloc (.cells #[.int .i64 7, .int .i64 8] 3)) 1 (some ⟨w1.heap.size, 0, none⟩) 2 (([7, 8] : List Int).map (Value.int .i64)) := rd_blk (m := 2) (cs := [.int .i64 7, .int .i64 8]) 1 (heap_alloc_new w1 (.cells #[.int .i64 7, .int .i64 8] 3)) rfl
    have HR := Lib.hid hr
    have HB := Lib.hid (below_self hb1 hbn)
    have hsz : w.heap.size ≤ (w1.alloc (.cells #[.int .i64 7, .int .i64 8] 3)).heap.size := HB.out.size
    clear hm hC hr hbn
    go_wp2_with fail
    refine (set_cells base b gc 2 1 _ _ _ [7, 8] _ 2 2 _ HC2.out (by omega) HR.out (by omega) (by omega)).mono ?_
    rintro e w3 ⟨rfl, ⟨v, r, hri, hC3⟩, hB3⟩
    have hr0 : r = zRC := (Option.some.inj hri).symm
    subst hr0
    have hC4 : CellsAt w3 base b gc 2 (twoR v) (.slice none 0 0) [] := hC3
    have HC4 := Lib.hid hC4
    have HB3 := Lib.hid (hB3 w.heap.size w hbb hbg hsz HB.out)
    clear hri hC3 hB3 hC4 hsz hbb hbg hb1
    go_wp2_with fail
    refine (clusters_cells base b gc 2 (twoR v) _ [] w3 HC4.out (by omega) (by omega) (two_len v)).mono ?_
    rintro e w4 ⟨hans, hb4⟩
    have hans2 : FinAns w3 w4 2 2 twoL e := by
      have h := hans
      rw [two_cnt, two_links] at h
      exact h
    clear hans
    rcases hans2 with ⟨hne, _⟩ | ⟨_, _, _, _, _, _, _, v4, l', rfl, hfi, hown⟩
    · exact absurd two_E hne
    · have hl' : l' = [⟨0, 2, 0, 2⟩] := Finest.only (hfi.2 (by decide)) two_finest
      subst hl'
      obtain ⟨V, cv, rfl, _⟩ := own_form hown
      have HR4 := Lib.hid (show Rd w4 4 V 1 (cellsC [((0, 2), (0, 2))]) from Rd.of_own hown)
      have HC5 := Lib.hid (HC4.out.low hb4)
      have HB4 := Lib.hid (below_self HB3.out hb4)
      clear hfi hown hb4
      go_wp2_with fail
      refine (text_cells base b gc 2 (twoR v) _ [] w4 HC5.out (by omega) (by omega) (Nat.le_trans (two_len v) (by omega))).mono ?_
      rintro e w5 ⟨v5, rfl, hown5, hb5⟩
      rw [two_told] at hown5
      obtain ⟨V5, cv5, rfl, _⟩ := own_form hown5
      have hbn := below_new w5 (.cells #[.int .i64 7, .int .i64 8] 3)
      have HR5 := Lib.hid (show Rd (w5.alloc (.cells #[.int .i64 7, .int .i64 8] 3)) 1 V5 2 (([7, 8] : List Int).map (Value.int .i64)) from (Rd.of_own hown5).below hbn)
      have HR6 := Lib.hid (show Rd (w5.alloc (.cells #[.int .i64 7, .int .i64 8] 3)) 1 (some ⟨w5.heap.size, 0, none⟩) 2 (([7, 8] : List Int).map (Value.int .i64)) from rd_blk (m := 2) (cs := [.int .i64 7, .int .i64 8]) 1 (heap_alloc_new w5 (.cells #[.int .i64 7, .int .i64 8] 3)) rfl)
      have HB5 := Lib.hid (below_self (below_self HB4.out hb5) hbn)
      have HRC := Lib.hid ((HR4.out.below hb5).below hbn)
      clear hown5 hbn hb5
      go_wp2_with fail
      refine (equalInt_any V5 (some ⟨w5.heap.size, 0, none⟩) 2 2 cv5 2 [7, 8] [7, 8] _ HR5.out HR6.out (by unfold maxLen; omega) (by unfold maxLen; omega)).mono ?_
      rintro e w6 ⟨rfl, q6, hw6⟩
      rw [show decide (([7, 8] : List Int) = [7, 8]) = true from decide_eq_true rfl]
      have HB6 := Lib.hid (show Below w.heap.size w w6 by rw [hw6]; exact below_drew HB5.out q6)
      have HRC6 := Lib.hid (show Rd w6 4 V 1 (cellsC [((0, 2), (0, 2))]) by rw [hw6]; exact HRC.out)
      clear hw6
      have hbn := below_new w6 (.cells #[.int .i64 0, .int .i64 2, .int .i64 0, .int .i64 2] 33)
      have HR7 := Lib.hid (show Rd (w6.alloc (.cells #[.int .i64 0, .int .i64 2, .int .i64 0, .int .i64 2] 33)) 4 (some ⟨w6.heap.size, 0, none⟩) 1 (cellsC [((0, 2), (0, 2))]) from rd_blk (m := 1) (cs := [.int .i64 0, .int .i64 2, .int .i64 0, .int .i64 2]) 4 (heap_alloc_new w6 (.cells #[.int .i64 0, .int .i64 2, .int .i64 0, .int .i64 2] 33)) rfl)
      have HR8 := Lib.hid (HRC6.out.below hbn)
      have HB7 := Lib.hid (below_self HB6.out hbn)
      clear hbn
      go_wp2_with fail
      refine (equalC_b V (some ⟨w6.heap.size, 0, none⟩) 1 1 cv 1 [((0, 2), (0, 2))] [((0, 2), (0, 2))] _ HR8.out HR7.out (by unfold maxLen; omega) (by unfold maxLen; omega)).mono ?_
      rintro e w7 ⟨rfl, hb7⟩
      rw [show decide (([((0, 2), (0, 2))] : List Cl) = [((0, 2), (0, 2))]) = true from decide_eq_true rfl]
      have hfin := below_self HB7.out hb7
      go_wp2_with fail
      go_ret
      exact ⟨rfl, hfin⟩
end Go.Proofs.Ytnmefomipldalaa
