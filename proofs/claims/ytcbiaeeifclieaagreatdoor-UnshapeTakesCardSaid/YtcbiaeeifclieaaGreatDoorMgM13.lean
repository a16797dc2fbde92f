/- Texts of one claim, one behind the other. -/
import Derived.Deep.RegionWith
import Derived.Test.YtcbiaeeifclieaaGreatDoorMgM3
import Derived.Test.YtcbiaeeifclieaaGreatDoorMgM12
/- cluster's sides: a new one, walked. -/
namespace Go.Proofs.YtcbiaeeifclieaaGreatDoor
open Go.RowKit

/-- A new side at b. -/
def SideNew (w W : World) (n b : Nat) : Prop := ∃ gA gE m, SetsAt W b gA gE n (List.range n) ((List.range n).map (· + 1)) ∧ W.cell? ⟨b, 2, none⟩ = some (.map (some m)) ∧ W.heap[m]? = some (.map #[] 0) ∧ w.heap.size ≤ b ∧ w.heap.size ≤ gA ∧ w.heap.size ≤ gE ∧ w.heap.size ≤ m ∧ m ≠ gA ∧ m ≠ gE ∧ m ≠ b ∧ Kept w W []
theorem sideNew_of {w W : World} {n b gA gE m : Nat} (hb : W.heap[b]? = some (.cells #[.slice (some ⟨gA, 0, none⟩) n n, .slice (some ⟨gE, 0, none⟩) n n, .map (some m)] 172 (0, 0))) (hA : W.heap[gA]? = some (.cells (ints (List.range n)).toArray 3 (0, 0))) (hE : W.heap[gE]? = some (.cells (ints ((List.range n).map (· + 1))).toArray 3 (0, 0))) (hm : W.heap[m]? = some (.map #[] 0))
    (hk : Kept w W []) (h : w.heap.size ≤ gA ∧ w.heap.size ≤ gE ∧ w.heap.size ≤ m ∧ w.heap.size ≤ b ∧ gA ≠ gE ∧ m ≠ gA ∧ m ≠ gE ∧ m ≠ b ∧ gA ≠ b ∧ gE ≠ b) : SideNew w W n b := by
  obtain ⟨h1, h2, h3, h4, h5, h6, h7, h8, h9, h10⟩ := h
  have hc : ∀ j u, (#[.slice (some ⟨gA, 0, none⟩) n n, .slice (some ⟨gE, 0, none⟩) n n, .map (some m)] : Array Value)[j]? = some u → W.cell? ⟨b, j, none⟩ = some u := fun j u hu => by
    unfold World.cell?
    rw [show W.heap[(⟨b, j, none⟩ : Addr).block]? = _ from hb]
    exact hu
  exact ⟨gA, gE, m, ⟨hc 0 _ rfl, hc 1 _ rfl, hA, hE, by simp, by simp, h9, h10, h5⟩, hc 2 _ rfl, hm, h4, h1, h2, h3, h6, h7, h8, hk⟩
theorem Kept.alloc {w W : World} {S : List Nat} (h : Kept w W S) (o : Obj) : Kept w (W.alloc o) S := h.trans (Kept.of_below (below_new _ _) S)
theorem sideNew_1 {w w' : World} {n gA gE : Nat} (hA : w'.heap[gA]? = some (.cells (ints (List.range n)).toArray 3 (0, 0))) (hE : w'.heap[gE]? = some (.cells (ints ((List.range n).map (fun x => x + 1))).toArray 3 (0, 0))) (hne : gA ≠ gE) (l1 : w.drew.heap.size ≤ gA) (l2 : w.drew.heap.size ≤ gE) (hk : Kept w.drew w' []) :
    SideNew w ((w'.alloc (.map #[] 0)).alloc (.cells #[.slice (some ⟨gA, 0, none⟩) n n, .slice (some ⟨gE, 0, none⟩) n n, .map (some w'.heap.size)] 172)) n (w'.heap.size + 1) := by
  have hk' : Kept w w' [] := ⟨hk.os, hk.tape, hk.output, hk.size, hk.block⟩
  have a1 := heap_lt hA
  have a2 := heap_lt hE
  have hsz := hk'.size
  have hb := heap_alloc_new (w'.alloc (.map #[] 0)) (.cells #[.slice (some ⟨gA, 0, none⟩) n n, .slice (some ⟨gE, 0, none⟩) n n, .map (some w'.heap.size)] 172)
  rw [World.size_alloc] at hb
  simp only [World.size_drew] at l1 l2
  refine sideNew_of hb ?_ ?_ ?_ ((hk'.alloc _).alloc _) ⟨l1, l2, hsz, by omega, hne, by omega, by omega, by omega, by omega, by omega⟩
  · rw [heap_alloc_old (h := by simp; omega), heap_alloc_old (h := a1)]
    exact hA
  · rw [heap_alloc_old (h := by simp; omega), heap_alloc_old (h := a2)]
    exact hE
  · rw [heap_alloc_old (h := by simp)]
    exact heap_alloc_new w' _
theorem sideNew_2 {w w' : World} {n gA gE : Nat} (hA : w'.heap[gA]? = some (.cells (ints (List.range n)).toArray 3 (0, 0))) (hE : w'.heap[gE]? = some (.cells (ints ((List.range n).map (fun x => x + 1))).toArray 3 (0, 0))) (hne : gA ≠ gE) (l1 : (w.alloc (.map #[] 0)).drew.heap.size ≤ gA) (l2 : (w.alloc (.map #[] 0)).drew.heap.size ≤ gE) (hk : Kept (w.alloc (.map #[] 0)).drew w' []) :
    SideNew w (w'.alloc (.cells #[.slice (some ⟨gA, 0, none⟩) n n, .slice (some ⟨gE, 0, none⟩) n n, .map (some w.heap.size)] 172)) n w'.heap.size := by
  have hk1 : Kept (w.alloc (.map #[] 0)) w' [] := ⟨hk.os, hk.tape, hk.output, hk.size, hk.block⟩
  have hk' : Kept w w' [] := (Kept.of_below (below_new _ _) []).trans hk1
  have a1 := heap_lt hA
  have a2 := heap_lt hE
  have hsz := hk1.size
  have hm := hk1.heap (heap_alloc_new w (.map #[] 0)) (by simp)
  simp only [World.size_drew, World.size_alloc] at l1 l2 hsz
  refine sideNew_of (heap_alloc_new w' _) ?_ ?_ ?_ (hk'.alloc _) ⟨by omega, by omega, Nat.le_refl _, by omega, hne, by omega, by omega, by omega, by omega, by omega⟩
  · rw [heap_alloc_old (h := a1)]
    exact hA
  · rw [heap_alloc_old (h := a2)]
    exact hE
  · rw [heap_alloc_old (h := by omega)]
    exact hm
set_option maxRecDepth 100000 in
set_option maxHeartbeats 1000000 in
theorem newSide_any (n k : Nat) (hn : n ≤ 100000000) (hk : k ≤ 100000000) (w : World) :
    Calls Tryz.prog 71 #[.int .i64 (n : Int), .int .i64 (k : Int)] w fun e' w' => ∃ b, e' = .returned (.pointer (some ⟨b, 0, none⟩)) ∧ SideNew w w' n b := by
  have hmk : ∀ (W : World) (x : Int), (Instr.makeMap 170 (some (.int .i64 x))).run Tryz.prog W = .ok (.map (some W.heap.size)) (W.alloc (.map #[] 0)) := fun _ _ => rfl
  have hns := fun W => newSets_any n hn W
  go_enter Tryz.func71, Tryz.ntmps71
  go_upto_region 1 with fail
  by_cases hkn : (k : Int) < (n : Int)
  all_goals go_region_with (go_at_call 102; refine (hns _).mono ?_; rintro e w' ⟨gA, gE, rfl, hA, hE, hne, l1, l2, hk⟩)
  all_goals (
    clear hns hmk
    go_wp2_with fail
    (try simp only [Exit.inBlock, Exit.then])
    refine bodyPost_ret (v := .pointer (some ⟨_, 0, none⟩)) (by simp [results, go_sem]; rfl) rfl ⟨_, rfl, ?_⟩
    first
      | exact sideNew_1 hA hE hne l1 l2 hk
      | exact sideNew_2 hA hE hne l1 l2 hk
      | fail)
end Go.Proofs.YtcbiaeeifclieaaGreatDoor
/- cluster's side: a side in memory; what take does, as mathematics. -/
namespace Go.Proofs.YtcbiaeeifclieaaGreatDoor
open Go.RowKit

/-- The places from p on, below E, made one set. -/
def cutR (r : Nat → Nat) (p E : Nat) : Nat → Nat := fun i => if p ≤ i ∧ i < E then p else r i
def cutE (e : Nat → Nat) (p E : Nat) : Nat → Nat := fun x => if x = p then E else e x
def cutM (M : Nat → Option Sp) (p E : Nat) : Nat → Option Sp := fun k => if p < k ∧ k < E then none else M k
def hulO (a : Sp) : Option Sp → Sp
  | none => a
  | some b => hullMore a b
/-- The hull of a span and of all that belongs to the next j places from p on. -/
def hulT (a : Sp) (M : Nat → Option Sp) (p : Nat) : Nat → Sp
  | 0 => a
  | j + 1 => hulO (hulT a M p j) (M (p + j))
theorem hullMore_right {a b : Sp} (ha : rightB a = true) (hb : rightB b = true) : rightB (hullMore a b) = true := by
  unfold rightB at *
  rw [decide_eq_true_eq] at *
  unfold hullMore
  simp only
  constructor <;> (repeat' split) <;> omega
theorem hullS_two {a : Sp} (ha : rightB a = true) (o : Option Sp) (ho : ∀ b, o = some b → rightB b = true) : hullS [a, o.getD (0, 0)] = hulO a o := by
  have h0 : hullStep (0, 0) a = a := by
    unfold hullStep
    rw [if_pos ha, if_neg (by decide)]
    unfold hullMore
    simp
  cases o with
  | none =>
    show hullStep (hullStep (0, 0) a) (0, 0) = a
    rw [h0]
    exact if_neg (by decide)
  | some b =>
    show hullStep (hullStep (0, 0) a) b = hullMore a b
    rw [h0]
    unfold hullStep
    rw [if_pos (ho b rfl), if_pos ha]
theorem hulO_right {a : Sp} (ha : rightB a = true) {o : Option Sp} (ho : ∀ b, o = some b → rightB b = true) : rightB (hulO a o) = true := by
  cases o with
  | none => exact ha
  | some b => exact hullMore_right ha (ho b rfl)
theorem hulT_right {a : Sp} (ha : rightB a = true) {M : Nat → Option Sp} (hM : ∀ k s, M k = some s → rightB s = true) (p j : Nat) : rightB (hulT a M p j) = true := by
  induction j with
  | zero => exact ha
  | succ j ih => exact hulO_right ih (fun b hb => hM _ _ hb)
/-- Places that belong to nothing add nothing. -/
theorem hulT_skip (a : Sp) {M : Nat → Option Sp} {p i j : Nat} (hij : i ≤ j) (h : ∀ k, i ≤ k → k < j → M (p + k) = none) : hulT a M p j = hulT a M p i := by
  induction j with
  | zero => rw [show i = 0 by omega]
  | succ j ih =>
    by_cases e : i = j + 1
    · rw [e]
    · show hulO (hulT a M p j) (M (p + j)) = _
      rw [h j (by omega) (by omega)]
      exact ih (by omega) (fun k h1 h2 => h k h1 (by omega))
/-- Which places have something that belongs to them: first ones alone; each of it is a right span. -/
structure Doms (n : Nat) (r : Nat → Nat) (M : Nat → Option Sp) : Prop where
  dom : ∀ k s, M k = some s → k < n ∧ r k = k
  right : ∀ k s, M k = some s → rightB s = true
section
variable {n : Nat} {r e : Nat → Nat} {M : Nat → Option Sp} {p E : Nat}
theorem cutR_root (hE : p < E) : cutR r p E p = p := if_pos ⟨Nat.le_refl _, hE⟩
/-- Nothing is cut where the set ends. -/
theorem cut_start (h : Part n r e) (hp : r p = p) (hpn : p < n) : cutR r p (e p) = r ∧ cutE e p (e p) = e := by
  constructor
  · funext i
    unfold cutR
    split
    · rename_i hi
      exact ((h.same p i hpn (by rw [hp]; exact hi.1) (by rw [hp]; exact hi.2)).trans hp).symm
    · rfl
  · funext x
    unfold cutE
    split
    · rename_i hx; rw [hx]
    · rfl
theorem cutM_start (h : Part n r e) (hD : Doms n r M) (hp : r p = p) (hpn : p < n) : cutM M p (e p) = M := by
  funext k
  unfold cutM
  split
  · rename_i hk
    cases hm : M k with
    | none => rfl
    | some s =>
      have h1 := (hD.dom k s hm).2
      have h2 := h.same p k hpn (by rw [hp]; omega) (by rw [hp]; exact hk.2)
      rw [h1, hp] at h2
      omega
  · rfl
/-- The set of p, cut at E, and the next set made one. -/
theorem cut_unite (hE : p < E) (hEr : r E = E) (hEe : E < e E) : uniR (cutR r p E) (cutE e p E) p = cutR r p (e E) ∧ uniE (cutE e p E) p = cutE e p (e E) := by
  have h1 : cutE e p E p = E := if_pos rfl
  have h2 : cutE e p E E = e E := if_neg (by omega)
  constructor
  · funext i
    unfold uniR cutR
    rw [h1, h2]
    by_cases c1 : E ≤ i ∧ i < e E
    · rw [if_pos c1, if_pos (by omega)]
    · rw [if_neg c1]
      by_cases c2 : p ≤ i ∧ i < E
      · rw [if_pos c2, if_pos (by omega)]
      · rw [if_neg c2, if_neg (by omega)]
  · funext x
    unfold uniE cutE
    by_cases c : x = p
    · rw [if_pos c, if_pos c, if_pos rfl, if_neg (by omega)]
    · rw [if_neg c, if_neg c, if_neg c]
theorem cutM_next (h : Part n r e) (hD : Doms n r M) (hE : p < E) (hEr : r E = E) (hEn : E < n) : delM (cutM M p E) E = cutM M p (e E) := by
  have hlt := h.lt E hEn
  rw [hEr] at hlt
  funext k
  unfold delM cutM
  by_cases c : k = E
  · rw [if_pos c, if_pos (by omega)]
  · rw [if_neg c]
    by_cases c1 : p < k ∧ k < E
    · rw [if_pos c1, if_pos (by omega)]
    · rw [if_neg c1]
      by_cases c2 : p < k ∧ k < e E
      · rw [if_pos c2]
        cases hm : M k with
        | none => rfl
        | some s =>
          have h1 := (hD.dom k s hm).2
          have h2 := h.same E k hEn (by rw [hEr]; omega) (by rw [hEr]; exact c2.2)
          rw [h1, hEr] at h2
          omega
      · rw [if_neg c2]
theorem hulT_next (h : Part n r e) (hD : Doms n r M) (a : Sp) (hE : p < E) (hEr : r E = E) (hEn : E < n) : hulT a M p (e E - p) = hulO (hulT a M p (E - p)) (M E) := by
  have hlt := h.lt E hEn
  rw [hEr] at hlt
  have h1 : hulT a M p (E - p + 1) = hulO (hulT a M p (E - p)) (M E) := by
    show hulO (hulT a M p (E - p)) (M (p + (E - p))) = _
    rw [show p + (E - p) = E by omega]
  rw [← h1]
  refine hulT_skip a (by omega) (fun k h2 h3 => ?_)
  cases hm : M (p + k) with
  | none => rfl
  | some s =>
    have h4 := (hD.dom _ s hm).2
    have h5 := h.same E (p + k) hEn (by rw [hEr]; omega) (by rw [hEr]; omega)
    rw [h4, hEr] at h5
    omega
theorem hulT_first (h : Part n r e) (hD : Doms n r M) (a : Sp) (hp : r p = p) (hpn : p < n) : hulT a M p (e p - p) = hulO a (M p) := by
  have hlt := h.lt p hpn
  rw [hp] at hlt
  have h1 : hulT a M p 1 = hulO a (M p) := rfl
  rw [← h1]
  refine hulT_skip a (by omega) (fun k h2 h3 => ?_)
  cases hm : M (p + k) with
  | none => rfl
  | some s =>
    have h4 := (hD.dom _ s hm).2
    have h5 := h.same p (p + k) hpn (by rw [hp]; omega) (by rw [hp]; omega)
    rw [h4, hp] at h5
    omega
end
/-- A side: its sets and what belongs to each of them. -/
structure SideAt (w : World) (b gA gE mB n : Nat) (r e : Nat → Nat) (M : Nat → Option Sp) : Prop where
  ex : ∃ ah en, SetsAt w b gA gE n ah en ∧ Forest n ah r ∧ ∀ i, r i = i → i < n → en[i]? = some (e i)
  c2 : w.cell? ⟨b, 2, none⟩ = some (.map (some mB))
  map : MapAt w mB n M
  part : Part n r e
  ne1 : mB ≠ gA
  ne2 : mB ≠ gE
  ne3 : mB ≠ b
theorem cell_of_heap {w w' : World} {g : Nat} (h : w'.heap[g]? = w.heap[g]?) (j : Nat) : w'.cell? ⟨g, j, none⟩ = w.cell? ⟨g, j, none⟩ := by
  unfold World.cell?
  rw [show w'.heap[(⟨g, j, none⟩ : Addr).block]? = w.heap[(⟨g, j, none⟩ : Addr).block]? from h]
/-- What leaves a side's blocks alone leaves the side. -/
theorem SideAt.heap {w w' : World} {b gA gE mB n : Nat} {r e : Nat → Nat} {M : Nat → Option Sp} (h : SideAt w b gA gE mB n r e M) (hb : w'.heap[b]? = w.heap[b]?) (hA : w'.heap[gA]? = w.heap[gA]?) (hE : w'.heap[gE]? = w.heap[gE]?) (hm : w'.heap[mB]? = w.heap[mB]?) : SideAt w' b gA gE mB n r e M := by
  obtain ⟨ah, en, hS, hF, hEn⟩ := h.ex
  exact ⟨⟨ah, en, ⟨(cell_of_heap hb 0).trans hS.c0, (cell_of_heap hb 1).trans hS.c1, hA.trans hS.hA, hE.trans hS.hE, hS.lA, hS.lE, hS.ne1, hS.ne2, hS.ne3⟩, hF, hEn⟩, (cell_of_heap hb 2).trans h.c2, h.map.heap hm, h.part, h.ne1, h.ne2, h.ne3⟩
theorem SideAt.kept {w w' : World} {b gA gE mB n : Nat} {r e : Nat → Nat} {M : Nat → Option Sp} (h : SideAt w b gA gE mB n r e M) {S : List Nat} (hk : Kept w w' S) (hb : b ∉ S) (hA : gA ∉ S) (hE : gE ∉ S) (hm : mB ∉ S) : SideAt w' b gA gE mB n r e M := by
  obtain ⟨ah, en, hS, _, _⟩ := h.ex
  exact h.heap (hk.block b (cell_lt hS.c0) hb) (hk.block gA (heap_lt hS.hA) hA) (hk.block gE (heap_lt hS.hE) hE) (hk.block mB h.map.lt hm)
end Go.Proofs.YtcbiaeeifclieaaGreatDoor
/- The finest map: what taking a span does to a side, as mathematics. No program in this text. -/
namespace Go.Proofs.YtcbiaeeifclieaaGreatDoor

/-- Two sets of a side lie apart. -/
theorem Part.apart {n : Nat} {r e : Nat → Nat} (h : Part n r e) {u v : Nat} (hu : r u = u) (hv : r v = v) (huv : u < v) (hvn : v < n) : e u ≤ v := by
  rcases Nat.lt_or_ge v (e u) with hlt | hge
  · have := h.same u v (by omega) (by rw [hu]; omega) (by rw [hu]; exact hlt)
    rw [hv, hu] at this
    omega
  · exact hge
/-- A side as mathematics: the first place of each place's set, where a set ends, what belongs to it. -/
structure Sd where
  r : Nat → Nat
  e : Nat → Nat
  M : Nat → Option Sp
/-- A side of n places, m on the other side. -/
structure Ok (n m : Nat) (S : Sd) : Prop where
  part : Part n S.r S.e
  doms : Doms n S.r S.M
  val : ∀ k s, S.M k = some s → ∃ a b : Nat, s = ((a : Int), (b : Int)) ∧ a < b ∧ b ≤ m
def takeS (S : Sd) (p E : Nat) (y : Sp) : Sd := ⟨cutR S.r p E, cutE S.e p E, putM (cutM S.M p E) p y⟩
/-- From p to E: whole sets. -/
structure Cut (n : Nat) (S : Sd) (p E : Nat) : Prop where
  lt : p < E
  le : E ≤ n
  root : S.r p = p
  sep : ∀ x, x < n → (x < p → S.e (S.r x) ≤ p) ∧ (E ≤ x → E ≤ S.r x) ∧ (p ≤ x → x < E → p ≤ S.r x ∧ S.e (S.r x) ≤ E)
theorem cut_of {n m : Nat} {S : Sd} (h : Ok n m S) {lo hi : Nat} (h1 : lo < hi) (h2 : hi ≤ n) : Cut n S (S.r lo) (S.e (S.r (hi - 1))) ∧ S.r lo ≤ lo ∧ hi ≤ S.e (S.r (hi - 1)) := by
  have hP := h.part
  have a1 := hP.le lo (by omega)
  have a2 := hP.root (show lo < n by omega)
  have a3 := hP.lt (hi - 1) (by omega)
  have a4 := hP.top (hi - 1) (by omega)
  have a5 := hP.root (show hi - 1 < n by omega)
  have a6 := hP.le (hi - 1) (by omega)
  refine ⟨⟨by omega, a4, a2, fun x hx => ⟨fun hxp => ?_, fun hEx => ?_, fun hpx hxE => ⟨?_, ?_⟩⟩⟩, a1, by omega⟩
  · have b1 := hP.le x hx
    exact hP.apart (hP.root hx) a2 (by omega) (by omega)
  · have b1 := hP.root hx
    have b2 := hP.lt x hx
    rcases Nat.lt_or_ge (S.r x) (S.e (S.r (hi - 1))) with hlt | hge
    · exfalso
      rcases Nat.lt_trichotomy (S.r x) (S.r (hi - 1)) with c | c | c
      · have := hP.apart b1 a5 c (by omega)
        omega
      · rw [c] at b2; omega
      · have := hP.apart a5 b1 c (by omega)
        omega
    · exact hge
  · have b1 := hP.root hx
    have b2 := hP.lt x hx
    rcases Nat.lt_or_ge (S.r x) (S.r lo) with hlt | hge
    · have := hP.apart b1 a2 hlt (by omega)
      omega
    · exact hge
  · have b1 := hP.root hx
    have b2 := hP.lt x hx
    have b3 := hP.le x hx
    rcases Nat.lt_trichotomy (S.r x) (S.r (hi - 1)) with c | c | c
    · have := hP.apart b1 a5 c (by omega)
      omega
    · rw [c]; exact Nat.le_refl _
    · have := hP.apart a5 b1 c (by omega)
      omega
section
variable {n m : Nat} {S : Sd} {p E : Nat}
theorem take_part (h : Ok n m S) (hc : Cut n S p E) : Part n (cutR S.r p E) (cutE S.e p E) := by
  have hP := h.part
  have hin : ∀ i, p ≤ i → i < E → cutR S.r p E i = p := fun i h1 h2 => if_pos ⟨h1, h2⟩
  have hout : ∀ i, ¬(p ≤ i ∧ i < E) → cutR S.r p E i = S.r i := fun i h1 => if_neg h1
  have hE : cutE S.e p E p = E := if_pos rfl
  have hne : ∀ i, i < n → ¬(p ≤ i ∧ i < E) → cutE S.e p E (S.r i) = S.e (S.r i) := fun i hi hno => if_neg (fun e9 => by
    have := hP.lt i hi
    have := hP.le i hi
    have := (hc.sep i hi).2.1
    have := hc.lt
    omega)
  refine ⟨fun i hi => ?_, fun i hi => ?_, fun i hi => ?_, fun i j hi h1 h2 => ?_⟩
  · by_cases hb : p ≤ i ∧ i < E
    · rw [hin i hb.1 hb.2]; exact hb.1
    · rw [hout i hb]; exact hP.le i hi
  · by_cases hb : p ≤ i ∧ i < E
    · rw [hin i hb.1 hb.2, hE]; exact hb.2
    · rw [hout i hb, hne i hi hb]; exact hP.lt i hi
  · by_cases hb : p ≤ i ∧ i < E
    · rw [hin i hb.1 hb.2, hE]; exact hc.le
    · rw [hout i hb, hne i hi hb]; exact hP.top i hi
  · by_cases hb : p ≤ i ∧ i < E
    · rw [hin i hb.1 hb.2] at h1 h2 ⊢
      rw [hE] at h2
      exact hin j h1 h2
    · rw [hout i hb] at h1 h2 ⊢
      rw [hne i hi hb] at h2
      have hs := hc.sep i hi
      rw [hout j (by omega)]
      exact hP.same i j hi h1 h2
theorem take_ok (h : Ok n m S) (hc : Cut n S p E) {a b : Nat} (hab : a < b) (hb : b ≤ m) : Ok n m (takeS S p E ((a : Int), (b : Int))) := by
  refine ⟨take_part h hc, ⟨fun k s hk => ?_, fun k s hk => ?_⟩, fun k s hk => ?_⟩
  all_goals
    simp only [takeS, putM] at hk
    split at hk
    · rename_i hkp
      injection hk with hk
      subst hk
      first
        | exact ⟨by rw [hkp]; have := hc.lt; have := hc.le; omega, by rw [hkp]; exact cutR_root hc.lt⟩
        | (unfold rightB; simp; omega)
        | exact ⟨a, b, rfl, hab, hb⟩
    · rename_i hkp
      unfold cutM at hk
      split at hk
      · exact absurd hk (by simp)
      · first
          | exact ⟨(h.doms.dom k s hk).1, (if_neg (by omega)).trans (h.doms.dom k s hk).2⟩
          | exact h.doms.right k s hk
          | exact h.val k s hk
/-- What a side says of a set that is not touched. -/
theorem take_far (y : Sp) {k : Nat} (hk : k < p ∨ E ≤ k) (hpE : p < E) : (takeS S p E y).M k = S.M k ∧ (takeS S p E y).e k = S.e k := by
  constructor
  · show putM (cutM S.M p E) p y k = S.M k
    unfold putM cutM
    rw [if_neg (by omega), if_neg (by omega)]
  · show cutE S.e p E k = S.e k
    unfold cutE
    rw [if_neg (by omega)]
theorem take_at (y : Sp) : (takeS S p E y).M p = some y ∧ (takeS S p E y).e p = E := ⟨if_pos rfl, if_pos rfl⟩
theorem take_key (y : Sp) {k : Nat} {s : Sp} (hk : (takeS S p E y).M k = some s) : (k = p ∧ s = y) ∨ ((k < p ∨ E ≤ k) ∧ S.M k = some s) := by
  simp only [takeS, putM] at hk
  split at hk
  · rename_i e9
    injection hk with hk
    exact .inl ⟨e9, hk.symm⟩
  · rename_i e9
    unfold cutM at hk
    split at hk
    · exact absurd hk (by simp)
    · exact .inr ⟨by omega, hk⟩
/-- The hull of what belongs to some places: it holds all of it, and no more than what lies between. -/
theorem hul_nat (hv : ∀ k s, S.M k = some s → ∃ a b : Nat, s = ((a : Int), (b : Int)) ∧ a < b ∧ b ≤ m) {a b : Nat} (hab : a < b) (hb : b ≤ m) (p : Nat) : ∀ j, ∃ c d : Nat, hulT ((a : Int), (b : Int)) S.M p j = ((c : Int), (d : Int)) ∧ c ≤ a ∧ b ≤ d ∧ d ≤ m ∧
      (∀ k x z : Nat, p ≤ k → k < p + j → S.M k = some ((x : Int), (z : Int)) → c ≤ x ∧ z ≤ d) ∧
      (∀ Q : Nat → Prop, (∀ i k j : Nat, i ≤ k → k ≤ j → Q i → Q j → Q k) → (∀ i, a ≤ i → i < b → Q i) → (∀ k x z : Nat, p ≤ k → k < p + j → S.M k = some ((x : Int), (z : Int)) → ∀ i, x ≤ i → i < z → Q i) → ∀ i, c ≤ i → i < d → Q i)
  | 0 => ⟨a, b, rfl, Nat.le_refl _, Nat.le_refl _, hb, fun _ _ _ h1 h2 => by omega, fun _ _ h _ => h⟩
  | j + 1 => by
    obtain ⟨c, d, e1, e2, e3, e4, e5, e6⟩ := hul_nat hv hab hb p j
    rcases hM : S.M (p + j) with _ | s
    · refine ⟨c, d, ?_, e2, e3, e4, fun k x z h1 h2 hk => ?_, fun Q hQ h1 h2 => e6 Q hQ h1 (fun k x z h3 h4 => h2 k x z h3 (by omega))⟩
      · show hulO (hulT _ _ p j) (S.M (p + j)) = _
        rw [hM]; exact e1
      · by_cases ek : k = p + j
        · rw [ek, hM] at hk; exact absurd hk (by simp)
        · exact e5 k x z h1 (by omega) hk
    · obtain ⟨x, z, rfl, hxz, hzm⟩ := hv _ _ hM
      refine ⟨min c x, max d z, ?_, by omega, by omega, by omega, fun k x' z' h1 h2 hk => ?_, fun Q hQ h1 h2 => ?_⟩
      · show hulO (hulT _ _ p j) (S.M (p + j)) = _
        rw [hM, e1]
        show hullMore _ _ = _
        unfold hullMore
        simp only [Prod.mk.injEq]
        constructor
        · split <;> omega
        · split <;> omega
      · by_cases ek : k = p + j
        · rw [ek, hM] at hk
          injection hk with hk
          injection hk with hk1 hk2
          omega
        · have := e5 k x' z' h1 (by omega) hk
          omega
      · have h3 := e6 Q hQ h1 (fun k x z h3 h4 => h2 k x z h3 (by omega))
        have h4 := h2 (p + j) x z (by omega) (by omega) hM
        intro i hi1 hi2
        have q1 : Q (min c x) := by
          rcases Nat.le_total c x with h9 | h9
          · rw [Nat.min_eq_left h9]; exact h3 c (Nat.le_refl _) (by omega)
          · rw [Nat.min_eq_right h9]; exact h4 x (Nat.le_refl _) (by omega)
        have q2 : Q (max d z - 1) := by
          rcases Nat.le_total d z with h9 | h9
          · rw [Nat.max_eq_right h9]; exact h4 (z - 1) (by omega) (by omega)
          · rw [Nat.max_eq_left h9]; exact h3 (d - 1) (by omega) (by omega)
        exact hQ _ i _ hi1 (by omega) q1 q2
end
end Go.Proofs.YtcbiaeeifclieaaGreatDoor
/- The finest map: what holds while a link goes to and fro. No program in this text. -/
namespace Go.Proofs.YtcbiaeeifclieaaGreatDoor

/-- Two linked sets that tell the same of each other. -/
def Matched (A B : Sd) (k : Nat) : Prop := ∃ c : Nat, A.M k = some ((c : Int), (B.e c : Int)) ∧ B.M c = some ((k : Int), (A.e k : Int))
/-- Both sides tell the same of each other. -/
structure Both (n m : Nat) (A B : Sd) : Prop where
  okA : Ok n m A
  okB : Ok m n B
  ab : ∀ k s, A.M k = some s → Matched A B k
  ba : ∀ k s, B.M k = some s → Matched B A k
theorem Both.turn {n m : Nat} {A B : Sd} (h : Both n m A B) : Both m n B A := ⟨h.okB, h.okA, h.ba, h.ab⟩
/-- What holds at each turn: the near side's set at p, to which y to z belongs. -/
structure Fro (n m : Nat) (N F : Sd) (p y z : Nat) : Prop where
  okN : Ok n m N
  okF : Ok m n F
  at_ : N.M p = some ((y : Int), (z : Int))
  near : ∀ k s, N.M k = some s → k ≠ p → Matched N F k
  far : ∀ k s, F.M k = some s → (y ≤ k ∧ F.e k ≤ z ∧ ∃ c d : Nat, s = ((c : Int), (d : Int)) ∧ p ≤ c ∧ d ≤ N.e p) ∨ (Matched F N k ∧ s.1 ≠ (p : Int))
/-- What is taken: p to E, and c to d on the other side, for a to b there. -/
structure Took (n m : Nat) (S : Sd) (p E a b c d : Nat) : Prop where
  cut : Cut n S p E
  lo : c ≤ a
  hi : b ≤ d
  top : d ≤ m
  holds : ∀ k x z : Nat, p ≤ k → k < E → S.M k = some ((x : Int), (z : Int)) → c ≤ x ∧ z ≤ d
  only : ∀ Q : Nat → Prop, (∀ i k j : Nat, i ≤ k → k ≤ j → Q i → Q j → Q k) → (∀ i, a ≤ i → i < b → Q i) → (∀ k x z : Nat, p ≤ k → k < E → S.M k = some ((x : Int), (z : Int)) → ∀ i, x ≤ i → i < z → Q i) → ∀ i, c ≤ i → i < d → Q i
theorem took {n m : Nat} {S : Sd} (h : Ok n m S) {lo hi a b : Nat} (h1 : lo < hi) (h2 : hi ≤ n) (h3 : a < b) (h4 : b ≤ m) : ∃ c d : Nat, hulT ((a : Int), (b : Int)) S.M (S.r lo) (S.e (S.r (hi - 1)) - S.r lo) = ((c : Int), (d : Int)) ∧ Took n m S (S.r lo) (S.e (S.r (hi - 1))) a b c d ∧ S.r lo ≤ lo ∧ hi ≤ S.e (S.r (hi - 1)) := by
  obtain ⟨hc, hl, hh⟩ := cut_of h h1 h2
  obtain ⟨c, d, e1, e2, e3, e4, e5, e6⟩ := hul_nat h.val h3 h4 (S.r lo) (S.e (S.r (hi - 1)) - S.r lo)
  have := hc.lt
  rw [show S.r lo + (S.e (S.r (hi - 1)) - S.r lo) = S.e (S.r (hi - 1)) by omega] at e5 e6
  exact ⟨c, d, e1, ⟨hc, e2, e3, e4, e5, e6⟩, hl, hh⟩
section
variable {n m : Nat} {N F : Sd} {p E a b c d : Nat}
theorem matched_key (hF : Ok m n F) {x : Nat} {s : Sp} (hk : F.M x = some s) : F.r x = x ∧ x < m ∧ x < F.e x := by
  have h1 := hF.doms.dom _ _ hk
  have h2 := hF.part.lt x h1.1
  rw [h1.2] at h2
  exact ⟨h1.2, h1.1, h2⟩
theorem Both.start (h : Both n m N F) (hab : a < b) (ht : Took n m N p E a b c d) : Fro n m (takeS N p E ((c : Int), (d : Int))) F p c d := by
  have l1 := ht.lo
  have l2 := ht.hi
  have hpE := ht.cut.lt
  refine ⟨take_ok h.okA ht.cut (by omega) ht.top, h.okB, (take_at _).1, fun k s hk hkp => ?_, fun k s hk => ?_⟩
  · rcases take_key _ hk with ⟨e9, _⟩ | ⟨hfar, hold⟩
    · exact absurd e9 hkp
    · obtain ⟨x, m1, m2⟩ := h.ab k s hold
      have hf := take_far (S := N) ((c : Int), (d : Int)) hfar hpE
      exact ⟨x, hf.1.trans m1, m2.trans (by rw [hf.2])⟩
  · obtain ⟨x, m1, m2⟩ := h.ba k s hk
    obtain ⟨k1, k2, k3⟩ := matched_key h.okA m2
    by_cases hin : p ≤ x ∧ x < E
    · have h5 := ht.holds x k (F.e k) hin.1 hin.2 m2
      have h6 := ((ht.cut.sep x k2).2.2 hin.1 hin.2).2
      rw [k1] at h6
      refine .inl ⟨h5.1, h5.2, x, N.e x, ?_, hin.1, ?_⟩
      · rw [hk] at m1; injection m1
      · rw [(take_at _).2]; exact h6
    · have hf := take_far (S := N) (k := x) ((c : Int), (d : Int)) (by omega) hpE
      refine .inr ⟨⟨x, by rw [hf.2]; exact m1, hf.1.trans m2⟩, ?_⟩
      rw [hk] at m1
      injection m1 with m1
      rw [m1]
      show (x : Int) ≠ (p : Int)
      omega
/-- One more turn. -/
theorem Fro.turn {y z P E' : Nat} (h : Fro n m N F p y z) (hP : P ≤ y) (hE : z ≤ E') (ht : Took m n F P E' p (N.e p) c d) : Fro m n (takeS F P E' ((c : Int), (d : Int))) N P c d := by
  obtain ⟨q1, q2, q3⟩ := matched_key h.okN h.at_
  have l1 := ht.lo
  have l2 := ht.hi
  have hPE := ht.cut.lt
  refine ⟨take_ok h.okF ht.cut (by omega) ht.top, h.okN, (take_at _).1, fun k s hk hkp => ?_, fun k s hk => ?_⟩
  · rcases take_key _ hk with ⟨e9, _⟩ | ⟨hfar, hold⟩
    · exact absurd e9 hkp
    · obtain ⟨k1, k2, k3⟩ := matched_key h.okF hold
      rcases h.far k s hold with ⟨f1, f2, _⟩ | ⟨⟨x, m1, m2⟩, _⟩
      · exfalso; omega
      · have hf := take_far (S := F) ((c : Int), (d : Int)) hfar hPE
        exact ⟨x, hf.1.trans m1, m2.trans (by rw [hf.2])⟩
  · by_cases hkp : k = p
    · subst hkp
      rw [h.at_] at hk
      injection hk with hk
      exact .inl ⟨l1, l2, y, z, hk.symm, hP, by rw [(take_at _).2]; exact hE⟩
    · obtain ⟨x, m1, m2⟩ := h.near k s hk hkp
      obtain ⟨k1, k2, k3⟩ := matched_key h.okF m2
      by_cases hin : P ≤ x ∧ x < E'
      · have h5 := ht.holds x k (N.e k) hin.1 hin.2 m2
        have h6 := ((ht.cut.sep x k2).2.2 hin.1 hin.2).2
        rw [k1] at h6
        refine .inl ⟨h5.1, h5.2, x, F.e x, ?_, hin.1, ?_⟩
        · rw [hk] at m1; injection m1
        · rw [(take_at _).2]; exact h6
      · have hf := take_far (S := F) (k := x) ((c : Int), (d : Int)) (by omega) hPE
        refine .inr ⟨⟨x, by rw [hf.2]; exact m1, hf.1.trans m2⟩, ?_⟩
        rw [hk] at m1
        injection m1 with m1
        rw [m1]
        show (x : Int) ≠ (P : Int)
        omega
/-- The last turn: both sides tell the same of each other. -/
theorem Fro.done {y z : Nat} (h : Fro n m N F p y z) (ht : Took m n F y z p (N.e p) p (N.e p)) : Both n m N (takeS F y z ((p : Int), (N.e p : Int))) := by
  have h' := h.turn (Nat.le_refl _) (Nat.le_refl _) ht
  obtain ⟨q1, q2, q3⟩ := matched_key h.okN h.at_
  have hA := take_at (S := F) (p := y) (E := z) ((p : Int), (N.e p : Int))
  have hyy : Matched (takeS F y z ((p : Int), (N.e p : Int))) N y := ⟨p, hA.1, by rw [hA.2]; exact h.at_⟩
  have hpp : Matched N (takeS F y z ((p : Int), (N.e p : Int))) p := ⟨y, by rw [hA.2]; exact h.at_, hA.1⟩
  refine ⟨h.okN, h'.okN, fun k s hk => ?_, fun k s hk => ?_⟩
  · by_cases hkp : k = p
    · rw [hkp]; exact hpp
    · obtain ⟨k1, k2, k3⟩ := matched_key h.okN hk
      rcases h'.far k s hk with ⟨f1, f2, _⟩ | ⟨hm, _⟩
      · exfalso
        have h9 := h.okN.part.same p k q2 (by rw [q1]; exact f1) (by rw [q1]; omega)
        rw [k1, q1] at h9
        exact hkp h9
      · exact hm
  · by_cases hkp : k = y
    · rw [hkp]; exact hyy
    · exact h'.near k s hk hkp
end
/-- A link of its own, no filler; where its span begins on a side. -/
def NC.real (x : NC) : Prop := x.a < x.b ∧ x.c < x.d
def NC.st (x : NC) (s : Bool) : Nat := if s = true then x.c else x.a
/-- All that a side has together is together; a linked set begins where a link begins, and so does what belongs to it; what is not linked is alone. -/
structure Sound (L : List NC) (s : Bool) (n : Nat) (A : Sd) : Prop where
  set : ∀ i, i < n → Tog L (s, i) (s, A.r i)
  bey : ∀ k a b : Nat, A.M k = some ((a : Int), (b : Int)) → ∀ j, a ≤ j → j < b → Tog L (s, k) (!s, j)
  keys : ∀ k a b : Nat, A.M k = some ((a : Int), (b : Int)) → (∃ x ∈ L, x.real ∧ x.st s = k) ∧ ∃ x ∈ L, x.real ∧ x.st (!s) = a
  lone : ∀ i, i < n → A.M (A.r i) = none → A.r i = i
/-- What is taken begins where something of it begins. -/
theorem Took.begins {n m : Nat} {S : Sd} {p E a b c d : Nat} (ht : Took n m S p E a b c d) (hab : a < b) (hv : ∀ k s, S.M k = some s → ∃ a b : Nat, s = ((a : Int), (b : Int)) ∧ a < b ∧ b ≤ m) : c = a ∨ ∃ k z : Nat, S.M k = some ((c : Int), (z : Int)) := by
  by_cases h1 : c = a
  · exact .inl h1
  · by_cases h2 : ∃ k z : Nat, S.M k = some ((c : Int), (z : Int))
    · exact .inr h2
    · exfalso
      have l1 := ht.lo
      have l2 := ht.hi
      have h3 := ht.only (fun i => c < i) (fun i k j g1 g2 g3 g4 => by omega) (fun i g1 g2 => by omega) (fun k x z g1 g2 g3 i g4 g5 => by
        have h4 := (ht.holds k x z g1 g2 g3).1
        rcases Nat.lt_or_ge c x with h5 | h5
        · omega
        · exact absurd ⟨k, z, by rw [g3, show x = c by omega]⟩ h2) c (Nat.le_refl _) (by omega)
      omega
theorem take_sound {L : List NC} {s : Bool} {n m : Nat} {S : Sd} {lo hi a b c d : Nat} (h : Ok n m S) (hs : Sound L s n S) (h1 : lo < hi) (h2 : hi ≤ n) (ht : Took n m S (S.r lo) (S.e (S.r (hi - 1))) a b c d)
    (hl : ∀ i, lo ≤ i → i < hi → Tog L (s, lo) (s, i)) (ho : ∀ j, a ≤ j → j < b → Tog L (s, lo) (!s, j)) (hab : a < b) (hk1 : ∃ x ∈ L, x.real ∧ x.st s = lo) (hk2 : ∃ x ∈ L, x.real ∧ x.st (!s) = a) : Sound L s n (takeS S (S.r lo) (S.e (S.r (hi - 1))) ((c : Int), (d : Int))) := by
  have hlp := hs.set lo (by omega)
  have hall : ∀ i, S.r lo ≤ i → i < S.e (S.r (hi - 1)) → Tog L (s, i) (s, S.r lo) := fun i h3 h4 => by
    by_cases c1 : i < lo
    · have h5 := h.part.same lo i (by omega) h3 (by have := h.part.lt lo (by omega); omega)
      have h6 := hs.set i (by omega)
      rwa [h5] at h6
    · by_cases c2 : i < hi
      · exact .trans _ _ _ (.symm _ _ (hl i (by omega) c2)) hlp
      · have h5 := h.part.same (hi - 1) i (by omega) (by have := h.part.le (hi - 1) (by omega); omega) h4
        have h6 := hs.set i (by have := h.part.top (hi - 1) (by omega); omega)
        rw [h5] at h6
        exact .trans _ _ _ h6 (.trans _ _ _ (.symm _ _ (hs.set (hi - 1) (by omega))) (.trans _ _ _ (.symm _ _ (hl (hi - 1) (by omega) (by omega))) hlp))
  refine ⟨fun i hi' => ?_, fun k x z hk j hj1 hj2 => ?_, fun k x z hk => ?_, fun i hi' hn => ?_⟩
  · show Tog L (s, i) (s, cutR S.r (S.r lo) (S.e (S.r (hi - 1))) i)
    unfold cutR
    split
    · rename_i hc
      exact hall i hc.1 hc.2
    · exact hs.set i hi'
  · rcases take_key _ hk with ⟨rfl, e9⟩ | ⟨_, hold⟩
    · injection e9 with e1 e2
      refine ht.only (fun j => Tog L (s, S.r lo) (!s, j)) (fun i k j g1 g2 g3 g4 => ?_) (fun i g1 g2 => ?_) (fun k x' z' g1 g2 g3 i g4 g5 => ?_) j (by omega) (by omega)
      · exact .trans _ _ _ g3 (.between (!s) i k j g1 g2 (.trans _ _ _ (.symm _ _ g3) g4))
      · exact .trans _ _ _ (.symm _ _ hlp) (ho i g1 g2)
      · exact .trans _ _ _ (.symm _ _ (hall k g1 g2)) (hs.bey k x' z' g3 i g4 g5)
    · exact hs.bey k x z hold j hj1 hj2
  · rcases take_key _ hk with ⟨rfl, e9⟩ | ⟨_, hold⟩
    · injection e9 with e1 e2
      have hxc : x = c := by omega
      subst hxc
      constructor
      · rcases hM : S.M (S.r lo) with _ | v
        · rw [hs.lone lo (by omega) hM]; exact hk1
        · obtain ⟨y, z', rfl, _, _⟩ := h.val _ _ hM
          exact (hs.keys _ _ _ hM).1
      · rcases ht.begins hab h.val with e | ⟨k, z', hk⟩
        · rw [e]; exact hk2
        · exact (hs.keys _ _ _ hk).2
    · exact hs.keys k x z hold
  · have hcut := ht.cut
    have h9 : (takeS S (S.r lo) (S.e (S.r (hi - 1))) ((c : Int), (d : Int))).r i = cutR S.r (S.r lo) (S.e (S.r (hi - 1))) i := rfl
    rw [h9] at hn ⊢
    by_cases hc : S.r lo ≤ i ∧ i < S.e (S.r (hi - 1))
    · rw [show cutR S.r (S.r lo) (S.e (S.r (hi - 1))) i = S.r lo from if_pos hc, (take_at _).1] at hn
      exact absurd hn (by simp)
    · rw [show cutR S.r (S.r lo) (S.e (S.r (hi - 1))) i = S.r i from if_neg hc] at hn ⊢
      have hs' := hcut.sep i hi'
      have hle := h.part.le i hi'
      rw [(take_far _ (by omega) hcut.lt).1] at hn
      exact hs.lone i hi' hn
/-- What a turn asks of the near side: its set and what belongs to it are together. -/
theorem sound_set {L : List NC} {s : Bool} {n m : Nat} {N : Sd} {p y z : Nat} (h : Ok n m N) (hs : Sound L s n N) (ha : N.M p = some ((y : Int), (z : Int))) : (∀ i, y ≤ i → i < z → Tog L (!s, y) (!s, i)) ∧ ∀ j, p ≤ j → j < N.e p → Tog L (!s, y) (s, j) := by
  obtain ⟨q1, q2, q3⟩ := matched_key h ha
  obtain ⟨a, b, e1, e2, e3⟩ := h.val _ _ ha
  injection e1 with e4 e5
  have hy := hs.bey p y z ha y (Nat.le_refl _) (by omega)
  refine ⟨fun i h1 h2 => .trans _ _ _ (.symm _ _ hy) (hs.bey p y z ha i h1 h2), fun j h1 h2 => ?_⟩
  have htop := h.part.top p q2
  rw [q1] at htop
  have h5 := h.part.same p j q2 (by rw [q1]; exact h1) (by rw [q1]; exact h2)
  have h6 := hs.set j (by omega)
  rw [h5, q1] at h6
  exact .trans _ _ _ (.symm _ _ hy) (.symm _ _ h6)
/-- A link's spans lie in one set and in what belongs to it. -/
def Lies (A : Sd) (a b c d : Nat) : Prop := ∃ k y z : Nat, A.M k = some ((y : Int), (z : Int)) ∧ k ≤ a ∧ b ≤ A.e k ∧ y ≤ c ∧ d ≤ z
theorem take_lies {n m : Nat} {S : Sd} {p E a b c d a' b' c' d' : Nat} (h : Ok n m S) (ht : Took n m S p E a b c d) (hl : Lies S a' b' c' d') : Lies (takeS S p E ((c : Int), (d : Int))) a' b' c' d' := by
  obtain ⟨k, y, z, h1, h2, h3, h4, h5⟩ := hl
  obtain ⟨k1, k2, k3⟩ := matched_key h h1
  by_cases hin : p ≤ k ∧ k < E
  · have h6 := ht.holds k y z hin.1 hin.2 h1
    have h7 := ((ht.cut.sep k k2).2.2 hin.1 hin.2).2
    rw [k1] at h7
    refine ⟨p, c, d, (take_at _).1, by omega, ?_, by omega, by omega⟩
    rw [(take_at _).2]; omega
  · have hf := take_far (S := S) (k := k) ((c : Int), (d : Int)) (by omega) ht.cut.lt
    exact ⟨k, y, z, hf.1.trans h1, h2, by rw [hf.2]; exact h3, h4, h5⟩
theorem took_lies {n m : Nat} {S : Sd} {p E a b c d lo hi : Nat} (ht : Took n m S p E a b c d) (h1 : p ≤ lo) (h2 : hi ≤ E) : Lies (takeS S p E ((c : Int), (d : Int))) lo hi a b :=
  ⟨p, c, d, (take_at _).1, h1, by rw [(take_at _).2]; exact h2, ht.lo, ht.hi⟩
end Go.Proofs.YtcbiaeeifclieaaGreatDoor
/- The finest map: the clusters that a side tells are the finest ones. No program in this text. -/
namespace Go.Proofs.YtcbiaeeifclieaaGreatDoor

/-- The clusters of the first j places: those that are done, and the last one. -/
def clusAt (M : Nat → Option Sp) : Nat → List NC × Option NC
  | 0 => ([], none)
  | j + 1 => match M j with
    | some s => ((clusAt M j).1 ++ (clusAt M j).2.toList, some ⟨if (clusAt M j).2 = none then 0 else j, j + 1, s.1.toNat, s.2.toNat⟩)
    | none => ((clusAt M j).1, (clusAt M j).2.map fun x => { x with b := j + 1 })
def clusL (M : Nat → Option Sp) (n : Nat) : List NC := (clusAt M n).1 ++ (clusAt M n).2.toList
/-- A cluster and the place that it is known by. -/
def KeyOf (M : Nat → Option Sp) (y : NC) (k : Nat) : Prop := M k = some ((y.c : Int), (y.d : Int)) ∧ y.a ≤ k ∧ k < y.b ∧ (∀ i, y.a ≤ i → i < y.b → i ≠ k → M i = none) ∧ (y.a < k → y.a = 0)
theorem Tiles.snoc : ∀ {l : List NC} {s n : Nat} {x : NC}, Tiles s l n → x.a = n → x.a < x.b → Tiles s (l ++ [x]) x.b
  | [], s, n, x, h, h1, h2 => ⟨h1.trans (show s = n from h).symm, h2, rfl⟩
  | y :: l, s, n, x, ⟨e1, e2, e3⟩, h1, h2 => ⟨e1, e2, Tiles.snoc e3 h1 h2⟩
theorem Tiles.last : ∀ {l : List NC} {s n : Nat} {x : NC}, Tiles s (l ++ [x]) n → x.b = n ∧ Tiles s l x.a ∧ x.a < x.b
  | [], s, n, x, h => by
    obtain ⟨h1, h2, h3⟩ := h
    exact ⟨h3, h1.symm, h2⟩
  | y :: l, s, n, x, h => by
    obtain ⟨h1, h2, h3⟩ := h
    obtain ⟨a1, a2, a3⟩ := Tiles.last h3
    exact ⟨a1, ⟨h1, h2, a2⟩, a3⟩
theorem Tiles.cover : ∀ {l : List NC} {s n : Nat}, Tiles s l n → ∀ i, s ≤ i → i < n → ∃ x ∈ l, x.a ≤ i ∧ i < x.b
  | [], s, n, h, i, h1, h2 => by have : s = n := h; omega
  | x :: l, s, n, ⟨e1, e2, e3⟩, i, h1, h2 => by
    by_cases c : i < x.b
    · exact ⟨x, List.mem_cons_self .., by omega, c⟩
    · obtain ⟨y, hy, h3⟩ := Tiles.cover e3 i (by omega) h2
      exact ⟨y, List.mem_cons_of_mem _ hy, h3⟩
theorem Tiles.one : ∀ {l : List NC} {s n : Nat}, Tiles s l n → ∀ x ∈ l, ∀ y ∈ l, ∀ i, x.a ≤ i → i < x.b → y.a ≤ i → i < y.b → x = y
  | z :: l, s, n, ⟨e1, e2, e3⟩, x, hx, y, hy, i, h1, h2, h3, h4 => by
    rcases List.mem_cons.1 hx with ex | hx1
    · rcases List.mem_cons.1 hy with ey | hy1
      · rw [ex, ey]
      · have := Tiles.from_ e3 y hy1; rw [ex] at h1 h2; omega
    · rcases List.mem_cons.1 hy with ey | hy1
      · have := Tiles.from_ e3 x hx1; rw [ey] at h3 h4; omega
      · exact Tiles.one e3 x hx1 y hy1 i h1 h2 h3 h4
theorem clus_inv {M : Nat → Option Sp} {m : Nat} (hv : ∀ k s, M k = some s → ∃ a b : Nat, s = ((a : Int), (b : Int)) ∧ a < b ∧ b ≤ m) : ∀ j, ((clusAt M j).2 = none → (clusAt M j).1 = [] ∧ ∀ i, i < j → M i = none) ∧
    ∀ x, (clusAt M j).2 = some x → Tiles 0 ((clusAt M j).1 ++ [x]) j ∧ ∀ y ∈ (clusAt M j).1 ++ [x], ∃ k, KeyOf M y k
  | 0 => ⟨fun _ => ⟨rfl, fun i hi => by omega⟩, fun x hx => by simp [clusAt] at hx⟩
  | j + 1 => by
    obtain ⟨h1, h2⟩ := clus_inv hv j
    rcases hM : M j with _ | s
    · have e : clusAt M (j + 1) = ((clusAt M j).1, (clusAt M j).2.map fun x => { x with b := j + 1 }) := by rw [clusAt, hM]
      rw [e]
      constructor
      · intro hn
        have hn' : (clusAt M j).2 = none := by simpa using hn
        obtain ⟨h3, h4⟩ := h1 hn'
        refine ⟨h3, fun i hi => ?_⟩
        by_cases c : i = j
        · rw [c]; exact hM
        · exact h4 i (by omega)
      · intro x hx
        obtain ⟨z, hz, rfl⟩ : ∃ z, (clusAt M j).2 = some z ∧ { z with b := j + 1 } = x := by simpa using hx
        obtain ⟨h3, h4⟩ := h2 z hz
        obtain ⟨a1, a2, a3⟩ := Tiles.last h3
        refine ⟨Tiles.snoc (x := { z with b := j + 1 }) a2 rfl (show z.a < j + 1 by omega), fun y hy => ?_⟩
        rcases List.mem_append.1 hy with hy | hy
        · exact h4 y (List.mem_append_left _ hy)
        · obtain rfl := List.mem_singleton.1 hy
          obtain ⟨k, k1, k2, k3, k4, k5⟩ := h4 z (by simp)
          refine ⟨k, k1, k2, show k < j + 1 by omega, fun i g1 g2 g3 => ?_, k5⟩
          by_cases c : i = j
          · rw [c]; exact hM
          · exact k4 i g1 (by have : i < j + 1 := g2; omega) g3
    · obtain ⟨a, b, rfl, hab, hb⟩ := hv _ _ hM
      have e : clusAt M (j + 1) = ((clusAt M j).1 ++ (clusAt M j).2.toList, some ⟨if (clusAt M j).2 = none then 0 else j, j + 1, a, b⟩) := by
        rw [clusAt, hM]; simp
      rw [e]
      refine ⟨fun hn => absurd hn (by simp), fun x hx => ?_⟩
      injection hx with hx
      subst hx
      rcases ho : (clusAt M j).2 with _ | z
      · obtain ⟨h3, h4⟩ := h1 ho
        simp only [h3, Option.toList, List.nil_append, if_true]
        refine ⟨⟨rfl, by simp, rfl⟩, fun y hy => ?_⟩
        obtain rfl := List.mem_singleton.1 hy
        exact ⟨j, hM, Nat.zero_le _, Nat.lt_succ_self j, fun i g1 g2 g3 => h4 i (by have : i < j + 1 := g2; omega), fun _ => rfl⟩
      · obtain ⟨h3, h4⟩ := h2 z ho
        simp only [Option.toList, reduceCtorEq, if_false]
        refine ⟨Tiles.snoc (x := ⟨j, j + 1, a, b⟩) h3 rfl (Nat.lt_succ_self j), fun y hy => ?_⟩
        rcases List.mem_append.1 hy with hy | hy
        · exact h4 y hy
        · obtain rfl := List.mem_singleton.1 hy
          exact ⟨j, hM, Nat.le_refl _, Nat.lt_succ_self j, fun i g1 g2 g3 => by have : i < j + 1 := g2; have : j ≤ i := g1; omega, fun h => absurd h (Nat.lt_irrefl _)⟩
/-- Where the first of the links begins. -/
def FirstOf (L : List NC) (f : Nat) : Prop := (∃ y ∈ L, y.real ∧ y.a = f) ∧ ∀ y ∈ L, y.real → f ≤ y.a
theorem first_of {L : List NC} (h : ∃ y ∈ L, y.real) : ∃ f, FirstOf L f := by
  obtain ⟨y, hy, hr⟩ := h
  have key : ∀ a, ∀ y ∈ L, y.real → y.a = a → ∃ f, FirstOf L f := fun a => by
    induction a using Nat.strongRecOn with
    | _ a ih =>
      intro y hy hr e
      by_cases h : ∀ z ∈ L, z.real → a ≤ z.a
      · exact ⟨a, ⟨y, hy, hr, e⟩, h⟩
      · have h' : ∃ z ∈ L, z.real ∧ z.a < a := Classical.byContradiction fun h9 => h fun z hz hzr => by
          rcases Nat.lt_or_ge z.a a with h8 | h8
          · exact absurd ⟨z, hz, hzr, h8⟩ h9
          · exact h8
        obtain ⟨z, hz, hzr, hlt⟩ := h'
        exact ih z.a hlt z hz hzr rfl
  exact key _ y hy hr rfl
/-- The links, and what joins each place that no link has to the one ahead of it, and those ahead of all to the first. -/
structure Fills (n : Nat) (L : List NC) : Prop where
  each : ∀ x ∈ L, ¬ x.real → (∃ i, i < n ∧ 0 < i ∧ (∀ y ∈ L, y.real → ¬(y.a ≤ i ∧ i < y.b)) ∧ x = ⟨i - 1, i + 1, 0, 0⟩) ∨ ∃ f, f < n ∧ FirstOf L f ∧ x = ⟨0, f + 1, 0, 0⟩
  back : ∀ i, i < n → 0 < i → (∀ y ∈ L, y.real → ¬(y.a ≤ i ∧ i < y.b)) → (⟨i - 1, i + 1, 0, 0⟩ : NC) ∈ L
  on : ∀ f, FirstOf L f → 0 < f → (⟨0, f + 1, 0, 0⟩ : NC) ∈ L
theorem finest_of {L : List NC} {n m : Nat} {A B : Sd} (hb : Both n m A B) (hs : Sound L false n A) (hl : ∀ x ∈ L, x.real → Lies A x.a x.b x.c x.d) (hf : Fills n L) (hk : ∃ k s, A.M k = some s) : Finest L 0 n m (clusL A.M n) := by
  have hP := hb.okA.part
  obtain ⟨i1, i2⟩ := clus_inv hb.okA.val n
  -- there is a last cluster
  obtain ⟨z, hz⟩ : ∃ z, (clusAt A.M n).2 = some z := by
    rcases ho : (clusAt A.M n).2 with _ | z
    · exfalso
      obtain ⟨k, s, hks⟩ := hk
      have := (i1 ho).2 k (hb.okA.doms.dom _ _ hks).1
      rw [hks] at this
      exact absurd this (by simp)
    · exact ⟨z, rfl⟩
  obtain ⟨hT, hK⟩ := i2 z hz
  have hcl : clusL A.M n = (clusAt A.M n).1 ++ [z] := by unfold clusL; rw [hz]; rfl
  rw [← hcl] at hT hK
  generalize clusL A.M n = l at hT hK
  clear hcl i1 i2 hz hk
  have key_root : ∀ {k : Nat} {s : Sp}, A.M k = some s → A.r k = k ∧ k < n ∧ k < A.e k := fun h => matched_key hb.okA h
  -- a place that a real link has lies in a linked set
  have in_set : ∀ i, i < n → (∃ y ∈ L, y.real ∧ y.a ≤ i ∧ i < y.b) → ∃ k s, A.M k = some s ∧ A.r i = k := by
    rintro i hi ⟨y, hy, hr, h1, h2⟩
    obtain ⟨k, u, v, hk, h3, h4, _, _⟩ := hl y hy hr
    obtain ⟨r1, r2, r3⟩ := key_root hk
    exact ⟨k, _, hk, (hP.same k i r2 (by rw [r1]; omega) (by rw [r1]; omega)).trans r1⟩
  -- where a cluster does not begin at 0 it begins with its key
  have first : ∀ y ∈ l, 0 < y.a → ∃ s, A.M y.a = some s := fun y hy h0 => by
    obtain ⟨k, k1, k2, k3, k4, k5⟩ := hK y hy
    rcases Nat.lt_or_ge y.a k with h | h
    · have := k5 h; omega
    · exact ⟨_, (show y.a = k by omega) ▸ k1⟩
  -- a linked set lies in the cluster of its key
  have whole : ∀ y ∈ l, ∀ k, KeyOf A.M y k → A.e k ≤ y.b := fun y hy k ⟨k1, k2, k3, k4, k5⟩ => by
    obtain ⟨r1, r2, r3⟩ := key_root k1
    have htop := hP.top k r2
    rw [r1] at htop
    rcases Nat.lt_or_ge y.b (A.e k) with hlt | hge
    · exfalso
      obtain ⟨y2, hy2, g1, g2⟩ := hT.cover y.b (Nat.zero_le _) (by omega)
      have hya := hT.from_ y hy
      have h2a : y2.a = y.b := by
        rcases Nat.lt_or_ge y2.a y.b with h | h
        · have h9 : y2 = y := hT.one y2 hy2 y hy (y.b - 1) (by omega) (by omega) (by omega) (by omega)
          rw [h9] at g2
          exact absurd g2 (Nat.lt_irrefl _)
        · omega
      obtain ⟨s, hs2⟩ := first y2 hy2 (by omega)
      obtain ⟨r4, r5, r6⟩ := key_root hs2
      have := hP.apart r1 r4 (by omega) r5
      omega
    · exact hge
  have key_in : ∀ k s, A.M k = some s → ∃ y ∈ l, KeyOf A.M y k := fun k s hks => by
    obtain ⟨r1, r2, r3⟩ := key_root hks
    obtain ⟨y, hy, g1, g2⟩ := hT.cover k (Nat.zero_le _) r2
    obtain ⟨k', k1, k2, k3, k4, k5⟩ := hK y hy
    by_cases c : k = k'
    · rw [← c] at k1 k2 k3 k4 k5; exact ⟨y, hy, k1, k2, k3, k4, k5⟩
    · have := k4 k g1 g2 c
      rw [hks] at this
      exact absurd this (by simp)
  -- each place is together with the key of its cluster
  have tokey : ∀ y ∈ l, ∀ k, KeyOf A.M y k → ∀ i, y.a ≤ i → i < y.b → Tog L (false, i) (false, k) := fun y hy k hkey => by
    obtain ⟨k1, k2, k3, k4, k5⟩ := hkey
    have hya := hT.from_ y hy
    obtain ⟨r1, r2, r3⟩ := key_root k1
    have linked : ∀ i, y.a ≤ i → i < y.b → ∀ s, A.M (A.r i) = some s → A.r i = k := fun i g1 g2 s hsi => by
      have hin : i < n := by omega
      have hle := hP.le i hin
      have hlt := hP.lt i hin
      obtain ⟨q1, q2, q3⟩ := key_root hsi
      by_cases c : A.r i = k
      · exact c
      · exfalso
        rcases Nat.lt_or_ge (A.r i) y.a with h | h
        · obtain ⟨s', hs'⟩ := first y hy (by omega)
          obtain ⟨p1, p2, p3⟩ := key_root hs'
          have := hP.apart q1 p1 h p2
          omega
        · have := k4 (A.r i) h (by omega) c
          rw [hsi] at this
          exact absurd this (by simp)
    have alone : ∀ i, i < n → A.M (A.r i) = none → ∀ y ∈ L, y.real → ¬(y.a ≤ i ∧ i < y.b) := fun i hi hn x hx hr hh => by
      obtain ⟨k', s', h1, h2⟩ := in_set i hi ⟨x, hx, hr, hh.1, hh.2⟩
      rw [h2, h1] at hn
      exact absurd hn (by simp)
    have behind : ∀ j i, i = k + j → i < y.b → Tog L (false, i) (false, k) := fun j => by
      induction j with
      | zero => intro i e _; rw [e]; exact .refl _
      | succ j ih =>
        intro i e hi
        rcases hm : A.M (A.r i) with _ | s
        · have hbk := hf.back i (by omega) (by omega) (alone i (by omega) hm)
          refine .trans _ _ _ (.link _ (false, i) (false, i - 1) hbk ?_ ?_) (ih (i - 1) (by omega) (by omega))
          · show i - 1 ≤ i ∧ i < i + 1; omega
          · show i - 1 ≤ i - 1 ∧ i - 1 < i + 1; omega
        · have h9 := linked i (by omega) hi s hm
          have h8 := hs.set i (by omega)
          rwa [h9] at h8
    have ahead : ∀ j i, i + j = k → y.a ≤ i → Tog L (false, i) (false, k) := fun j => by
      induction j with
      | zero => intro i e _; rw [show i = k by omega]; exact .refl _
      | succ j ih =>
        intro i e hi
        rcases hm : A.M (A.r i) with _ | s
        · obtain ⟨x, hx, hr, hst⟩ := (hs.keys _ _ _ k1).1
          obtain ⟨f, hff⟩ := first_of ⟨x, hx, hr⟩
          have hif : i < f := by
            rcases Nat.lt_or_ge i f with h | h
            · exact h
            · exfalso
              obtain ⟨x', hx', hr', hst'⟩ := hff.1
              obtain ⟨k', u, v, hk', g1, _⟩ := hl x' hx' hr'
              have h0 := k5 (by omega)
              have := k4 k' (by omega) (by omega) (by omega)
              rw [hk'] at this
              exact absurd this (by simp)
          have hbk := hf.on f hff (by omega)
          refine .trans _ _ _ (.link _ (false, i) (false, i + 1) hbk ?_ ?_) (ih (i + 1) (by omega) (by omega))
          · show 0 ≤ i ∧ i < f + 1; omega
          · show 0 ≤ i + 1 ∧ i + 1 < f + 1; omega
        · have h9 := linked i hi (by omega) s hm
          have := hP.le i (by omega)
          omega
    intro i g1 g2
    rcases Nat.lt_or_ge i k with h | h
    · exact ahead (k - i) i (by omega) g1
    · exact behind (i - k) i (by omega) g2
  -- one cluster at most has a place
  have one : ∀ x ∈ l, ∀ y ∈ l, ∀ q : Pl, x.has q → y.has q → x = y := by
    rintro x hx y hy ⟨sd, j⟩ h1 h2
    cases sd with
    | false => exact hT.one x hx y hy j (show x.a ≤ j ∧ j < x.b from h1).1 (show x.a ≤ j ∧ j < x.b from h1).2 (show y.a ≤ j ∧ j < y.b from h2).1 (show y.a ≤ j ∧ j < y.b from h2).2
    | true =>
      have h1' : x.c ≤ j ∧ j < x.d := h1
      have h2' : y.c ≤ j ∧ j < y.d := h2
      obtain ⟨kx, a1, a2, a3, _⟩ := hK x hx
      obtain ⟨ky, b1, b2, b3, _⟩ := hK y hy
      obtain ⟨c, m1, m2⟩ := hb.ab _ _ a1
      obtain ⟨c', m3, m4⟩ := hb.ab _ _ b1
      rw [a1] at m1
      rw [b1] at m3
      injection m1 with m1
      injection m1 with e1 e2
      injection m3 with m3
      injection m3 with e3 e4
      obtain ⟨p1, p2, p3⟩ := matched_key hb.okB m2
      obtain ⟨p4, p5, p6⟩ := matched_key hb.okB m4
      rcases Nat.lt_trichotomy c c' with h | h | h
      · have := hb.okB.part.apart p1 p4 h p5; omega
      · subst h
        rw [m2] at m4
        injection m4 with m4
        injection m4 with e5 _
        exact hT.one x hx y hy kx a2 a3 (by omega) (by omega)
      · have := hb.okB.part.apart p4 p1 h p2; omega
  refine ⟨hT, fun x hx => ?_, fun i _ hi q hq => ⟨fun ht => ?_, ?_⟩⟩
  · obtain ⟨k, k1, _⟩ := hK x hx
    obtain ⟨a, b, e1, e2, e3⟩ := hb.okA.val _ _ k1
    injection e1 with e4 e5
    omega
  · obtain ⟨x0, hx0, g1, g2⟩ := hT.cover i (Nat.zero_le _) hi
    have hS := Tog.least (S := fun p q => p = q ∨ ∃ x ∈ l, x.has p ∧ x.has q) (fun p => .inl rfl) (fun p q h => ?_) (fun p q r h h' => ?_) (fun x hx p q hp hq => ?_) (fun s i k j h1 h2 h => ?_) ht
    · rcases hS with rfl | h
      · exact ⟨x0, hx0, ⟨g1, g2⟩, ⟨g1, g2⟩⟩
      · exact h
    · rcases h with h | ⟨x, h1, h2, h3⟩
      · exact .inl h.symm
      · exact .inr ⟨x, h1, h3, h2⟩
    · rcases h with rfl | ⟨x, h1, h2, h3⟩
      · exact h'
      · rcases h' with rfl | ⟨y, h4, h5, h6⟩
        · exact .inr ⟨x, h1, h2, h3⟩
        · obtain rfl := one x h1 y h4 q h3 h5
          exact .inr ⟨x, h1, h2, h6⟩
    · by_cases hr : x.real
      · obtain ⟨k, u, v, hk', f1, f2, f3, f4⟩ := hl x hx hr
        obtain ⟨y, hy, hkey⟩ := key_in _ _ hk'
        have hw := whole y hy k hkey
        obtain ⟨k1, k2, k3, _⟩ := hkey
        rw [k1] at hk'
        injection hk' with hk'
        injection hk' with e1 e2
        have hin : ∀ p : Pl, x.has p → y.has p := by
          rintro ⟨sd, j⟩ h
          cases sd with
          | false => have h' : x.a ≤ j ∧ j < x.b := h; show y.a ≤ j ∧ j < y.b; omega
          | true => have h' : x.c ≤ j ∧ j < x.d := h; show y.c ≤ j ∧ j < y.d; omega
        exact .inr ⟨y, hy, hin p hp, hin q hq⟩
      · rcases hf.each x hx hr with ⟨t, ht1, h0, ht2, rfl⟩ | ⟨t, ht1, ht2, rfl⟩
        · obtain ⟨y, hy, u1, u2⟩ := hT.cover t (Nat.zero_le _) ht1
          have hya : y.a ≤ t - 1 := by
            rcases Nat.lt_or_ge (t - 1) y.a with h | h
            · exfalso
              have e : y.a = t := by omega
              obtain ⟨s', hs'⟩ := first y hy (by omega)
              rw [e] at hs'
              obtain ⟨a, b, rfl, _, _⟩ := hb.okA.val _ _ hs'
              obtain ⟨x', hx', hr', hst⟩ := (hs.keys _ _ _ hs').1
              have h9 : x'.a = t := hst
              exact ht2 x' hx' hr' ⟨by omega, by have := hr'.1; omega⟩
            · exact h
          have hin : ∀ p : Pl, (⟨t - 1, t + 1, 0, 0⟩ : NC).has p → y.has p := by
            rintro ⟨sd, j⟩ h
            cases sd with
            | false => have h' : t - 1 ≤ j ∧ j < t + 1 := h; show y.a ≤ j ∧ j < y.b; omega
            | true => have h' : 0 ≤ j ∧ j < 0 := h; omega
          exact .inr ⟨y, hy, hin p hp, hin q hq⟩
        · obtain ⟨y, hy, u1, u2⟩ := hT.cover t (Nat.zero_le _) ht1
          have hya : y.a = 0 := by
            rcases Nat.eq_zero_or_pos y.a with h | h
            · exact h
            · exfalso
              obtain ⟨y0, hy0, w1, w2⟩ := hT.cover (y.a - 1) (Nat.zero_le _) (by omega)
              obtain ⟨k0, z1, z2, z3, _⟩ := hK y0 hy0
              obtain ⟨x', hx', hr', hst⟩ := (hs.keys _ _ _ z1).1
              have h9 : x'.a = k0 := hst
              have h8 := ht2.2 x' hx' hr'
              have : y0 = y := hT.one y0 hy0 y hy y.a (by omega) (by omega) (Nat.le_refl _) (by omega)
              rw [this] at w1
              omega
          have hin : ∀ p : Pl, (⟨0, t + 1, 0, 0⟩ : NC).has p → y.has p := by
            rintro ⟨sd, j⟩ h
            cases sd with
            | false => have h' : 0 ≤ j ∧ j < t + 1 := h; show y.a ≤ j ∧ j < y.b; omega
            | true => have h' : 0 ≤ j ∧ j < 0 := h; omega
          exact .inr ⟨y, hy, hin p hp, hin q hq⟩
    · rcases h with h | ⟨x, hx, h3, h4⟩
      · injection h with _ h
        subst h
        have : i = k := by omega
        subst this
        exact .inl rfl
      · refine .inr ⟨x, hx, h3, ?_⟩
        cases s with
        | false => have e3 : x.a ≤ i ∧ i < x.b := h3; have e4 : x.a ≤ j ∧ j < x.b := h4; show x.a ≤ k ∧ k < x.b; omega
        | true => have e3 : x.c ≤ i ∧ i < x.d := h3; have e4 : x.c ≤ j ∧ j < x.d := h4; show x.c ≤ k ∧ k < x.d; omega
  · rintro ⟨x, hx, h1, h2⟩
    obtain ⟨k, hkey⟩ := hK x hx
    have h1' : x.a ≤ i ∧ i < x.b := h1
    have t1 := tokey x hx k hkey i h1'.1 h1'.2
    obtain ⟨sd, j⟩ := q
    cases sd with
    | false =>
      have h2' : x.a ≤ j ∧ j < x.b := h2
      exact .trans _ _ _ t1 (.symm _ _ (tokey x hx k hkey j h2'.1 h2'.2))
    | true =>
      have h2' : x.c ≤ j ∧ j < x.d := h2
      exact .trans _ _ _ t1 (hs.bey k x.c x.d hkey.1 j h2'.1 h2'.2)
end Go.Proofs.YtcbiaeeifclieaaGreatDoor
/- The finest map: what fills the places that no link has; sides without links. No program in this text. -/
namespace Go.Proofs.YtcbiaeeifclieaaGreatDoor

open Classical in
/-- What joins a place that no link has to the one ahead of it. -/
noncomputable def fillAt (K : List NC) (i : Nat) : Option NC := if i = 0 ∨ ∃ y ∈ K, y.a ≤ i ∧ i < y.b then none else some ⟨i - 1, i + 1, 0, 0⟩
open Classical in
/-- What joins those ahead of all links to the first one. -/
noncomputable def fillAhead (K : List NC) : List NC := if h : ∃ f, FirstOf K f ∧ 0 < f then [⟨0, Classical.choose h + 1, 0, 0⟩] else []
noncomputable def fillsOf (n : Nat) (K : List NC) : List NC := (List.range n).filterMap (fillAt K) ++ fillAhead K
theorem FirstOf.only {L : List NC} {f g : Nat} (h : FirstOf L f) (k : FirstOf L g) : f = g := by
  obtain ⟨⟨y, hy, hr, e⟩, h2⟩ := h
  obtain ⟨⟨z, hz, hzr, e'⟩, k2⟩ := k
  have h3 := h2 z hz hzr
  have h4 := k2 y hy hr
  omega
theorem ahead_mem {K : List NC} {x : NC} (hx : x ∈ fillAhead K) : ∃ f, FirstOf K f ∧ x = ⟨0, f + 1, 0, 0⟩ := by
  unfold fillAhead at hx
  split at hx
  · rename_i h
    exact ⟨_, (Classical.choose_spec h).1, List.mem_singleton.1 hx⟩
  · exact absurd hx (by simp)
theorem fills_of {n m : Nat} {K : List NC} (hK : ∀ x ∈ K, x.real ∧ x.b ≤ n ∧ x.d ≤ m) : Fills n (K ++ fillsOf n K) ∧ ∀ x ∈ K ++ fillsOf n K, x.real → x ∈ K := by
  have hfill : ∀ x ∈ fillsOf n K, (∃ i, i < n ∧ 0 < i ∧ (∀ y ∈ K, ¬(y.a ≤ i ∧ i < y.b)) ∧ x = ⟨i - 1, i + 1, 0, 0⟩) ∨ ∃ f, FirstOf K f ∧ x = ⟨0, f + 1, 0, 0⟩ := fun x hx => by
    rcases List.mem_append.1 hx with hx | hx
    · obtain ⟨i, hi, hf⟩ := List.mem_filterMap.1 hx
      unfold fillAt at hf
      split at hf
      · exact absurd hf (by simp)
      · rename_i hno
        injection hf with hf
        exact .inl ⟨i, by simpa using hi, Nat.pos_of_ne_zero (fun h => hno (.inl h)), fun y hy hh => hno (.inr ⟨y, hy, hh⟩), hf.symm⟩
    · exact .inr (ahead_mem hx)
  have hreal : ∀ x ∈ K ++ fillsOf n K, x.real → x ∈ K := fun x hx hr => by
    rcases List.mem_append.1 hx with hx | hx
    · exact hx
    · exfalso
      rcases hfill x hx with ⟨i, _, _, _, rfl⟩ | ⟨f, _, rfl⟩
      · exact absurd hr.2 (Nat.lt_irrefl 0)
      · exact absurd hr.2 (Nat.lt_irrefl 0)
  have hfirst : ∀ f, FirstOf K f ↔ FirstOf (K ++ fillsOf n K) f := fun f => by
    constructor
    · rintro ⟨⟨y, hy, hr, e⟩, h2⟩
      exact ⟨⟨y, List.mem_append_left _ hy, hr, e⟩, fun z hz hzr => h2 z (hreal z hz hzr) hzr⟩
    · rintro ⟨⟨y, hy, hr, e⟩, h2⟩
      exact ⟨⟨y, hreal y hy hr, hr, e⟩, fun z hz hzr => h2 z (List.mem_append_left _ hz) hzr⟩
  refine ⟨⟨fun x hx hr => ?_, fun i hi h0 hno => ?_, fun f hf h0 => ?_⟩, hreal⟩
  · rcases List.mem_append.1 hx with hx | hx
    · exact absurd (hK x hx).1 hr
    · rcases hfill x hx with ⟨i, h1, h2, h3, h4⟩ | ⟨f, h1, h2⟩
      · exact .inl ⟨i, h1, h2, fun y hy hyr => h3 y (hreal y hy hyr), h4⟩
      · refine .inr ⟨f, ?_, (hfirst f).1 h1, h2⟩
        obtain ⟨⟨y, hy, hyr, e⟩, _⟩ := h1
        have h5 := (hK y hy).2.1
        have h6 := hyr.1
        omega
  · refine List.mem_append_right _ (List.mem_append_left _ (List.mem_filterMap.2 ⟨i, by simpa using hi, ?_⟩))
    unfold fillAt
    rw [if_neg]
    rintro (h | ⟨y, hy, h⟩)
    · omega
    · exact hno y (List.mem_append_left _ hy) (hK y hy).1 h
  · have hfk := (hfirst f).2 hf
    refine List.mem_append_right _ (List.mem_append_right _ ?_)
    unfold fillAhead
    have hex : ∃ f, FirstOf K f ∧ 0 < f := ⟨f, hfk, h0⟩
    rw [dif_pos hex]
    have e := (Classical.choose_spec hex).1.only hfk
    rw [e]
    exact List.mem_singleton_self _
/-- A side of which nothing is linked. -/
def sd0 : Sd := ⟨id, (· + 1), fun _ => none⟩
theorem ok0 (n m : Nat) : Ok n m sd0 := ⟨Part.start n, ⟨fun _ _ h => by simp [sd0] at h, fun _ _ h => by simp [sd0] at h⟩, fun _ _ h => by simp [sd0] at h⟩
theorem both0 (n m : Nat) : Both n m sd0 sd0 := ⟨ok0 n m, ok0 m n, fun _ _ h => by simp [sd0] at h, fun _ _ h => by simp [sd0] at h⟩
theorem sound0 (L : List NC) (s : Bool) (n : Nat) : Sound L s n sd0 := ⟨fun i _ => .refl _, fun _ _ _ h => by simp [sd0] at h, fun _ _ _ h => by simp [sd0] at h, fun _ _ _ => rfl⟩
/-- The finest map of the links. -/
theorem finest_end {K : List NC} {n m : Nat} {A B : Sd} (hK : ∀ x ∈ K, x.real ∧ x.b ≤ n ∧ x.d ≤ m) (hne : K ≠ []) (hb : Both n m A B) (hs : Sound (K ++ fillsOf n K) false n A) (hl : ∀ x ∈ K, Lies A x.a x.b x.c x.d) : Finest (K ++ fillsOf n K) 0 n m (clusL A.M n) := by
  obtain ⟨hf, hr⟩ := fills_of hK
  refine finest_of hb hs (fun x hx hxr => hl x (hr x hx hxr)) hf ?_
  obtain ⟨y, l, e⟩ := List.exists_cons_of_ne_nil hne
  obtain ⟨k, u, v, h, _⟩ := hl y (by rw [e]; exact List.mem_cons_self ..)
  exact ⟨k, _, h⟩
end Go.Proofs.YtcbiaeeifclieaaGreatDoor
/- cluster's sets: two made one, in the ways to the first place. No program in this text. -/
namespace Go.Proofs.YtcbiaeeifclieaaGreatDoor
open Go.RowKit

theorem uniR_by {n : Nat} {r e : Nat → Nat} (h : Part n r e) {p : Nat} (hp : r p = p) (hpn : p < n) (hq : e p < n) {i : Nat} (hi : i < n) : uniR r e p i = if r i = e p then p else r i := by
  have hqr := h.next hp hpn hq
  unfold uniR
  by_cases c : e p ≤ i ∧ i < e (e p)
  · have := h.same (e p) i hq (by rw [hqr]; exact c.1) (by rw [hqr]; exact c.2)
    rw [if_pos c, if_pos (this.trans hqr)]
  · rw [if_neg c, if_neg (fun e9 => c (by
      have h1 := h.le i hi
      have h2 := h.lt i hi
      rw [e9] at h1 h2
      exact ⟨h1, h2⟩))]
theorem Forest.unite {n : Nat} {ah : List Nat} {r e : Nat → Nat} (hF : Forest n ah r) (h : Part n r e) {p : Nat} (hp : r p = p) (hpn : p < n) (hq : e p < n) : Forest n (ah.set (e p) p) (uniR r e p) := by
  have hqr := h.next hp hpn hq
  have hlt := h.lt p hpn
  rw [hp] at hlt
  refine ⟨by rw [List.length_set]; exact hF.1, fun i a ha => ?_⟩
  have hin : i < n := by have := (List.getElem?_eq_some_iff.1 ha).1; rw [List.length_set, hF.1] at this; exact this
  by_cases c : i = e p
  · subst c
    rw [List.getElem?_set_self (by rw [hF.1]; exact hq)] at ha
    obtain rfl := Option.some.inj ha
    rw [uniR_by h hp hpn hq hq, uniR_by h hp hpn hq hpn, if_pos hqr, hp, if_neg (by omega)]
    exact ⟨by omega, rfl, by omega⟩
  · rw [List.getElem?_set_ne (fun e9 => c e9.symm)] at ha
    obtain ⟨a1, a2, a3⟩ := hF.2 i a ha
    rw [uniR_by h hp hpn hq hin, uniR_by h hp hpn hq (show a < n by omega), a2]
    refine ⟨a1, rfl, ?_⟩
    by_cases d : r i = e p
    · rw [if_pos d]
      have h1 := h.le i hin
      rw [d] at h1
      constructor
      · intro e9
        have := a3.1 e9
        omega
      · intro e9; omega
    · rw [if_neg d]; exact a3
theorem ends_unite {n : Nat} {en : List Nat} {r e : Nat → Nat} (h : Part n r e) {p : Nat} (hp : r p = p) (hpn : p < n) (hq : e p < n) (hl : en.length = n) (hE : ∀ i, r i = i → i < n → en[i]? = some (e i)) : ∀ i, uniR r e p i = i → i < n → (en.set p (e (e p)))[i]? = some (uniE e p i) := by
  intro i hi hin
  unfold uniE
  by_cases c : i = p
  · subst c
    rw [if_pos rfl, List.getElem?_set_self (by omega)]
  · rw [if_neg c, List.getElem?_set_ne (fun e9 => c e9.symm)]
    rw [uniR_by h hp hpn hq hin] at hi
    by_cases d : r i = e p
    · rw [if_pos d] at hi; omega
    · rw [if_neg d] at hi
      exact hE i hi hin
end Go.Proofs.YtcbiaeeifclieaaGreatDoor
