/- breaks' order of stops: cmp.Or, the comparison, slices.SortFunc at stops. -/
import Derived.Deep.RegionHeld3
import Derived.Test.YtdgomaoikeffhaaSortRow
import Derived.Test.YtdgomaoikeffhaaLaySorT
import Derived.Test.YtdgomaoikeffhaaCmpI
import Derived.Test.YtdgomaoikeffhaaBsD
import Derived.Shelf.Abstract
namespace Go.Proofs.Ytdgomaoikeffhaa
open Go.RowKit Go.Shelf

def orI (x y : Int) : Int := if x = 0 then y else x
def cmpT (a b : Sp) : Int := orI (cmpI a.1 b.1) (cmpI b.2 a.2)
/-- A stop's cells, its third one not told yet. -/
def encZ (s : Sp) : List Value := [.int .i64 s.1, .int .i64 s.2, .int .i64 0]
def cellsZ (l : List Sp) : List Value := l.flatMap encZ
theorem cellsZ_len (l : List Sp) : (cellsZ l).length = l.length * 3 := flatMap_len encZ 3 (fun _ => rfl) l
set_option maxRecDepth 100000 in
set_option maxHeartbeats 1000000 in
theorem orI_any (g : Nat) (x y : Int) (w : World) (c0 : w.cell? ⟨g, 0, none⟩ = some (.int .i64 x)) (c1 : w.cell? ⟨g, 1, none⟩ = some (.int .i64 y)) :
    Calls Try.prog 40 #[.slice (some ⟨g, 0, none⟩) 2 2] w fun e w' => e = .returned (.int .i64 (orI x y)) ∧ w = w' := by
  by_cases hx : x = 0
  · have HO := Lib.hid (show orI x y = y from if_pos hx)
    have g0 : (x != 0) = false := by simp [hx]
    clear hx
    by_cases hy : y = 0
    · have HY := Lib.hid hy
      have g1 : (y != 0) = false := by simp [hy]
      clear hy
      go_enter Try.func40, Try.ntmps40
      go_wp2
      go_loopw [8] (fun i wr => (i = .int .i64 0 ∨ i = .int .i64 1 ∨ i = .int .i64 2) ∧ wr = w) (fun i _ => 2 - (intOf i).toNat)
      case atStart => exact ⟨.inl rfl, rfl⟩
      case round =>
        obtain ⟨hk3, rfl⟩ := hrel
        rcases hk3 with rfl | rfl | rfl
        · go_wp2
          go_roundw
          case rel => exact ⟨.inr (.inl (by go_num)), by first | rfl | trivial⟩
          case measure => simp [intOf]
        · go_wp2
          go_roundw
          case rel => exact ⟨.inr (.inr (by go_num)), by first | rfl | trivial⟩
          case measure => simp [intOf]
        · go_wp2
          go_ret
          exact ⟨by rw [HO.out, HY.out]; rfl, by first | rfl | trivial⟩
    · have g1 : (y != 0) = true := by simp [hy]
      clear hy
      go_enter Try.func40, Try.ntmps40
      go_wp2
      go_loopw [8] (fun i wr => (i = .int .i64 0 ∨ i = .int .i64 1) ∧ wr = w) (fun i _ => 2 - (intOf i).toNat)
      case atStart => exact ⟨.inl rfl, rfl⟩
      case round =>
        obtain ⟨hk3, rfl⟩ := hrel
        rcases hk3 with rfl | rfl
        · go_wp2
          go_roundw
          case rel => exact ⟨.inr (by go_num), by first | rfl | trivial⟩
          case measure => simp [intOf]
        · go_wp2
          go_ret
          exact ⟨by rw [HO.out]; rfl, by first | rfl | trivial⟩
  · have HO := Lib.hid (show orI x y = x from if_neg hx)
    have g0 : (x != 0) = true := by simp [hx]
    clear hx
    go_enter Try.func40, Try.ntmps40
    go_wp2
    go_loopw [8] (fun i wr => i = .int .i64 0 ∧ wr = w) (fun i _ => 2 - (intOf i).toNat)
    case atStart => exact ⟨rfl, rfl⟩
    case round =>
      obtain ⟨rfl, rfl⟩ := hrel
      go_wp2
      go_ret
      exact ⟨by rw [HO.out]; rfl, by first | rfl | trivial⟩
theorem cmpI_neg (x y : Int) : cmpI x y < 0 ↔ x < y := by
  unfold cmpI
  split
  · simp; assumption
  · split
    · simp; omega
    · simp; omega
theorem cmpI_zero (x y : Int) : cmpI x y = 0 ↔ x = y := by
  unfold cmpI
  split
  · simp; omega
  · split
    · simp; omega
    · simp; omega
theorem cmpT_neg (a b : Sp) : decide (cmpT a b < 0) = aftB a b := by
  unfold cmpT orI aftB
  rw [Bool.eq_iff_iff]
  split
  · rename_i h
    have h1 := (cmpI_zero _ _).1 h
    simp only [decide_eq_true_eq, Bool.or_eq_true, Bool.and_eq_true, cmpI_neg]
    omega
  · rename_i h
    have h1 : a.1 ≠ b.1 := fun e => h ((cmpI_zero _ _).2 e)
    simp only [decide_eq_true_eq, Bool.or_eq_true, Bool.and_eq_true, cmpI_neg]
    omega
theorem ltT (a b : Sp) : ltOf cmpT a b = aftB a b := cmpT_neg a b
theorem swoT : Sort.SWO (ltOf cmpT) where
  irrefl x := by simp [ltT, aftB]
  trans x y z h1 h2 := by simp [ltT, aftB] at *; omega
  ntrans x y z h1 h2 := by simp [ltT, aftB] at *; omega
def CmpAtT (g : FuncId) : Prop := ∀ (x y : Sp) (w : World), Calls Try.prog g #[.agg (encZ x).toArray, .agg (encZ y).toArray] w fun e w' => e = .returned (.int .i64 (cmpT x y)) ∧ ∃ q os, w' = Sort.grow (w.drewN q) os
/-- Draws and new blocks behind a world. -/
def GrwT (W w' : World) : Prop := ∃ q os, w' = Sort.grow (W.drewN q) os
theorem GrwT.drew (W : World) : GrwT W W.drew := ⟨1, #[], by rw [Sort.grow_empty]; rfl⟩
theorem GrwT.alloc {W w' : World} (h : GrwT W w') (o : Obj) : GrwT W (w'.alloc o) := by
  obtain ⟨q, os, rfl⟩ := h
  exact ⟨q, os ++ #[o], by rw [Sort.alloc_eq_grow, Sort.grow_grow]⟩
theorem GrwT.trans {A B C : World} (h : GrwT A B) (k : GrwT B C) : GrwT A C := by
  obtain ⟨q, os, rfl⟩ := h
  obtain ⟨q', os', rfl⟩ := k
  refine ⟨q + q', os ++ os', ?_⟩
  rw [← Sort.grow_grow, ← World.drewN_drewN]
  rfl
set_option maxRecDepth 100000 in
set_option maxHeartbeats 500000 in
theorem brCmp_any : CmpAtT 39 := by
  intro x y w
  obtain ⟨a, b⟩ := x
  obtain ⟨c, d⟩ := y
  show Calls Try.prog 39 #[.agg #[.int .i64 a, .int .i64 b, .int .i64 0], .agg #[.int .i64 c, .int .i64 d, .int .i64 0]] w _
  obtain ⟨W0, hW0⟩ : ∃ W0, (w.alloc (.cells #[.int .i64 a, .int .i64 b, .int .i64 0] 66)).alloc (.cells #[.int .i64 c, .int .i64 d, .int .i64 0] 66) = W0 := ⟨_, rfl⟩
  have hb0 : Below w.heap.size w W0 := by rw [← hW0]; exact (below_new w _).alloc (by simp) _
  have hs0 : W0.heap.size = w.heap.size + 2 := by rw [← hW0]; simp
  have a0 : W0.cell? ⟨w.heap.size, 0, none⟩ = some (.int .i64 a) := by rw [← hW0]; exact cell_below (below_new _ _) (cells_new w [.int .i64 a, .int .i64 b, .int .i64 0] _ 0 _ rfl)
  have a1 : W0.cell? ⟨w.heap.size, 1, none⟩ = some (.int .i64 b) := by rw [← hW0]; exact cell_below (below_new _ _) (cells_new w [.int .i64 a, .int .i64 b, .int .i64 0] _ 1 _ rfl)
  have c0 : W0.cell? ⟨w.heap.size + 1, 0, none⟩ = some (.int .i64 c) := by
    have := cells_new (w.alloc (.cells #[.int .i64 a, .int .i64 b, .int .i64 0] 66)) [.int .i64 c, .int .i64 d, .int .i64 0] 66 0 _ rfl
    rw [World.size_alloc, addNew] at this
    rw [← hW0]; exact this
  have c1 : W0.cell? ⟨w.heap.size + 1, 1, none⟩ = some (.int .i64 d) := by
    have := cells_new (w.alloc (.cells #[.int .i64 a, .int .i64 b, .int .i64 0] 66)) [.int .i64 c, .int .i64 d, .int .i64 0] 66 1 _ rfl
    rw [World.size_alloc, addNew] at this
    rw [← hW0]; exact this
  have HG : Hid (GrwT w W0) := Lib.hid ⟨0, _, by rw [← hW0, Sort.alloc_eq_grow, Sort.alloc_eq_grow, Sort.grow_grow]; rfl⟩
  go_enter Try.func39, Try.ntmps39
  go_wp2_with fail
  have HOR := Lib.hid (fun (u v : Int) => orI_any W0.heap.size u v (W0.alloc (.cells #[.int .i64 u, .int .i64 v] 3)).drew (cells_new W0 [.int .i64 u, .int .i64 v] 3 0 _ rfl) (cells_new W0 [.int .i64 u, .int .i64 v] 3 1 _ rfl))
  rw [hs0] at HOR
  have HC0 : Hid (W0.drew.cell? ⟨w.heap.size, 0, none⟩ = some (.int .i64 a) ∧ W0.drew.cell? ⟨w.heap.size, 1, none⟩ = some (.int .i64 b) ∧ W0.drew.cell? ⟨w.heap.size + 1, 0, none⟩ = some (.int .i64 c) ∧ W0.drew.cell? ⟨w.heap.size + 1, 1, none⟩ = some (.int .i64 d) ∧ GrwT W0 W0.drew) := Lib.hid ⟨a0, a1, c0, c1, GrwT.drew _⟩
  have HC1 : Hid (∀ o, (W0.alloc o).drew.cell? ⟨w.heap.size, 0, none⟩ = some (.int .i64 a) ∧ (W0.alloc o).drew.cell? ⟨w.heap.size, 1, none⟩ = some (.int .i64 b) ∧ (W0.alloc o).drew.cell? ⟨w.heap.size + 1, 0, none⟩ = some (.int .i64 c) ∧ (W0.alloc o).drew.cell? ⟨w.heap.size + 1, 1, none⟩ = some (.int .i64 d) ∧ GrwT W0 (W0.alloc o).drew) := Lib.hid fun o => ⟨cell_below (below_new W0 o).drew a0, cell_below (below_new W0 o).drew a1, cell_below (below_new W0 o).drew c0, cell_below (below_new W0 o).drew c1, (GrwT.drew W0).alloc o⟩
  have HC2 : Hid (∀ o, (W0.drew.alloc o).cell? ⟨w.heap.size, 0, none⟩ = some (.int .i64 a) ∧ (W0.drew.alloc o).cell? ⟨w.heap.size, 1, none⟩ = some (.int .i64 b) ∧ (W0.drew.alloc o).cell? ⟨w.heap.size + 1, 0, none⟩ = some (.int .i64 c) ∧ (W0.drew.alloc o).cell? ⟨w.heap.size + 1, 1, none⟩ = some (.int .i64 d) ∧ GrwT W0 (W0.drew.alloc o)) := Lib.hid fun o => HC1.out o
  clear a0 a1 c0 c1
  go_region_held3 (fun w' => w'.cell? ⟨w.heap.size, 0, none⟩ = some (.int .i64 a) ∧ w'.cell? ⟨w.heap.size, 1, none⟩ = some (.int .i64 b) ∧ w'.cell? ⟨w.heap.size + 1, 0, none⟩ = some (.int .i64 c) ∧ w'.cell? ⟨w.heap.size + 1, 1, none⟩ = some (.int .i64 d) ∧ GrwT W0 w')
    (first
      | with_reducible exact HC0.out
      | with_reducible exact HC1.out _
      | with_reducible exact HC2.out _
      | with_reducible assumption
      | fail)
    (first
      | (go_at_call 41; with_reducible refine (cmpI_any _ _ _).mono ?_; rintro e w4 ⟨rfl, rfl⟩)
      | (go_at_call 40; with_reducible refine (HOR.out _ _).mono ?_; rintro e w5 ⟨rfl, rfl⟩)
      | fail)
  go_wp2
  go_ret
  exact ⟨rfl, HG.out.trans ((GrwT.drew W0).alloc _)⟩
theorem egBrCmp : ∀ args w, (callFunc 39 args).run Try.prog w = .ok (.enter 39 args) w := enters_of Try.func39 (by kernel_rfl) rfl
theorem perm_of_inT {d d' : Array Sp} (h : Sort.PermIn 0 d.size d d') : d'.toList.Perm d.toList ∧ d'.size = d.size := by
  obtain ⟨h1, _, h3⟩ := h
  have e1 : d'.extract 0 d.size = d' := by rw [← h1, Array.extract_size]
  have e2 : d.extract 0 d.size = d := Array.extract_size
  rw [e1, e2] at h3
  exact ⟨h3, h1⟩
theorem sorted_of_inT {d : Array Sp} {n : Nat} (hn : d.size = n) (h : Sort.SortedIn (ltOf cmpT) 0 n d) : d.toList.Pairwise fun a b => aftB b a = false := by
  subst hn
  rw [List.pairwise_iff_getElem]
  intro i j hi hj hij
  have := h i j (Nat.zero_le _) hij (by simpa using hj)
  rw [ltT, getElem!_pos d i (by simpa using hi), getElem!_pos d j (by simpa using hj)] at this
  simpa only [Array.getElem_toList] using this
theorem sortT_any (f : FuncId) (eg : ∀ args w, (callFunc f args).run Try.prog w = .ok (.enter f args) w) (hf : CmpAtT f) {base g n cap : Nat} {l : List Sp} {w : World} (hown : w.ownsRow base 66 3 (.slice (some ⟨g, 0, none⟩) n cap) n (cellsZ l)) (hn : n < 4611686018427387904) :
    Calls Try.prog 38 #[.slice (some ⟨g, 0, none⟩) n cap, .func (.func f) #[] #[]] w fun e w' => e = .returned (.tuple #[]) ∧ ∃ l', List.Perm l' l ∧ (l'.Pairwise fun a b => aftB b a = false) ∧ w'.ownsRow base 66 3 (.slice (some ⟨g, 0, none⟩) n cap) n (cellsZ l') ∧ w.grownBy w' (some g) := by
  have hl : l.length = n := by have := hown.1; rw [cellsZ_len] at this; omega
  have hd : l.toArray.size = n := by simpa using hl
  have hH := holds_of_own (enc := encZ) (k := 3) (fun _ => rfl) l.toArray hd hown
  have hlt := (hown.lt g rfl).2
  have hsize : (l.toArray : Array Sp).size < 4611686018427387904 := by omega
  have hcmp : CmpLays Try.prog f #[] encZ 3 cmpT g 0 l.toArray.size w := by
    intro m os dk _ x y
    exact (hf x y _).mono fun e w' ⟨he, q, os', hw⟩ => ⟨he, q, os', hw⟩
  have h := AnyQ.slices_SortFunc sortT_lays 3 Try.isAgg66 Try.sizeOf66 encZ (fun _ => rfl) (fun x v hv => by
    simp [encZ] at hv
    rcases hv with rfl | rfl | rfl <;> rfl) cmpT swoT f #[] g 0 cap l.toArray w eg hcmp hH hlt hsize
  rw [hd] at h
  refine Calls.mono h ?_
  rintro e w' ⟨he, d', m, os, hp, hs, rfl⟩
  have hp' := perm_of_inT (d := l.toArray) (d' := d') (by rw [hd]; exact hp)
  have hd' : d'.size = n := by omega
  obtain ⟨ho, hgr⟩ := own_of_sorted (enc := encZ) (k := 3) (fun _ => rfl) hown m d' os hd'
  exact ⟨he, d'.toList, by simpa using hp'.1, sorted_of_inT hd' hs, ho, hgr⟩
end Go.Proofs.Ytdgomaoikeffhaa
