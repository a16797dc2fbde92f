/- option.Check's region that draws its order: what each operation yields. -/
import Derived.Test.YtcdogkabdhbjmaaDoorOpP1
import Derived.Test.YtcdogkabdhbjmaaDoorReg
namespace Go.Proofs.YtcdogkabdhbjmaaDoor
open Go.RowKit

/-- What the region reads: the options' block, Tashkeel, the two tests of ahead, seven flags. -/
structure Prm where
  B : Nat
  t : Int
  lb : Bool
  tb : Bool
  b1 : Bool
  b2 : Bool
  b3 : Bool
  b4 : Bool
  b5 : Bool
  b6 : Bool
  b7 : Bool
def slotF (i : Nat) : Nat := if i = 42 then 19 else 20 + i
def gdF (p : Prm) : Nat → Bool
  | 0 => true
  | 1 => true
  | 2 => true
  | 3 => true
  | 4 => !p.b1
  | 5 => !p.b1
  | 6 => !p.b1
  | 7 => !p.b1
  | 8 => !p.b1
  | 9 => !p.b1
  | 10 => !p.b1
  | 11 => !p.b1
  | 12 => !p.b1
  | 13 => !p.b1
  | 14 => true
  | 15 => true
  | 16 => true
  | 17 => true
  | 18 => p.b2
  | 19 => p.b2
  | 20 => true
  | 21 => true
  | 22 => true
  | 23 => true
  | 24 => p.b3
  | 25 => p.b3
  | 26 => p.b3
  | 27 => p.b3
  | 28 => p.b3
  | 29 => p.b3
  | 30 => p.b3
  | 31 => p.b3
  | 32 => true
  | 33 => true
  | 34 => true
  | 35 => true
  | 36 => p.b7
  | 37 => p.b7
  | 38 => p.b7
  | 39 => true
  | 40 => true
  | 41 => true
  | 42 => true
  | _ => false
def valF (p : Prm) : Nat → Value
  | 0 => .pointer (some ⟨p.B, 5, none⟩)
  | 1 => .bool (p.b1)
  | 2 => .bool (!p.b1)
  | 3 => .bool (!p.b1)
  | 4 => .bool (p.lb)
  | 5 => .bool (p.tb)
  | 6 => .pointer (some ⟨p.B, 7, none⟩)
  | 7 => .bool (p.b3)
  | 8 => .pointer (some ⟨p.B, 8, none⟩)
  | 9 => .bool (p.b4)
  | 10 => .pointer (some ⟨p.B, 9, none⟩)
  | 11 => .bool (p.b5)
  | 13 => .bool (p.lb || (p.tb || (p.b3 || (p.b4 || p.b5))))
  | 14 => .bool (!p.b1 && (p.lb || (p.tb || (p.b3 || (p.b4 || p.b5)))))
  | 15 => .pointer (some ⟨p.B, 6, none⟩)
  | 16 => .bool (p.b2)
  | 17 => .bool (p.b2)
  | 18 => .bool (p.lb)
  | 19 => .bool (!p.lb)
  | 20 => .bool (p.b2 && !p.lb)
  | 21 => .pointer (some ⟨p.B, 7, none⟩)
  | 22 => .bool (p.b3)
  | 23 => .bool (p.b3)
  | 24 => .pointer (some ⟨p.B, 2, none⟩)
  | 25 => .int .i64 p.t
  | 26 => .bool (p.t == 3)
  | 27 => .pointer (some ⟨p.B, 2, none⟩)
  | 28 => .int .i64 p.t
  | 29 => .bool (p.t == 4)
  | 31 => .bool ((p.t == 3) || (p.t == 4))
  | 32 => .bool (p.b3 && ((p.t == 3) || (p.t == 4)))
  | 33 => .pointer (some ⟨p.B, 11, none⟩)
  | 34 => .bool (p.b7)
  | 35 => .bool (p.b7)
  | 36 => .pointer (some ⟨p.B, 10, none⟩)
  | 37 => .bool (p.b6)
  | 38 => .bool (!p.b6)
  | 39 => .bool (p.b7 && !p.b6)
  | 41 => .bool ((!p.b1 && (p.lb || (p.tb || (p.b3 || (p.b4 || p.b5))))) || ((p.b2 && !p.lb) || ((p.b3 && ((p.t == 3) || (p.t == 4))) || (p.b7 && !p.b6))))
  | 42 => .bool ((!p.b1 && (p.lb || (p.tb || (p.b3 || (p.b4 || p.b5))))) || ((p.b2 && !p.lb) || ((p.b3 && ((p.t == 3) || (p.t == 4))) || (p.b7 && !p.b6))))
  | _ => undef
def rowF (p : Prm) : Nat → Option (List Bool)
  | 12 => some [p.lb, p.tb, p.b3, p.b4, p.b5]
  | 30 => some [p.t == 3, p.t == 4]
  | 40 => some [!p.b1 && (p.lb || (p.tb || (p.b3 || (p.b4 || p.b5)))), p.b2 && !p.lb, p.b3 && ((p.t == 3) || (p.t == 4)), p.b7 && !p.b6]
  | _ => none
/-- Operation i has yielded what it yields. -/
def GoodRow (r : Option (List Bool)) (v : Value) (s : Nat) (a : Act) (w : World) : Prop := match r with
  | none => a.tmps[s]? = some v
  | some l => ∃ g, a.tmps[s]? = some (.slice (some ⟨g, 0, none⟩) l.length l.length) ∧ Rd w 1 (some ⟨g, 0, none⟩) l.length (l.map Value.bool)
def GoodAt (p : Prm) (i : Nat) (a : Act) (w : World) : Prop := gdF p i = true → GoodRow (rowF p i) (valF p i) (slotF i) a w
/-- What stands all the while. -/
structure HoldsAt (p : Prm) (w0 : World) (w : World) (a : Act) : Prop where
  defers : a.defers = []
  size : a.tmps.size = 62
  s1 : a.tmps[1]? = some (.pointer (some ⟨p.B, 0, none⟩))
  s3 : a.tmps[3]? = some (.bool p.lb)
  s4 : a.tmps[4]? = some (.bool p.tb)
  c2 : w.cell? ⟨p.B, 2, none⟩ = some (.int .i64 p.t)
  c5 : w.cell? ⟨p.B, 5, none⟩ = some (.bool p.b1)
  c6 : w.cell? ⟨p.B, 6, none⟩ = some (.bool p.b2)
  c7 : w.cell? ⟨p.B, 7, none⟩ = some (.bool p.b3)
  c8 : w.cell? ⟨p.B, 8, none⟩ = some (.bool p.b4)
  c9 : w.cell? ⟨p.B, 9, none⟩ = some (.bool p.b5)
  c10 : w.cell? ⟨p.B, 10, none⟩ = some (.bool p.b6)
  c11 : w.cell? ⟨p.B, 11, none⟩ = some (.bool p.b7)
  below : Below w0.heap.size w0 w
theorem gdF_lt {p : Prm} {i : Nat} (h : gdF p i = true) : i < 43 := by
  unfold gdF at h
  split at h <;> first | omega | cases h
theorem HoldsAt.put {p : Prm} {w0 w w' : World} {a : Act} (h : HoldsAt p w0 w a) (hb : Below w.heap.size w w') (s : Nat) (v : Value) (h1 : s ≠ 1) (h3 : s ≠ 3) (h4 : s ≠ 4) : HoldsAt p w0 w' (a.put (some s) v) where
  defers := h.defers
  size := by simpa [Act.put] using h.size
  s1 := by simp only [Act.put]; rw [Array.getElem?_setIfInBounds_ne h1]; exact h.s1
  s3 := by simp only [Act.put]; rw [Array.getElem?_setIfInBounds_ne h3]; exact h.s3
  s4 := by simp only [Act.put]; rw [Array.getElem?_setIfInBounds_ne h4]; exact h.s4
  c2 := cell_below hb h.c2
  c5 := cell_below hb h.c5
  c6 := cell_below hb h.c6
  c7 := cell_below hb h.c7
  c8 := cell_below hb h.c8
  c9 := cell_below hb h.c9
  c10 := cell_below hb h.c10
  c11 := cell_below hb h.c11
  below := below_self h.below hb
theorem slotF_inj {i j : Nat} (hi : i < 43) (hj : j < 43) (h : j ≠ i) : slotF i ≠ slotF j := by
  unfold slotF
  split <;> split <;> omega
theorem slotF_lt {i : Nat} (hi : i < 43) : slotF i < 62 ∧ slotF i ≠ 1 ∧ slotF i ≠ 3 ∧ slotF i ≠ 4 := by
  unfold slotF
  split <;> omega
theorem GoodAt.keep {p : Prm} {i j : Nat} {a : Act} {w w' : World} (hi : i < 43) (h : GoodAt p j a w) (hji : j ≠ i) (hb : Below w.heap.size w w') (v : Value) : GoodAt p j (a.put (some (slotF i)) v) w' := by
  intro hg
  have hne := slotF_inj hi (gdF_lt hg) hji
  have h2 := h hg
  have e : (a.put (some (slotF i)) v).tmps[slotF j]? = a.tmps[slotF j]? := by
    simp only [Act.put]
    exact Array.getElem?_setIfInBounds_ne hne
  cases hr : rowF p j with
  | none =>
    rw [hr] at h2
    exact e.trans h2
  | some l =>
    rw [hr] at h2
    obtain ⟨g, h3, h4⟩ := h2
    exact ⟨g, e.trans h3, h4.below hb⟩
/-- Behind an operation that yields v, and at most makes memory. -/
theorem done_at {p : Prm} {w0 w w' : World} {a : Act} {i : Nat} (hi : i < 43) (h : HoldsAt p w0 w a) (hb : Below w.heap.size w w') (v : Value) (hv : (a.put (some (slotF i)) v).tmps[slotF i]? = some v → GoodAt p i (a.put (some (slotF i)) v) w') :
    HoldsAt p w0 w' (a.put (some (slotF i)) v) ∧ GoodAt p i (a.put (some (slotF i)) v) w' ∧ ∀ j, j ≠ i → GoodAt p j a w → GoodAt p j (a.put (some (slotF i)) v) w' := by
  obtain ⟨h0, h1, h3, h4⟩ := slotF_lt hi
  exact ⟨h.put hb _ v h1 h3 h4, hv (by simp [Act.put, h.size, h0]), fun j hj hg => hg.keep hi hj hb v⟩
theorem done_pure {p : Prm} {w0 w : World} {a : Act} {i : Nat} (hi : i < 43) (h : HoldsAt p w0 w a) (v : Value) (hr : rowF p i = none) (hv : gdF p i = true → v = valF p i) :
    HoldsAt p w0 w (a.put (some (slotF i)) v) ∧ GoodAt p i (a.put (some (slotF i)) v) w ∧ ∀ j, j ≠ i → GoodAt p j a w → GoodAt p j (a.put (some (slotF i)) v) w :=
  done_at hi h (Below.refl _ _) v fun e hg => by
    rw [hr, ← hv hg]
    exact e
theorem done_off {p : Prm} {w0 w : World} {a : Act} {i : Nat} (hi : i < 43) (h : HoldsAt p w0 w a) (hg : gdF p i = false) :
    HoldsAt p w0 w (a.put (some (slotF i)) undef) ∧ GoodAt p i (a.put (some (slotF i)) undef) w ∧ ∀ j, j ≠ i → GoodAt p j a w → GoodAt p j (a.put (some (slotF i)) undef) w :=
  done_at hi h (Below.refl _ _) undef fun _ hg' => by rw [hg] at hg'; cases hg'
theorem done_row {p : Prm} {w0 w : World} {a : Act} {i : Nat} (hi : i < 43) (h : HoldsAt p w0 w a) (l : List Bool) (T : TypeId) (hr : gdF p i = true → rowF p i = some l) :
    HoldsAt p w0 (w.alloc (.cells (l.map Value.bool).toArray T)) (a.put (some (slotF i)) (.slice (some ⟨w.heap.size, 0, none⟩) l.length l.length)) ∧ GoodAt p i (a.put (some (slotF i)) (.slice (some ⟨w.heap.size, 0, none⟩) l.length l.length)) (w.alloc (.cells (l.map Value.bool).toArray T)) ∧
      ∀ j, j ≠ i → GoodAt p j a w → GoodAt p j (a.put (some (slotF i)) (.slice (some ⟨w.heap.size, 0, none⟩) l.length l.length)) (w.alloc (.cells (l.map Value.bool).toArray T)) :=
  done_at hi h (below_new _ _) _ fun e hg => by
    rw [hr hg]
    exact ⟨_, e, rdBools w l T⟩
section
variable {P : Program} {o : Oper} {a : Act} {w : World} {K : Act → World → Prop} {Q : Exit → Act → World → Prop}
theorem oper_val {v : Value} {w' : World} (h : (execOp a.eval o).run P w = .ok (.value v) w') (hk : K (a.put o.dst v) w') : o.wp P a w K Q := by
  unfold Oper.wp
  rw [h]
  exact hk
theorem wanted_none {y : Nat → Option Bool} (h : o.guard = none) : Region.wanted o y = true := by simp [Region.wanted, h]
theorem wanted_some {y : Nat → Option Bool} {j : Nat} {g : Bool} (h : o.guard = some (j, true)) (hy : y j = some g) : Region.wanted o y = g := by simp [Region.wanted, h, hy]
theorem yielded_at {ops : Array Oper} {tmps : Array Value} {j s : Nat} {g : Bool} {o' : Oper} (ho : ops[j]? = some o') (hd : o'.dst = some s) (ht : tmps[s]? = some (.bool g)) : yielded ops tmps j = some g := by
  unfold yielded
  rw [ho]
  simp [hd, ht]
end
end Go.Proofs.YtcdogkabdhbjmaaDoor
