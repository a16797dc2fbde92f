/- Three rows of integers of the call's own, apart. No function of the program. -/
import Derived.Test.YtaiefneimjdmhaaMem3
import Derived.Test.YtaiefneimjdmhaaStL
namespace Go.Proofs.Ytaiefneimjdmhaa
open Go.RowKit

/-- Places as integers, as they lie. -/
def natV (l : List Nat) : List Value := l.map fun i => .int .i64 ((i : Nat) : Int)
theorem natV_len (l : List Nat) : (natV l).length = l.length := by simp [natV]
theorem natV_app (a b : List Nat) : natV (a ++ b) = natV a ++ natV b := by simp [natV]
theorem natV_at {l : List Nat} {i p : Nat} (h : l[i]? = some p) : (natV l)[i]? = some (.int .i64 (p : Int)) := by simp [natV, h]
theorem natV_one (l : List Nat) : ∀ u ∈ natV l, u.oneCell' = true := by
  intro u hu
  simp [natV] at hu
  obtain ⟨i, _, rfl⟩ := hu
  rfl
theorem natV_ints (l : List Nat) : natV l = (l.map fun i => ((i : Nat) : Int)).map (Value.int .i64) := by simp [natV]
def Apt (a b : Value) : Prop := ∀ g, a.ownBlock = some g → b.ownBlock ≠ some g
theorem Apt.turn {a b : Value} (h : Apt a b) : Apt b a := fun g h1 h2 => h g h2 h1
theorem Apt.none_ {a b : Value} (h : a.ownBlock = none) : Apt a b := fun g h1 => by rw [h] at h1; cases h1
theorem Apt.kept {a b : Value} (h : Apt a b) : b.ownBlock = none ∨ b.ownBlock ≠ a.ownBlock := by
  cases hb : b.ownBlock with
  | none => exact .inl rfl
  | some g => exact .inr (fun e => h g e.symm hb)
structure R3 (w0 w : World) (a : Value) (l : List Nat) (b : Value) (m : List Nat) (c : Value) (n : List Nat) : Prop where
  ra : w.ownsRow w0.heap.size 3 1 a l.length (natV l)
  rb : w.ownsRow w0.heap.size 3 1 b m.length (natV m)
  rc : w.ownsRow w0.heap.size 3 1 c n.length (natV n)
  ab : Apt a b
  ac : Apt a c
  bc : Apt b c
  low : Below w0.heap.size w0 w
section
variable {w0 w w' : World} {a b c a' : Value} {l m n l' : List Nat}
theorem R3.rot (h : R3 w0 w a l b m c n) : R3 w0 w b m c n a l := ⟨h.rb, h.rc, h.ra, h.bc, h.ab.turn, h.ac.turn, h.low⟩
theorem R3.nil_ : R3 w w (.slice none 0 0) [] (.slice none 0 0) [] (.slice none 0 0) [] := ⟨⟨rfl, .inl ⟨rfl, rfl⟩⟩, ⟨rfl, .inl ⟨rfl, rfl⟩⟩, ⟨rfl, .inl ⟨rfl, rfl⟩⟩, .none_ rfl, .none_ rfl, .none_ rfl, Below.refl _ _⟩
theorem R3.lowr (h : R3 w0 w a l b m c n) (hb : Below w.heap.size w w') : R3 w0 w' a l b m c n := ⟨own_below h.ra hb, own_below h.rb hb, own_below h.rc hb, h.ab, h.ac, h.bc, h.low.trans (hb.mono h.low.size)⟩
theorem R3.alloc (h : R3 w0 w a l b m c n) (o : Obj) : R3 w0 (w.alloc o) a l b m c n := h.lowr (below_new w o)
theorem R3.drewN (h : R3 w0 w a l b m c n) (q : Nat) : R3 w0 (w.drewN q) a l b m c n := h.lowr (drewBelow q)
theorem apt_new {v : Value} {z : List Value} {k : Nat} (hv : w.ownsRow w0.heap.size 3 1 v k z) (hat : a'.ownBlock = a.ownBlock ∨ a'.ownBlock = some w.heap.size) (h : Apt a v) : Apt a' v := by
  intro g h1 h2
  rcases hat with e | e
  · exact h g (by rw [← e]; exact h1) h2
  · rw [e] at h1
    have := (hv.lt g h2).2
    have : w.heap.size = g := by simpa using h1
    omega
/-- The first row grows. -/
theorem R3.grow (h : R3 w0 w a l b m c n) (hg : w.grownBy w' a.ownBlock) (ho : w'.ownsRow w0.heap.size 3 1 a' l'.length (natV l')) (hat : a'.ownBlock = a.ownBlock ∨ a'.ownBlock = some w.heap.size) : R3 w0 w' a' l' b m c n :=
  ⟨ho, h.rb.kept hg h.ab.kept, h.rc.kept hg h.ac.kept, apt_new h.rb hat h.ab, apt_new h.rc hat h.ac, h.bc, below_app h.low hg h.ra h.low.size⟩
/-- The first row's head. -/
theorem R3.head {g k cap : Nat} (h : R3 w0 w (.slice (some ⟨g, 0, none⟩) k cap) l b m c n) {j : Nat} (hk : l.length = k) (hj : j ≤ k) (hl : l' = l.take j) : R3 w0 w (.slice (some ⟨g, 0, none⟩) j cap) l' b m c n := by
  subst hl
  subst hk
  refine ⟨?_, h.rb, h.rc, h.ab, h.ac, h.bc, h.low⟩
  have h1 := headM (m := j) h.ra hj
  rw [Nat.mul_one] at h1
  have e : (l.take j).length = j := by rw [List.length_take]; omega
  rw [e]
  rw [show natV (l.take j) = (natV l).take j by simp [natV, List.map_take]]
  exact h1
/-- The first row grows by some. -/
theorem R3.more {e : List Nat} (h : R3 w0 w a l b m c n) (hg : w.grownBy w' a.ownBlock) {k : Nat} (hk : l.length + e.length = k) (ho : w'.ownsRow w0.heap.size 3 1 a' k (natV l ++ natV e)) (hat : a'.ownBlock = a.ownBlock ∨ a'.ownBlock = some w.heap.size) : R3 w0 w' a' (l ++ e) b m c n :=
  h.grow hg (by rw [natV_app, List.length_append, hk]; exact ho) hat
end
end Go.Proofs.Ytaiefneimjdmhaa
