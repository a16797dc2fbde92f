/- Texts of one claim, one behind the other. -/
import Derived.Test.YtmgoakfnmgngoaaRows
import Derived.WalkKit
import Derived.WalkSpells
import Derived.WalkLawsBesides
import Derived.Handy
import Derived.Below
import Derived.Laws.OwnMore
import Derived.Deep.AppendLies
import Derived.Deep.Draws
import Derived.Laws.Rows
import Derived.Maps.AppendAt
import Derived.RegionTactic
import Derived.OwnWalk
import Derived.Deep.QuietTactic
import Derived.BigQuiet
import Derived.Lib.Hide
import Derived.Deep.LoopGhost
import Derived.BigRegion
/- Words for memory that all later texts share: a slice that reads as a list, blocks, appends (after the guide's own page of words), and small facts on endings. -/
namespace Go.Proofs.Ytmgoakfnmgngoaa
open Go.RowKit

theorem blockAdd (a : Addr) (n : Nat) : (a.add n).block = a.block := by unfold Addr.add; split <;> rfl
theorem addAdd (a : Addr) (i j : Nat) : (a.add i).add j = a.add (i + j) := by
  unfold Addr.add
  by_cases hi : i = 0 <;> by_cases hj : j = 0 <;> simp [hi, hj, Nat.add_assoc]

/-- In world w the slice value with address A and length n reads as the cells xs ('size' cells an element), all in memory that is there. -/
def Rd (w : World) (size : Nat) (A : Option Addr) (n : Nat) (xs : List Value) : Prop :=
  xs.length = n * size ∧ (0 < n → ∃ ad, A = some ad ∧ ad.block < w.heap.size ∧ ∀ j u, xs[j]? = some u → w.cell? (ad.add j) = some u)

section
variable {w w' : World} {size n : Nat} {A : Option Addr} {xs : List Value}
theorem Rd.nil_ : Rd w size A 0 [] := ⟨by simp, fun h => absurd h (by omega)⟩
theorem Rd.len1 (h : Rd w 1 A n xs) : xs.length = n := by have := h.1; omega
theorem Rd.at_ {k : Nat} (h : Rd w 1 A n xs) (hk : k < n) : ∃ ad, A = some ad ∧ ad.block < w.heap.size ∧ ∀ u, xs[k]? = some u → w.cell? (ad.add k) = some u := by
  obtain ⟨ad, e, hb, hc⟩ := h.2 (by omega)
  exact ⟨ad, e, hb, fun u hu => hc k u hu⟩
theorem Rd.below (h : Rd w size A n xs) (hb : Below w.heap.size w w') : Rd w' size A n xs :=
  ⟨h.1, fun hn => by
    obtain ⟨ad, e, hlt, hc⟩ := h.2 hn
    exact ⟨ad, e, Nat.lt_of_lt_of_le hlt hb.size, fun j u hu => (hb.cell (by rw [blockAdd]; exact hlt)).trans (hc j u hu)⟩⟩
theorem Rd.drewN (h : Rd w size A n xs) (k : Nat) : Rd (w.drewN k) size A n xs := h
theorem Rd.alloc (h : Rd w size A n xs) (o : Obj) : Rd (w.alloc o) size A n xs := h.below ((Below.refl _ _).alloc (Nat.le_refl _) o)
/-- A cut 's[k:]'. -/
theorem Rd.cut (h : Rd w size A n xs) {k cap : Nat} (hk : k ≤ n) (hc : n ≤ cap) :
    Rd w size (if cap = k then A else A.map (·.add (k * size))) (n - k) (xs.drop (k * size)) := by
  refine ⟨by rw [List.length_drop, h.1, Nat.sub_mul], fun hn => ?_⟩
  obtain ⟨ad, rfl, hb, hcell⟩ := h.2 (by omega)
  rw [if_neg (by omega)]
  refine ⟨ad.add (k * size), rfl, by rw [blockAdd]; exact hb, fun j u hu => ?_⟩
  rw [addAdd]
  exact hcell _ u (by rw [← hu, List.getElem?_drop])
theorem Rd.of_own {base : Nat} {e : TypeId} {c : Nat} (h : w.ownsRow base e size (.slice A n c) n xs) : Rd w size A n xs := by
  refine ⟨h.1, fun hn => ?_⟩
  obtain ⟨g, cap, hv, _, hlt⟩ := h.form hn
  have hA : A = some ⟨g, 0, none⟩ := by injection hv
  subst hA
  exact ⟨_, rfl, hlt, h.cells (g := g) rfl⟩
end

theorem Rd.news {w : World} {size n : Nat} {ad : Addr} {xs : List Value} (h : Rd w size (some ad) n xs) : ∀ j u, xs[j]? = some u → w.cell? (ad.add j) = some u := by
  intro j u hu
  rcases Nat.eq_zero_or_pos n with h0 | h0
  · subst h0
    have hn : xs = [] := List.eq_nil_of_length_eq_zero (by simpa using h.1)
    subst hn
    simp at hu
  · obtain ⟨ad', e, _, hc⟩ := h.2 h0
    injection e with e
    subst e
    exact hc j u hu
/-- What a row of the call's own looks like as a value: a slice of that length. -/
theorem own_form {w : World} {base : Nat} {e : TypeId} {size : Nat} {v : Value} {n : Nat} {xs : List Value} (h : w.ownsRow base e size v n xs) : ∃ A c, v = .slice A n c ∧ n ≤ c := by
  rcases h.2 with ⟨rfl, rfl⟩ | ⟨g, cap, cur, rfl, _, _, hnc, _⟩
  · exact ⟨none, 0, rfl, Nat.le_refl _⟩
  · exact ⟨_, _, rfl, hnc⟩

/-- The slice type T has elements of type E, of so many cells and bytes. -/
def SliceOf (P : Program) (T E : TypeId) (size bytes : Nat) : Prop :=
  P.underlying T = some (.slice E) ∧ ∃ i z, P.info? E = some i ∧ i.zero = some z ∧ i.size = size ∧ i.bytes = bytes ∧ z.cells.size = size
theorem SliceOf.mk_ {P : Program} {T E : TypeId} {size bytes : Nat} {z : Value} (h : P.underlying T = some (.slice E)) (hi : (P.info? E).map (fun i => (i.zero, i.size, i.bytes)) = some (some z, size, bytes)) (hz : z.cells.size = size) : SliceOf P T E size bytes := by
  obtain ⟨i, h1, h2, h3, h4⟩ := info_parts hi
  exact ⟨h, i, z, h1, h2, h3, h4, hz⟩

/-- append onto a row of the call's own, the source at an address. -/
theorem wpList_app {P : Program} {w : World} {ops : Array Oper} {rest : List Oper} {o : Oper} {a : Act} {Q : Exit → Act → World → Prop} (hgd : o.guard = none) (s x : Operand) (t : TypeId)
    (ho : o.op = .call { callee := .builtin .append, args := #[s, x], argTypes := #[t, t] })
    {base : Nat} {e : TypeId} {size bytes : Nat} (S : SliceOf P t e size bytes) (hsz : 0 < size)
    (v : Value) (n : Nat) (xs : List Value) (hs : a.eval s = v) (hown : w.ownsRow base e size v n xs)
    (ad : Addr) (m c : Nat) (news : List Value) (hx : a.eval x = .slice (some ad) m c) (hl : news.length = m * size) (hnews : ∀ j u, news[j]? = some u → w.cell? (ad.add j) = some u) (h1 : ∀ u ∈ news, u.oneCell' = true)
    (hbytes : (n + m) * bytes ≤ 140737488355328) (h63 : n + m ≤ maxLen) (hbase : base ≤ w.heap.size)
    (h : ∀ v' w', w'.ownsRow base e size v' (n + m) (xs ++ news) → w.grownBy w' v.ownBlock → (v'.ownBlock = v.ownBlock ∨ v'.ownBlock = some w.heap.size) → wpList P ops Q rest (a.put o.dst v') w') :
    wpList P ops Q (o :: rest) a w := by
  obtain ⟨ht, i, z, hi, hz, hs1, hb1, hzs⟩ := S
  exact wpList_append_own_at w hgd s x t ho base e i z size bytes ht hi hz hs1 hb1 hzs hsz v n xs hs hown ad m c news hx hl hnews h1 h63 hbytes hbase (fun v' w' a1 a2 _ a4 => h v' w' a1 a2 a4)

theorem run_app_nil {P : Program} (w : World) (base : Nat) (t ty e : TypeId) (size bytes : Nat) (S : SliceOf P t e size bytes)
    (v : Value) (n : Nat) (xs : List Value) (hown : w.ownsRow base e size v n xs) (c : Nat) : (Builtin.append_ #[t, t] ty #[v, .slice none 0 c]).run P w = .ok v w := by
  obtain ⟨ht, i, z, hi, hz, hs1, hb1, hzs⟩ := S
  rcases hown.2 with ⟨rfl, rfl⟩ | ⟨g, cap, cur, rfl, _, _, hnc, _⟩
  · simp [Builtin.append_, run_underlying ht, sizeOf, typeInfo, hi, Builtin.lenOf, Builtin.firstCells]
  · simp [Builtin.append_, run_underlying ht, sizeOf, typeInfo, hi, Builtin.lenOf, Builtin.firstCells, hnc, storeCells]

/-- append onto a row of the call's own, the source any slice that reads as 'news', nil too. -/
theorem wpList_appR {P : Program} {w : World} {ops : Array Oper} {rest : List Oper} {o : Oper} {a : Act} {Q : Exit → Act → World → Prop} (hgd : o.guard = none) (s x : Operand) (t : TypeId)
    (ho : o.op = .call { callee := .builtin .append, args := #[s, x], argTypes := #[t, t] })
    {base : Nat} {e : TypeId} {size bytes : Nat} (S : SliceOf P t e size bytes) (hsz : 0 < size)
    (v : Value) (n : Nat) (xs : List Value) (hs : a.eval s = v) (hown : w.ownsRow base e size v n xs)
    (A : Option Addr) (m c : Nat) (news : List Value) (hx : a.eval x = .slice A m c) (hr : Rd w size A m news) (h1 : ∀ u ∈ news, u.oneCell' = true)
    (hbytes : (n + m) * bytes ≤ 140737488355328) (h63 : n + m ≤ maxLen) (hbase : base ≤ w.heap.size)
    (h : ∀ v' w', w'.ownsRow base e size v' (n + m) (xs ++ news) → w.grownBy w' v.ownBlock → (v'.ownBlock = v.ownBlock ∨ v'.ownBlock = some w.heap.size) → wpList P ops Q rest (a.put o.dst v') w') :
    wpList P ops Q (o :: rest) a w := by
  rcases A with _ | ad
  · have hm : m = 0 := by
      rcases Nat.eq_zero_or_pos m with h0 | h0
      · exact h0
      · obtain ⟨_, e, _⟩ := hr.2 h0
        cases e
    subst hm
    have hn : news = [] := List.eq_nil_of_length_eq_zero (by simpa using hr.1)
    subst hn
    have hrun := run_app_nil (P := P) w base t o.type e size bytes S v n xs hown c
    refine wpList_plain hgd fun K hK => ?_
    unfold Oper.wp execOp
    simp only [ho, resolve, invoke, builtin, Sem.run_bind, Sem.run_pure, Result.andThen_ok, List.map_toArray, List.map_cons, List.map_nil, hs, hx, hrun]
    exact hK _ _ (h v w (by simpa using hown) (World.grownBy.refl w _) (.inl rfl))
  · exact wpList_app hgd s x t ho S hsz v n xs hs hown ad m c news hx hr.1 hr.news h1 hbytes h63 hbase h

/-- make([]T, 0, n). -/
theorem wpList_mk {P : Program} {w : World} {ops : Array Oper} {rest : List Oper} {o : Oper} {a : Act} {Q : Exit → Act → World → Prop}
    (hg : o.guard = none) (l c : Operand) (t : TypeId) (hop : o.op = Op.makeSlice t l c)
    {base : Nat} {e : TypeId} {size bytes : Nat} (S : SliceOf P t e size bytes)
    {kl kc : IntKind} (C : Int) (n : Nat) (hl : a.eval l = .int kl 0) (hc : a.eval c = .int kc C) (hC : C = (n : Int)) (b2 : bytes * n ≤ 281474976710656) (b3 : n ≤ maxLen) (b4 : base ≤ w.heap.size)
    (hK : ∀ v' w', w'.ownsRow base e size v' 0 [] → w.grownBy w' none → wpList P ops Q rest (a.put o.dst v') w') :
    wpList P ops Q (o :: rest) a w := by
  obtain ⟨ht, i, z, hi, hz, hs1, hb1, hzs⟩ := S
  exact wpList_make_own w hg l c t hop base e i z size ht hi hz hs1 kl kc C n hl hc hC (by rw [hb1]; exact b2) b3 b4 (fun w' a1 a2 => hK _ w' a1 a2)

/-- make([]T, n), T of one cell. -/
theorem wpList_mkFull {P : Program} {w : World} {ops : Array Oper} {rest : List Oper} {o : Oper} {a : Act} {Q : Exit → Act → World → Prop}
    (hg : o.guard = none) (l c : Operand) (t : TypeId) (hop : o.op = Op.makeSlice t l c)
    {base : Nat} {e : TypeId} {bytes : Nat} {z : Value} (ht : P.underlying t = some (.slice e)) (hin : (P.info? e).map (fun i => (i.zero, i.size, i.bytes)) = some (some z, 1, bytes)) (hz : z.cells = #[z])
    {kl kc : IntKind} (L C : Int) (n : Nat) (hl : a.eval l = .int kl L) (hc : a.eval c = .int kc C) (hL : L = (n : Int)) (hC : C = (n : Int)) (b2 : bytes * n ≤ 281474976710656) (b3 : n ≤ maxLen) (b4 : base ≤ w.heap.size)
    (hK : ∀ w', w'.ownsRow base e 1 (.slice (some ⟨w.heap.size, 0, none⟩) n n) n (List.replicate n z) → w.grownBy w' none → wpList P ops Q rest (a.put o.dst (.slice (some ⟨w.heap.size, 0, none⟩) n n)) w') :
    wpList P ops Q (o :: rest) a w := by
  obtain ⟨i, h1, h2, h3, h4⟩ := info_parts hin
  refine wpList_make_full w hg l c t hop base e i z 1 ht h1 h2 h3 kl kc L C n hl hc hL hC (by rw [h4]; exact b2) b3 b4 (fun w' a1 a2 => hK w' ?_ a2)
  rw [hz, Nat.mul_one, toList_madeCells_one] at a1
  exact a1

theorem addNew (g j : Nat) : (⟨g, 0, none⟩ : Addr).add j = ⟨g, j, none⟩ := by
  unfold Addr.add
  split
  · rename_i h; subst h; rfl
  · simp
/-- The cells of a new block. -/
theorem cells_new (w : World) (cs : List Value) (t : TypeId) : ∀ j u, cs[j]? = some u → (w.alloc (.cells cs.toArray t)).cell? ((⟨w.heap.size, 0, none⟩ : Addr).add j) = some u := by
  intro j u hj
  rw [addNew, World.cell?_alloc_at _ _ _ _ rfl]
  simpa using hj

theorem Rd.new_ (w : World) (cs : List Value) (t : TypeId) : Rd (w.alloc (.cells cs.toArray t)) 1 (some ⟨w.heap.size, 0, none⟩) cs.length cs :=
  ⟨by simp, fun _ => ⟨_, rfl, by simp, cells_new w cs t⟩⟩
theorem cell_lt {w : World} {a : Addr} {v : Value} (h : w.cell? a = some v) : a.block < w.heap.size := by
  unfold World.cell? at h
  rcases Nat.lt_or_ge a.block w.heap.size with hlt | hge
  · exact hlt
  · rw [Array.getElem?_eq_none hge] at h; cases h
theorem cell_below {w w' : World} {a : Addr} {v : Value} (hb : Below w.heap.size w w') (h : w.cell? a = some v) : w'.cell? a = some v := (hb.cell (cell_lt h)).trans h
theorem below_self {w a b : World} (h : Below w.heap.size w a) (k : Below a.heap.size a b) : Below w.heap.size w b := h.trans (k.mono h.size)
theorem below_new (w : World) (o : Obj) : Below w.heap.size w (w.alloc o) := (Below.refl _ _).alloc (Nat.le_refl _) o
theorem below_drew {w a : World} (h : Below w.heap.size w a) (n : Nat) : Below w.heap.size w (a.drewN n) := ⟨h.os, h.tape, h.output, h.size, h.block⟩
theorem oneInt (k : IntKind) (x : Int) : ∀ u ∈ [Value.int k x], u.oneCell' = true := by
  intro u hu
  simp at hu
  subst hu
  rfl
theorem oneInt2 (k : IntKind) (x y : Int) : ∀ u ∈ [Value.int k x, .int k y], u.oneCell' = true := by
  intro u hu
  simp at hu
  rcases hu with rfl | rfl <;> rfl
theorem oneInts (k : IntKind) (xs : List Int) : ∀ u ∈ xs.map (Value.int k), u.oneCell' = true := by
  intro u hu
  simp at hu
  obtain ⟨x, _, rfl⟩ := hu
  rfl
/-- A row below which all stood is told of what it was of. -/
theorem ownBlock_slice (A : Option Addr) (n c k : Nat) (h : (Value.slice A n c).ownBlock = some k) : ∃ a, A = some a ∧ a.block = k := by
  rcases A with _ | a
  · cases h
  · exact ⟨a, rfl, by injection h⟩
theorem below_app {B : Nat} {w0 w w' : World} {e : TypeId} {size n : Nat} {v : Value} {xs : List Value} (h : Below B w0 w) (hg : w.grownBy w' v.ownBlock) (hown : w.ownsRow B e size v n xs) (hB : B ≤ w.heap.size) : Below B w0 w' :=
  h.grown hg hB (fun k hk => (hown.lt k hk).1)

theorem retB {a b : Bool} (h : a = true ↔ b = true) : Ending.returned (.bool a) = .returned (.bool b) := by rw [Bool.eq_iff_iff.2 h]
theorem retI {a b : Int} (h : a = b) : Ending.returned (.int .i64 a) = .returned (.int .i64 b) := by rw [h]
theorem drewBelow {w : World} (n : Nat) : Below w.heap.size w (w.drewN n) := ⟨rfl, rfl, rfl, Nat.le_refl _, fun _ _ => rfl⟩
theorem below_drewN {B : Nat} {a w : World} (h : Below B a w) (n : Nat) : Below B a (w.drewN n) := ⟨h.os, h.tape, h.output, h.size, h.block⟩
end Go.Proofs.Ytmgoakfnmgngoaa
/- Spans as data: what a span is, the cells of a slice of spans; no function of the program. -/
namespace Go.Proofs.Ytmgoakfnmgngoaa
open Go.RowKit

abbrev Sp := Int × Int
def rightB (s : Sp) : Bool := decide (0 ≤ s.1 ∧ s.1 < s.2)
def sizeS (s : Sp) : Int := if rightB s = true then s.2 - s.1 else 0
def hasB (s : Sp) (at_ : Int) : Bool := decide (s.1 ≤ at_ ∧ at_ < s.2)
def encS (s : Sp) : List Value := [.int .i64 s.1, .int .i64 s.2]
def cellsS (l : List Sp) : List Value := l.flatMap encS
def valS (s : Sp) : Value := .agg #[.int .i64 s.1, .int .i64 s.2]
def Fit (x : Int) : Prop := -9223372036854775808 ≤ x ∧ x ≤ 9223372036854775807

theorem cellsS_len (l : List Sp) : (cellsS l).length = l.length * 2 := by
  induction l with
  | nil => rfl
  | cons s l ih =>
    show (encS s ++ cellsS l).length = _
    rw [List.length_append, ih, List.length_cons]
    simp only [encS, List.length_cons, List.length_nil]
    omega
theorem cellsS_at {l : List Sp} {k : Nat} {s : Sp} (h : l[k]? = some s) : (cellsS l)[k * 2]? = some (.int .i64 s.1) ∧ (cellsS l)[k * 2 + 1]? = some (.int .i64 s.2) := by
  induction l generalizing k with
  | nil => simp at h
  | cons t l ih =>
    have hc : cellsS (t :: l) = .int .i64 t.1 :: .int .i64 t.2 :: cellsS l := rfl
    cases k with
    | zero =>
      simp at h
      subst h
      exact ⟨rfl, rfl⟩
    | succ k =>
      have := ih (k := k) (by simpa using h)
      rw [hc]
      have e1 : (k + 1) * 2 = k * 2 + 1 + 1 := by omega
      have e2 : (k + 1) * 2 + 1 = (k * 2 + 1) + 1 + 1 := by omega
      rw [e2, e1]
      simpa using this

theorem addNext (a : Addr) (j i : Nat) : a.add (j + (i + 1)) = ⟨(a.add j).block, (a.add j).off + (i + 1), none⟩ := by
  unfold Addr.add
  by_cases hj : j = 0
  · subst hj; simp
  · simp [hj]; omega
/-- The two cells of a span in a slice, as the walk spells them. -/
theorem Rd.span {w : World} {A : Option Addr} {n k : Nat} {l : List Sp} {s : Sp} (hr : Rd w 2 A n (cellsS l)) (h : l[k]? = some s) : ∃ ad, A = some ad ∧ ad.block < w.heap.size ∧ w.cell? (ad.add (k * 2)) = some (.int .i64 s.1) ∧ w.cell? ⟨(ad.add (k * 2)).block, (ad.add (k * 2)).off + 1, none⟩ = some (.int .i64 s.2) := by
  have hlen : l.length * 2 = n * 2 := by rw [← cellsS_len]; exact hr.1
  have hk := (List.getElem?_eq_some_iff.1 h).1
  obtain ⟨ad, rfl, hb, hc⟩ := hr.2 (by omega)
  obtain ⟨e1, e2⟩ := cellsS_at h
  refine ⟨ad, rfl, hb, hc _ _ e1, ?_⟩
  have := hc _ _ e2
  rwa [addNext ad (k * 2) 0] at this

end Go.Proofs.Ytmgoakfnmgngoaa
/- Whether spans are parts, as plain mathematics. -/
namespace Go.Proofs.Ytmgoakfnmgngoaa
open Go.RowKit
/-- Whether spans are parts from 'end_' on to n. -/
def partsFrom : Int → List Sp → Int → Bool
  | e, [], n => e == n
  | e, s :: l, n => rightB s && (s.1 == e) && partsFrom s.2 l n
def partsS (l : List Sp) (n : Int) : Bool := partsFrom 0 l n
theorem partsFrom_no {e n : Int} {l : List Sp} {s : Sp} (h : rightB s = false ∨ (s.1 == e) = false) : partsFrom e (s :: l) n = false := by
  unfold partsFrom
  rcases h with h | h <;> simp [h]
theorem partsFrom_yes {e n : Int} {l : List Sp} {s : Sp} (h : rightB s = true) (h' : (s.1 == e) = true) : partsFrom e (s :: l) n = partsFrom s.2 l n := by
  show (rightB s && (s.1 == e) && partsFrom s.2 l n) = _
  rw [h, h']; rfl
theorem dropCons {α : Type} {l : List α} {k : Nat} {x : α} (h : l[k]? = some x) : l.drop k = x :: l.drop (k + 1) := by
  obtain ⟨hk, rfl⟩ := List.getElem?_eq_some_iff.1 h
  exact List.drop_eq_getElem_cons hk
end Go.Proofs.Ytmgoakfnmgngoaa
/- A block of one span, known whole, and what becomes of it. -/
namespace Go.Proofs.Ytmgoakfnmgngoaa
open Go.RowKit

/-- A block of one span, known whole, that may be written. -/
def SpanBlk (w : World) (b : Nat) (s : Sp) : Prop := w.cell? ⟨b, 0, none⟩ = some (.int .i64 s.1) ∧ w.cell? ⟨b, 1, none⟩ = some (.int .i64 s.2) ∧ w.frozen? ⟨b, 0, none⟩ = false ∧ w.frozen? ⟨b, 1, none⟩ = false

theorem SpanBlk.below {w w' : World} {b : Nat} {s : Sp} (h : SpanBlk w b s) (hb : Below w.heap.size w w') : SpanBlk w' b s :=
  ⟨cell_below hb h.1, cell_below hb h.2.1, (hb.frozen (cell_lt h.1)).trans h.2.2.1, (hb.frozen (cell_lt h.2.1)).trans h.2.2.2⟩
theorem SpanBlk.put {w : World} {b : Nat} {s : Sp} (h : SpanBlk w b s) (x y : Int) : SpanBlk ((w.setCell ⟨b, 0, none⟩ (.int .i64 x)).setCell ⟨b, 1, none⟩ (.int .i64 y)) b (x, y) := by
  obtain ⟨h0, h1, h2, h3⟩ := h
  have e1 : (w.setCell ⟨b, 0, none⟩ (.int .i64 x)).cell? ⟨b, 1, none⟩ = some (.int .i64 s.2) := (World.cell?_setCell_other (h := by simp) ..).trans h1
  refine ⟨?_, World.cell?_setCell_same (h := e1) .., ?_, ?_⟩
  · exact (World.cell?_setCell_other (h := by simp) ..).trans (World.cell?_setCell_same (h := h0) ..)
  · rw [World.frozen?_setCell, World.frozen?_setCell]; exact h2
  · rw [World.frozen?_setCell, World.frozen?_setCell]; exact h3
theorem SpanBlk.far {w : World} {b b' : Nat} {s : Sp} (h : SpanBlk w b s) (hne : b ≠ b') (u v : Value) : SpanBlk ((w.setCell ⟨b', 0, none⟩ u).setCell ⟨b', 1, none⟩ v) b s := by
  obtain ⟨h0, h1, h2, h3⟩ := h
  refine ⟨?_, ?_, ?_, ?_⟩
  · exact (World.cell?_setCell_other (h := by first | (simp; done) | (simp; omega)) ..).trans ((World.cell?_setCell_other (h := by first | (simp; done) | (simp; omega)) ..).trans h0)
  · exact (World.cell?_setCell_other (h := by first | (simp; done) | (simp; omega)) ..).trans ((World.cell?_setCell_other (h := by first | (simp; done) | (simp; omega)) ..).trans h1)
  · rw [World.frozen?_setCell, World.frozen?_setCell]; exact h2
  · rw [World.frozen?_setCell, World.frozen?_setCell]; exact h3

theorem only_setCell {a w : World} {g : Nat} (h : a.grownBy w (some g)) {p : Addr} (hp : p.block = g ∨ a.heap.size ≤ p.block) (u : Value) : a.grownBy (w.setCell p u) (some g) :=
  ⟨h.os, h.tape, h.output, by simpa [World.setCell] using h.size, fun i hi hne => (Below.heap_setCell w p u i (by
    rintro rfl
    rcases hp with hp | hp
    · exact hne (by rw [hp])
    · omega)).trans (h.block i hi hne)⟩
theorem SpanBlk.grown {w w' : World} {b : Nat} {s : Sp} {row : Option Nat} (h : SpanBlk w b s) (hg : w.grownBy w' row) (hne : row ≠ some b) : SpanBlk w' b s := by
  obtain ⟨h0, h1, h2, h3⟩ := h
  have hb := cell_lt h0
  have e := hg.block b hb (fun e => hne e.symm)
  have ec : ∀ i, w'.cell? ⟨b, i, none⟩ = w.cell? ⟨b, i, none⟩ := fun i => World.cell?_of_block (a := ⟨b, i, none⟩) e
  have ef : ∀ i, w'.frozen? ⟨b, i, none⟩ = w.frozen? ⟨b, i, none⟩ := fun i => by unfold World.frozen?; rw [e]
  exact ⟨(ec 0).trans h0, (ec 1).trans h1, (ef 0).trans h2, (ef 1).trans h3⟩
theorem SpanBlk.put0 {w : World} {b : Nat} {s : Sp} (h : SpanBlk w b s) (x : Int) : SpanBlk (w.setCell ⟨b, 0, none⟩ (.int .i64 x)) b (x, s.2) := by
  obtain ⟨h0, h1, h2, h3⟩ := h
  refine ⟨World.cell?_setCell_same (h := h0) .., (World.cell?_setCell_other (h := by simp) ..).trans h1, ?_, ?_⟩
  · rw [World.frozen?_setCell]; exact h2
  · rw [World.frozen?_setCell]; exact h3
theorem own_set_far {w : World} {base : Nat} {e : TypeId} {size n b i : Nat} {v u : Value} {xs : List Value} (h : w.ownsRow base e size v n xs) (hne : v.ownBlock ≠ some b) : (w.setCell ⟨b, i, none⟩ u).ownsRow base e size v n xs :=
  h.kept (row := some b) (only_setCell (World.grownBy.refl w _) (.inl rfl) u) (.inr hne)
theorem below_make {w w' : World} (hg : w.grownBy w' none) : Below w.heap.size w w' := (Below.refl _ _).grown hg (Nat.le_refl _) (fun k hk => by cases hk)
theorem SpanBlk.new_ (w : World) (x y : Int) (t : TypeId) : SpanBlk (w.alloc (.cells #[.int .i64 x, .int .i64 y] t)) w.heap.size (x, y) := by
  refine ⟨?_, ?_, ?_, ?_⟩ <;> simp [go_sem]

end Go.Proofs.Ytmgoakfnmgngoaa
/- Clusters as data: the cells of a slice of clusters. -/
namespace Go.Proofs.Ytmgoakfnmgngoaa
open Go.RowKit

/-- A cluster: In, Out. -/
abbrev Cl := Sp × Sp
def encC (c : Cl) : List Value := [.int .i64 c.1.1, .int .i64 c.1.2, .int .i64 c.2.1, .int .i64 c.2.2]
def cellsC (l : List Cl) : List Value := l.flatMap encC
theorem cellsC_snoc (l : List Cl) (c : Cl) : cellsC (l ++ [c]) = cellsC l ++ [.int .i64 c.1.1, .int .i64 c.1.2, .int .i64 c.2.1, .int .i64 c.2.2] := by simp [cellsC, encC]
theorem cellsC_len (l : List Cl) : (cellsC l).length = l.length * 4 := by
  induction l with
  | nil => rfl
  | cons s l ih =>
    show (encC s ++ cellsC l).length = _
    rw [List.length_append, ih, List.length_cons]
    simp only [encC, List.length_cons, List.length_nil]
    omega
theorem cellsC_at {l : List Cl} {k : Nat} {s : Cl} (h : l[k]? = some s) : (cellsC l)[k * 4]? = some (.int .i64 s.1.1) ∧ (cellsC l)[k * 4 + 1]? = some (.int .i64 s.1.2) ∧ (cellsC l)[k * 4 + 2]? = some (.int .i64 s.2.1) ∧ (cellsC l)[k * 4 + 3]? = some (.int .i64 s.2.2) := by
  induction l generalizing k with
  | nil => simp at h
  | cons t l ih =>
    have hc : cellsC (t :: l) = .int .i64 t.1.1 :: .int .i64 t.1.2 :: .int .i64 t.2.1 :: .int .i64 t.2.2 :: cellsC l := rfl
    cases k with
    | zero =>
      simp at h
      subst h
      exact ⟨rfl, rfl, rfl, rfl⟩
    | succ k =>
      have := ih (k := k) (by simpa using h)
      rw [hc]
      have e0 : (k + 1) * 4 = k * 4 + 1 + 1 + 1 + 1 := by omega
      have e1 : (k + 1) * 4 + 1 = (k * 4 + 1) + 1 + 1 + 1 + 1 := by omega
      have e2 : (k + 1) * 4 + 2 = (k * 4 + 2) + 1 + 1 + 1 + 1 := by omega
      have e3 : (k + 1) * 4 + 3 = (k * 4 + 3) + 1 + 1 + 1 + 1 := by omega
      rw [e3, e2, e1, e0]
      simpa using this
/-- The four cells of a cluster in a slice, as the walk spells them. -/
theorem Rd.clus {w : World} {A : Option Addr} {n k : Nat} {l : List Cl} {s : Cl} (hr : Rd w 4 A n (cellsC l)) (h : l[k]? = some s) : ∃ ad, A = some ad ∧ ad.block < w.heap.size ∧ w.cell? (ad.add (k * 4)) = some (.int .i64 s.1.1) ∧
    w.cell? ⟨(ad.add (k * 4)).block, (ad.add (k * 4)).off + 1, none⟩ = some (.int .i64 s.1.2) ∧ w.cell? ⟨(ad.add (k * 4)).block, (ad.add (k * 4)).off + 2, none⟩ = some (.int .i64 s.2.1) ∧ w.cell? ⟨(ad.add (k * 4)).block, (ad.add (k * 4)).off + 3, none⟩ = some (.int .i64 s.2.2) := by
  have hlen : l.length * 4 = n * 4 := by rw [← cellsC_len]; exact hr.1
  have hk := (List.getElem?_eq_some_iff.1 h).1
  obtain ⟨ad, rfl, hb, hc⟩ := hr.2 (by omega)
  obtain ⟨e0, e1, e2, e3⟩ := cellsC_at h
  have h1 := hc _ _ e1
  have h2 := hc _ _ e2
  have h3 := hc _ _ e3
  rw [addNext ad (k * 4) 0] at h1
  rw [addNext ad (k * 4) 1] at h2
  rw [addNext ad (k * 4) 2] at h3
  exact ⟨ad, rfl, hb, hc _ _ e0, h1, h2, h3⟩
theorem oneInt4 (k : IntKind) (a b c d : Int) : ∀ u ∈ [Value.int k a, .int k b, .int k c, .int k d], u.oneCell' = true := by
  intro u hu
  simp at hu
  rcases hu with rfl | rfl | rfl | rfl <;> rfl
theorem clusSlice : SliceOf Try.prog 22 33 4 32 := .mk_ (z := .agg #[.int .i64 0, .int .i64 0, .int .i64 0, .int .i64 0]) Try.underlying22 (by kernel_rfl) rfl


theorem clusInfo : (Try.prog.info? 33).map (fun i => (i.zero, i.size, i.bytes)) = some (some (.agg #[.int .i64 0, .int .i64 0, .int .i64 0, .int .i64 0]), 4, 32) := by kernel_rfl
/-- A row of clusters while its first k elements are filled. -/
def fillC (l : List Cl) (k : Nat) : List Value := cellsC (l.take k) ++ List.replicate ((l.length - k) * 4) (.int .i64 0)
theorem fillC_start (l : List Cl) : fillC l 0 = List.replicate (l.length * 4) (.int .i64 0) := by simp [fillC, cellsC]
theorem fillC_end (l : List Cl) : fillC l l.length = cellsC l := by simp [fillC]
theorem fillC_step {l : List Cl} {k : Nat} {s : Cl} (h : l[k]? = some s) : ((((fillC l k).set (k * 4) (.int .i64 s.1.1)).set (k * 4 + 1) (.int .i64 s.1.2)).set (k * 4 + 2) (.int .i64 s.2.1)).set (k * 4 + 3) (.int .i64 s.2.2) = fillC l (k + 1) := by
  have hlt := (List.getElem?_eq_some_iff.1 h).1
  have hc : (cellsC (l.take k)).length = k * 4 := by rw [cellsC_len, List.length_take]; omega
  have hs : cellsC (l.take (k + 1)) = cellsC (l.take k) ++ [.int .i64 s.1.1, .int .i64 s.1.2, .int .i64 s.2.1, .int .i64 s.2.2] := by rw [List.take_add_one, h]; simp [cellsC, encC]
  unfold fillC
  obtain ⟨m, hm⟩ : ∃ m, l.length - k = m + 1 := ⟨l.length - k - 1, by omega⟩
  have hm2 : l.length - (k + 1) = m := by omega
  rw [hm, hm2, hs, show (m + 1) * 4 = m * 4 + 1 + 1 + 1 + 1 by omega, List.replicate_succ, List.replicate_succ, List.replicate_succ, List.replicate_succ,
    List.set_append_right _ _ (by omega), hc, Nat.sub_self, List.set_cons_zero, List.set_append_right _ _ (by omega), hc, show k * 4 + 1 - k * 4 = 1 by omega, List.set_append_right _ _ (by omega), hc, show k * 4 + 2 - k * 4 = 2 by omega, List.set_append_right _ _ (by omega), hc, show k * 4 + 3 - k * 4 = 3 by omega]
  simp
end Go.Proofs.Ytmgoakfnmgngoaa
/- Clusters: cells of a slice of clusters; the reference's Identity, and where clusters end on either side. -/
namespace Go.Proofs.Ytmgoakfnmgngoaa
open Go.RowKit

def identS (n : Nat) : List Cl := (List.range n).map fun i : Nat => (((i : Int), (i : Int) + 1), ((i : Int), (i : Int) + 1))
theorem identS_succ (k : Nat) : identS (k + 1) = identS k ++ [(((k : Int), (k : Int) + 1), ((k : Int), (k : Int) + 1))] := by simp [identS, List.range_succ]
theorem identS_len (k : Nat) : (identS k).length = k := by simp [identS]

set_option maxRecDepth 100000 in
set_option maxHeartbeats 2000000 in
theorem refIdentity_any (m : Int) (w : World) (hm : m ≤ 1000000) :
    Calls Try.prog 24 #[.int .i64 m] w fun e w' => ∃ v, e = .returned v ∧ w'.ownsRow w.heap.size 33 4 v m.toNat (cellsC (identS m.toNat)) ∧ Below w.heap.size w w' := by
  go_enter Try.func24, Try.ntmps24
  go_wp2
  go_loopw [3, 4] (fun v i wr => ∃ k : Nat, k ≤ m.toNat ∧ i = .int .i64 k ∧ wr.ownsRow w.heap.size 33 4 v k (cellsC (identS k)) ∧ Below w.heap.size w wr) (fun _ i _ => (m - intOf i).toNat)
  case atStart => exact ⟨0, Nat.zero_le _, rfl, ⟨rfl, .inl ⟨rfl, rfl⟩⟩, Below.refl _ _⟩
  case round =>
    obtain ⟨k, hk, rfl, hown, hb⟩ := hrel
    have HS := Lib.hid (show cellsC (identS (k + 1)) = cellsC (identS k) ++ [.int .i64 (k : Int), .int .i64 ((k : Int) + 1), .int .i64 (k : Int), .int .i64 ((k : Int) + 1)] by rw [identS_succ, cellsC_snoc])
    by_cases hlt : (k : Int) < m
    · have hnw := cells_new (wr.alloc (.cells #[.int .i64 (k : Int), .int .i64 ((k : Int) + 1)] 31)) [.int .i64 (k : Int), .int .i64 ((k : Int) + 1), .int .i64 (k : Int), .int .i64 ((k : Int) + 1)] 33
      rw [World.size_alloc] at hnw
      have HW := Lib.hid hnw
      have hown' := (hown.alloc (.cells #[.int .i64 (k : Int), .int .i64 ((k : Int) + 1)] 31)).alloc (.cells #[.int .i64 (k : Int), .int .i64 ((k : Int) + 1), .int .i64 (k : Int), .int .i64 ((k : Int) + 1)] 33)
      clear hnw
      have hb2 := (hb.alloc hb.size (.cells #[.int .i64 (k : Int), .int .i64 ((k : Int) + 1)] 31)).alloc (Nat.le_trans hb.size (by simp)) (.cells #[.int .i64 (k : Int), .int .i64 ((k : Int) + 1), .int .i64 (k : Int), .int .i64 ((k : Int) + 1)] 33)
      go_wp2_with (at_builtin; refine wpList_app rfl _ _ _ rfl clusSlice (by decide) u3 k _ rfl hown' ⟨wr.heap.size + 1, 0, none⟩ 1 1 _ rfl rfl HW.out (oneInt4 _ _ _ _ _) (by omega) (by unfold maxLen; omega) hb2.size ?_; intro v1 w1 hown1 hg1 hat1)
      have hgr := below_app hb2 hg1 hown' hb2.size
      go_roundw
      case rel => exact ⟨k + 1, by omega, by go_num, by rw [HS.out]; exact hown1, hgr⟩
      case measure => simp [intOf]; omega
    · have HK := Lib.hid (show k = m.toNat by omega)
      go_wp2
      go_ret
      exact ⟨u3, rfl, by rw [← HK.out]; exact hown, hb⟩

def insStep (n : Int) (c : Cl) : Int := if n < c.1.2 then c.1.2 else n
def insS (l : List Cl) : Int := l.foldl insStep 0
set_option maxRecDepth 100000 in
set_option maxHeartbeats 1000000 in
theorem ref_ins_any (A : Option Addr) (n c : Nat) (l : List Cl) (w : World) (hr : Rd w 4 A n (cellsC l)) (hn : n ≤ maxLen) :
    Calls Try.prog 58 #[.slice A n c] w fun e w' => e = .returned (.int .i64 (insS l)) ∧ w' = w := by
  have hlen : l.length = n := by have := hr.1; rw [cellsC_len] at this; omega
  have HL := Lib.hid hlen
  clear hlen
  unfold maxLen at hn
  go_enter Try.func58, Try.ntmps58
  go_wp2
  go_loop [3, 4] (fun x i => ∃ (k : Nat) (y : Int), k ≤ n ∧ i = .int .i64 k ∧ x = .int .i64 y ∧ insS l = (l.drop k).foldl insStep y) (fun _ i => n - (intOf i).toNat)
  case atStart => exact ⟨0, 0, Nat.zero_le _, rfl, rfl, rfl⟩
  case round =>
    obtain ⟨k, y, hk, rfl, rfl, hh⟩ := hrel
    have HH := Lib.hid hh
    clear hh
    by_cases hlt : k < n
    · obtain ⟨s, hsk⟩ : ∃ s, l[k]? = some s := ⟨_, List.getElem?_eq_getElem (by rw [HL.out]; exact hlt)⟩
      have HD := Lib.hid (dropCons hsk)
      obtain ⟨ad, rfl, hab, c1, c2, c3, c4⟩ := hr.clus hsk
      clear hsk
      obtain ⟨⟨s1, s2⟩, s3, s4⟩ := s
      simp only at c1 c2 c3 c4
      go_wp2
      all_goals
        go_round
        case rel => exact ⟨k + 1, insStep y ((s1, s2), (s3, s4)), by omega, by go_num, by first | rfl | (simp only [insStep]; first | rw [if_pos ‹_›] | rw [if_neg ‹_›] | rw [if_neg (by omega)]), by rw [HH.out, HD.out]; rfl⟩
        case measure => simp [intOf]; omega
    · have HZ := Lib.hid (show insS l = y by rw [HH.out, List.drop_eq_nil_of_le (by rw [HL.out]; omega)]; rfl)
      go_wp2
      go_ret
      exact ⟨retI HZ.out.symm, rfl⟩

def outsStep (n : Int) (c : Cl) : Int := if n < c.2.2 then c.2.2 else n
def outsS (l : List Cl) : Int := l.foldl outsStep 0
set_option maxRecDepth 100000 in
set_option maxHeartbeats 1000000 in
theorem ref_outs_any (A : Option Addr) (n c : Nat) (l : List Cl) (w : World) (hr : Rd w 4 A n (cellsC l)) (hn : n ≤ maxLen) :
    Calls Try.prog 59 #[.slice A n c] w fun e w' => e = .returned (.int .i64 (outsS l)) ∧ w' = w := by
  have hlen : l.length = n := by have := hr.1; rw [cellsC_len] at this; omega
  have HL := Lib.hid hlen
  clear hlen
  unfold maxLen at hn
  go_enter Try.func59, Try.ntmps59
  go_wp2
  go_loop [3, 4] (fun x i => ∃ (k : Nat) (y : Int), k ≤ n ∧ i = .int .i64 k ∧ x = .int .i64 y ∧ outsS l = (l.drop k).foldl outsStep y) (fun _ i => n - (intOf i).toNat)
  case atStart => exact ⟨0, 0, Nat.zero_le _, rfl, rfl, rfl⟩
  case round =>
    obtain ⟨k, y, hk, rfl, rfl, hh⟩ := hrel
    have HH := Lib.hid hh
    clear hh
    by_cases hlt : k < n
    · obtain ⟨s, hsk⟩ : ∃ s, l[k]? = some s := ⟨_, List.getElem?_eq_getElem (by rw [HL.out]; exact hlt)⟩
      have HD := Lib.hid (dropCons hsk)
      obtain ⟨ad, rfl, hab, c1, c2, c3, c4⟩ := hr.clus hsk
      clear hsk
      obtain ⟨⟨s1, s2⟩, s3, s4⟩ := s
      simp only at c1 c2 c3 c4
      go_wp2
      all_goals
        go_round
        case rel => exact ⟨k + 1, outsStep y ((s1, s2), (s3, s4)), by omega, by go_num, by first | rfl | (simp only [outsStep]; first | rw [if_pos ‹_›] | rw [if_neg ‹_›] | rw [if_neg (by omega)]), by rw [HH.out, HD.out]; rfl⟩
        case measure => simp [intOf]; omega
    · have HZ := Lib.hid (show outsS l = y by rw [HH.out, List.drop_eq_nil_of_le (by rw [HL.out]; omega)]; rfl)
      go_wp2
      go_ret
      exact ⟨retI HZ.out.symm, rfl⟩
end Go.Proofs.Ytmgoakfnmgngoaa
/- More words for memory: make with a length and a capacity; values in an aggregate. -/
namespace Go.Proofs.Ytmgoakfnmgngoaa
open Go.RowKit

/-- make([]T, l, c), T of one cell. -/
theorem wpList_mkN {P : Program} {w : World} {ops : Array Oper} {rest : List Oper} {o : Oper} {a : Act} {Q : Exit → Act → World → Prop}
    (hg : o.guard = none) (lo co : Operand) (t : TypeId) (hop : o.op = Op.makeSlice t lo co)
    {base : Nat} {e : TypeId} {bytes : Nat} {z : Value} (ht : P.underlying t = some (.slice e)) (hin : (P.info? e).map (fun i => (i.zero, i.size, i.bytes)) = some (some z, 1, bytes)) (hz : z.cells = #[z])
    {kl kc : IntKind} (L C : Int) (l c : Nat) (hl : a.eval lo = .int kl L) (hc : a.eval co = .int kc C) (hL : L = (l : Int)) (hC : C = (c : Int)) (hlc : l ≤ c) (b2 : bytes * c ≤ 281474976710656) (b3 : c ≤ maxLen) (b4 : base ≤ w.heap.size)
    (hK : ∀ w', w'.ownsRow base e 1 (.slice (some ⟨w.heap.size, 0, none⟩) l c) l (List.replicate l z) → w.grownBy w' none → wpList P ops Q rest (a.put o.dst (.slice (some ⟨w.heap.size, 0, none⟩) l c)) w') :
    wpList P ops Q (o :: rest) a w := by
  obtain ⟨i, h1, h2, h3, h4⟩ := info_parts hin
  subst hL hC
  have h63 : ((c : Nat) : Int) ≤ 9223372036854775807 := by unfold maxLen at b3; omega
  have hb' : (i.bytes : Int) * (c : Int) ≤ 281474976710656 := by
    have h : ((i.bytes * c : Nat) : Int) ≤ 281474976710656 := by rw [h4]; omega
    rwa [Int.natCast_mul] at h
  have hr := run_make (P := P) w t e i z ht h1 h2 kl kc l c (by omega) (by omega) hb' h63
  simp only [Int.toNat_natCast, h3, Nat.mul_one, hz] at hr
  have hown : (w.alloc (.cells (madeCells #[z] c) e)).ownsRow base e 1 (.slice (some ⟨w.heap.size, 0, none⟩) l c) l (List.replicate l z) := by
    refine ⟨by simp, .inr ⟨w.heap.size, c, madeCells #[z] c, rfl, b4, heap_alloc_new w _, hlc, b3, by rw [size_madeCells]; omega, ?_⟩⟩
    rw [toList_madeCells_one, Nat.mul_one, List.take_replicate]
    congr 1
    omega
  refine wpList_plain hg fun K hK' => ?_
  unfold Oper.wp
  simp [execOp, hop, hl, hc, hr, Result.andThen]
  exact hK' _ _ (hK _ hown (World.grownBy_alloc w _ none))

/-- A row of the call's own with at least one element: where it lies. -/
theorem own_at {w : World} {base : Nat} {e : TypeId} {v : Value} {n : Nat} {xs : List Value} (h : w.ownsRow base e 1 v n xs) (hn : 0 < n) :
    ∃ g c, v = .slice (some ⟨g, 0, none⟩) n c ∧ n ≤ c ∧ g < w.heap.size ∧ base ≤ g ∧ ∀ j u, xs[j]? = some u → w.cell? ⟨g, j, none⟩ = some u := by
  obtain ⟨g, c, hv, hbg, hlt⟩ := h.form hn
  obtain ⟨_, _, e, hnc⟩ := own_form h
  subst hv
  injection e with _ _ e
  subst e
  refine ⟨g, c, rfl, hnc, hlt, hbg, fun j u hj => ?_⟩
  have := h.cells (g := g) rfl j u hj
  rwa [addNew] at this
/-- What is owned from a later block on is owned from an earlier one on. -/
theorem own_base {w : World} {base b' : Nat} {e : TypeId} {size : Nat} {v : Value} {n : Nat} {xs : List Value} (h : w.ownsRow base e size v n xs) (hb : b' ≤ base) : w.ownsRow b' e size v n xs := by
  obtain ⟨h1, h2⟩ := h
  refine ⟨h1, ?_⟩
  rcases h2 with h2 | ⟨g, cap, cur, hv, hg, r⟩
  · exact .inl h2
  · exact .inr ⟨g, cap, cur, hv, Nat.le_trans hb hg, r⟩
/-- A block of the call's own that no row is, behind an append or a make. -/
theorem blk_grown {w w' : World} {b : Nat} {o : Obj} {row : Option Nat} (h : w.heap[b]? = some o) (hg : w.grownBy w' row) (hne : row ≠ some b) : w'.heap[b]? = some o :=
  (hg.block b (by
    rcases Nat.lt_or_ge b w.heap.size with h' | h'
    · exact h'
    · simp [Array.getElem?_eq_none h'] at h) (fun e => hne e.symm)).trans h
theorem blk_alloc {w : World} {b : Nat} {o : Obj} (h : w.heap[b]? = some o) (o' : Obj) : (w.alloc o').heap[b]? = some o :=
  blk_grown h (World.grownBy_alloc w _ none) (by simp)
/-- A callee that leaves the world alone, inside a quiet region. -/
theorem quiet_eq {P : Program} {f : FuncId} {args : Array Value} {w : World} {n : Nat} {v : Value}
    (h : Calls P f args (w.drewN n) fun e w' => e = .returned v ∧ w.drewN n = w') : Calls P f args (w.drewN n) fun e w'' => e = .returned v ∧ ∃ m, w'' = w.drewN m :=
  Calls.quiet_of_same (h.mono fun _ _ ⟨a, b⟩ => ⟨a, b.symm⟩)
theorem toList_madeSame (z : Array Value) (z0 : Value) (h0 : 0 < z.size) (hz : ∀ j, j < z.size → z[j]! = z0) (n : Nat) : (madeCells z n).toList = List.replicate n z0 := by
  rw [List.eq_replicate_iff]
  refine ⟨by simp [madeCells], fun b hb => ?_⟩
  simp only [madeCells, Array.toList_map, List.mem_map] at hb
  obtain ⟨j, _, rfl⟩ := hb
  exact hz _ (Nat.mod_lt _ h0)
/-- make([]T, n), T a struct whose cells are all the same at zero. -/
theorem wpList_mkZ {P : Program} {w : World} {ops : Array Oper} {rest : List Oper} {o : Oper} {a : Act} {Q : Exit → Act → World → Prop}
    (hg : o.guard = none) (l c : Operand) (t : TypeId) (hop : o.op = Op.makeSlice t l c)
    {base : Nat} {e : TypeId} {size bytes : Nat} {z z0 : Value} (ht : P.underlying t = some (.slice e)) (hin : (P.info? e).map (fun i => (i.zero, i.size, i.bytes)) = some (some z, size, bytes)) (h0 : 0 < z.cells.size) (hz : ∀ j, j < z.cells.size → z.cells[j]! = z0)
    {kl kc : IntKind} (L C : Int) (n : Nat) (hl : a.eval l = .int kl L) (hc : a.eval c = .int kc C) (hL : L = (n : Int)) (hC : C = (n : Int)) (b2 : bytes * n ≤ 281474976710656) (b3 : n ≤ maxLen) (b4 : base ≤ w.heap.size)
    (hK : ∀ w', w'.ownsRow base e size (.slice (some ⟨w.heap.size, 0, none⟩) n n) n (List.replicate (n * size) z0) → w.grownBy w' none → wpList P ops Q rest (a.put o.dst (.slice (some ⟨w.heap.size, 0, none⟩) n n)) w') :
    wpList P ops Q (o :: rest) a w := by
  obtain ⟨i, h1, h2, h3, h4⟩ := info_parts hin
  refine wpList_make_full w hg l c t hop base e i z size ht h1 h2 h3 kl kc L C n hl hc hL hC (by rw [h4]; exact b2) b3 b4 (fun w' a1 a2 => hK w' ?_ a2)
  rwa [toList_madeSame _ z0 h0 hz] at a1
/-- Two cells next to each other, stored into a row of the call's own. -/
theorem own_store2 {w : World} {base : Nat} {e : TypeId} {size g n cap : Nat} {xs : List Value} (h : w.ownsRow base e size (.slice (some ⟨g, 0, none⟩) n cap) n xs) (j : Nat) (u v : Value) :
    ((w.setCell ⟨g, j, none⟩ u).setCell ⟨g, j + 1, none⟩ v).ownsRow base e size (.slice (some ⟨g, 0, none⟩) n cap) n ((xs.set j u).set (j + 1) v) :=
  ((h.stored j u).1.stored (j + 1) v).1
/-- A cell of a row of the call's own is there and may be written. -/
theorem own_slot {w : World} {base : Nat} {e : TypeId} {size g n cap : Nat} {xs : List Value} (h : w.ownsRow base e size (.slice (some ⟨g, 0, none⟩) n cap) n xs) {j : Nat} (hj : j < n * size) :
    (∃ u, w.cell? ⟨g, j, none⟩ = some u) ∧ w.frozen? ⟨g, j, none⟩ = false :=
  ⟨⟨xs[j]'(by rw [h.1]; exact hj), by rw [h.cellAt j hj, List.getElem?_eq_getElem]⟩, h.frozenAt j⟩
end Go.Proofs.Ytmgoakfnmgngoaa
/- append of whatever reads as cells onto a row of the call's own, at a step of a region that draws its order. -/
namespace Go.Proofs.Ytmgoakfnmgngoaa
open Go.RowKit

theorem run_appR {P : Program} (w : World) (t ty : TypeId) {base : Nat} {e : TypeId} {size bytes : Nat} (S : SliceOf P t e size bytes) (hsz : 0 < size)
    (v : Value) (n : Nat) (xs : List Value) (hown : w.ownsRow base e size v n xs)
    (A : Option Addr) (m c : Nat) (news : List Value) (hr : Rd w size A m news) (h1 : ∀ u ∈ news, u.oneCell' = true)
    (hbytes : (n + m) * bytes ≤ 140737488355328) (h63 : n + m ≤ maxLen) (hbase : base ≤ w.heap.size) :
    ∃ v' w', (Builtin.append_ #[t, t] ty #[v, .slice A m c]).run P w = .ok v' w' ∧ w'.ownsRow base e size v' (n + m) (xs ++ news) ∧ w.grownBy w' v.ownBlock ∧ (v'.ownBlock = v.ownBlock ∨ v'.ownBlock = some w.heap.size) := by
  rcases A with _ | ad
  · have hm : m = 0 := by
      rcases Nat.eq_zero_or_pos m with h0 | h0
      · exact h0
      · obtain ⟨_, e, _⟩ := hr.2 h0
        cases e
    subst hm
    have hn : news = [] := List.eq_nil_of_length_eq_zero (by simpa using hr.1)
    subst hn
    exact ⟨v, w, run_app_nil w base t ty e size bytes S v n xs hown c, by simpa using hown, World.grownBy.refl w _, .inl rfl⟩
  · obtain ⟨ht, i, z, hi, hz, hs1, hb1, hzs⟩ := S
    obtain ⟨v', w', hrun, h2, h3, _, h5⟩ := run_append_own_at (P := P) w base t ty e i z size bytes ht hi hz hs1 hb1 hzs hsz v n xs hown ad m c news hr.1 hr.news h1 h63 hbytes hbase
    exact ⟨v', w', hrun, h2, h3, h5⟩

theorem step_appR {P : Program} {w : World} {ops : Array Oper} {o : Oper} {a : Act} {K : Act → World → Prop} {Q : Exit → Act → World → Prop} {E : Prop} (hgd : o.guard = none) (s x : Operand) (t : TypeId)
    (ho : o.op = .call { callee := .builtin .append, args := #[s, x], argTypes := #[t, t] })
    {base : Nat} {e : TypeId} {size bytes : Nat} (S : SliceOf P t e size bytes) (hsz : 0 < size)
    (v : Value) (n : Nat) (xs : List Value) (hs : a.eval s = v) (hown : w.ownsRow base e size v n xs)
    (A : Option Addr) (m c : Nat) (news : List Value) (hx : a.eval x = .slice A m c) (hr : Rd w size A m news) (h1 : ∀ u ∈ news, u.oneCell' = true)
    (hbytes : (n + m) * bytes ≤ 140737488355328) (h63 : n + m ≤ maxLen) (hbase : base ≤ w.heap.size) (H : Nat) (hH : w.heap.size = H)
    (h : ∀ v' w', w'.ownsRow base e size v' (n + m) (xs ++ news) → w.grownBy w' v.ownBlock → (v'.ownBlock = v.ownBlock ∨ v'.ownBlock = some H) → K (a.put o.dst v') w') :
    if Region.wanted o (yielded ops a.tmps) = true then Oper.wp P o a w K Q else E := by
  have hw : Region.wanted o (yielded ops a.tmps) = true := by simp [Region.wanted, hgd]
  rw [if_pos hw]
  obtain ⟨v', w', hrun, h2, h3, h5⟩ := run_appR (P := P) w t o.type S hsz v n xs hown A m c news hr h1 hbytes h63 hbase
  unfold Oper.wp execOp
  simp only [ho, resolve, invoke, builtin, Sem.run_bind, Sem.run_pure, Result.andThen_ok, List.map_toArray, List.map_cons, List.map_nil, hs, hx, hrun]
  exact h v' w' h2 h3 (by rw [← hH]; exact h5)
theorem own_below {w w' : World} {base : Nat} {e : TypeId} {size n : Nat} {v : Value} {xs : List Value} (h : w.ownsRow base e size v n xs) (hb : Below w.heap.size w w') : w'.ownsRow base e size v n xs := by
  rcases hv : v.ownBlock with _ | g
  · exact h.kept (row := none) ⟨hb.os, hb.tape, hb.output, hb.size, fun k hk _ => hb.block k hk⟩ (.inl hv)
  · exact h.kept (row := none) ⟨hb.os, hb.tape, hb.output, hb.size, fun k hk _ => hb.block k hk⟩ (.inr (by rw [hv]; exact fun e => by cases e))
theorem below_of_drew {w w' : World} (h : Below w.drew.heap.size w.drew w') : Below w.heap.size w w' := ⟨h.os, h.tape, h.output, h.size, h.block⟩
theorem grown_of_below' {w w' : World} (row : Option Nat) (hb : Below w.heap.size w w') : w.grownBy w' row := ⟨hb.os, hb.tape, hb.output, hb.size, fun k hk _ => hb.block k hk⟩
theorem grown_set {a w : World} {g : Nat} (h : a.grownBy w (some g)) (j : Nat) (u : Value) : a.grownBy (w.setCell ⟨g, j, none⟩ u) (some g) :=
  ⟨h.os, h.tape, h.output, by simpa [World.setCell] using h.size, fun i hi hne => (Below.heap_setCell w ⟨g, j, none⟩ u i (fun e => hne (by rw [e]))).trans (h.block i hi hne)⟩
/-- Four cells next to each other, stored into a row of the call's own. -/
theorem own_store4 {w : World} {base : Nat} {e : TypeId} {size g n cap : Nat} {xs : List Value} (h : w.ownsRow base e size (.slice (some ⟨g, 0, none⟩) n cap) n xs) (j : Nat) (a b c d : Value) :
    ((((w.setCell ⟨g, j, none⟩ a).setCell ⟨g, j + 1, none⟩ b).setCell ⟨g, j + 2, none⟩ c).setCell ⟨g, j + 3, none⟩ d).ownsRow base e size (.slice (some ⟨g, 0, none⟩) n cap) n ((((xs.set j a).set (j + 1) b).set (j + 2) c).set (j + 3) d) :=
  ((((h.stored j a).1.stored (j + 1) b).1.stored (j + 2) c).1.stored (j + 3) d).1
theorem rd_blk {w : World} {b m : Nat} {cs : List Value} {t : TypeId} (size : Nat) (h : w.heap[b]? = some (.cells cs.toArray t (0, 0))) (hl : cs.length = m * size) : Rd w size (some ⟨b, 0, none⟩) m cs :=
  ⟨hl, fun _ => ⟨_, rfl, (Array.getElem?_eq_some_iff.1 h).1, World.news_of_block (cs := cs.toArray) (fr := (0, 0)) h⟩⟩
end Go.Proofs.Ytmgoakfnmgngoaa
/- Stable sorting as mathematics: what is sorted, and has of each key the same elements in the same order, is one list; turns that keep that. No program in this text. -/
namespace Go.Proofs.Ytmgoakfnmgngoaa

def keyC (c : Cl) : Int := c.1.1
/-- The elements of one key. -/
def ofKey (v : Int) (l : List Cl) : List Cl := l.filter fun c => keyC c == v
/-- The same elements of each key, in the same order. -/
def Same (a b : List Cl) : Prop := ∀ v, ofKey v a = ofKey v b
def SortC (l : List Cl) : Prop := l.Pairwise fun a b => keyC a ≤ keyC b
theorem Same.refl (a : List Cl) : Same a a := fun _ => rfl
theorem Same.symm {a b : List Cl} (h : Same a b) : Same b a := fun v => (h v).symm
theorem Same.trans {a b c : List Cl} (h : Same a b) (k : Same b c) : Same a c := fun v => (h v).trans (k v)
theorem ofKey_app (v : Int) (a b : List Cl) : ofKey v (a ++ b) = ofKey v a ++ ofKey v b := List.filter_append ..
theorem Same.app {a b c d : List Cl} (h : Same a b) (k : Same c d) : Same (a ++ c) (b ++ d) := fun v => by rw [ofKey_app, ofKey_app, h v, k v]
theorem Same.mem {a b : List Cl} (h : Same a b) (x : Cl) : x ∈ a ↔ x ∈ b := by
  have key : ∀ l : List Cl, x ∈ l ↔ x ∈ ofKey (keyC x) l := fun l => by simp [ofKey]
  rw [key a, key b, h]
theorem Same.length {a b : List Cl} (h : Same a b) : a.length = b.length := by
  have hp : a.Perm b := by
    rw [List.perm_iff_count]
    intro x
    have key : ∀ l : List Cl, l.count x = (ofKey (keyC x) l).count x := fun l => by
      unfold ofKey
      rw [List.count_filter (by simp)]
    rw [key a, key b, h]
  exact hp.length_eq
/-- There is one such list. -/
theorem same_only : ∀ {a b : List Cl}, SortC a → SortC b → Same a b → a = b
  | [], b, _, _, h => by
    have := h.length
    exact (List.eq_nil_of_length_eq_zero (by simpa using this.symm)).symm
  | x :: a, [], _, _, h => by
    have := h.length
    simp at this
  | x :: a, y :: b, ha, hb, h => by
    unfold SortC at ha hb
    rw [List.pairwise_cons] at ha hb
    have h1 : keyC y ≤ keyC x := by
      rcases List.mem_cons.1 ((h.mem x).1 (List.mem_cons_self ..)) with rfl | hm
      · exact Int.le_refl _
      · exact hb.1 x hm
    have h2 : keyC x ≤ keyC y := by
      rcases List.mem_cons.1 ((h.mem y).2 (List.mem_cons_self ..)) with rfl | hm
      · exact Int.le_refl _
      · exact ha.1 y hm
    have hk : keyC x = keyC y := by omega
    have e := h (keyC x)
    have e1 : ofKey (keyC x) (x :: a) = x :: ofKey (keyC x) a := by simp [ofKey]
    have e2 : ofKey (keyC x) (y :: b) = y :: ofKey (keyC x) b := by simp [ofKey, hk]
    rw [e1, e2] at e
    injection e with exy et
    subst exy
    have hs : Same a b := fun v => by
      have := h v
      by_cases hv : keyC x = v
      · subst hv; exact et
      · have f1 : ofKey v (x :: a) = ofKey v a := by simp [ofKey, hv]
        have f2 : ofKey v (x :: b) = ofKey v b := by simp [ofKey, hv]
        rwa [f1, f2] at this
    rw [same_only ha.2 hb.2 hs]
theorem ofKey_none {v : Int} {l : List Cl} (h : ∀ x ∈ l, keyC x ≠ v) : ofKey v l = [] := by
  unfold ofKey
  rw [List.filter_eq_nil_iff]
  intro x hx
  simp [h x hx]
/-- Two rows change places, all of the second one less than all of the first one. -/
theorem same_swap {A B C D : List Cl} (h : ∀ b ∈ B, ∀ c ∈ C, keyC c < keyC b) : Same (A ++ (B ++ (C ++ D))) (A ++ (C ++ (B ++ D))) := fun v => by
  simp only [ofKey_app]
  congr 1
  rw [← List.append_assoc, ← List.append_assoc]
  congr 1
  by_cases hb : ∃ b ∈ B, keyC b = v
  · obtain ⟨b, hb, hv⟩ := hb
    rw [ofKey_none (l := C) (fun c hc => by have := h b hb c hc; omega)]
    simp
  · rw [ofKey_none (l := B) (fun b hb' e => hb ⟨b, hb', e⟩)]
    simp
theorem sort_app {a b : List Cl} (ha : SortC a) (hb : SortC b) (h : ∀ x ∈ a, ∀ y ∈ b, keyC x ≤ keyC y) : SortC (a ++ b) := List.pairwise_append.2 ⟨ha, hb, h⟩
theorem sort_left {a b : List Cl} (h : SortC (a ++ b)) : SortC a := (List.pairwise_append.1 h).1
theorem sort_right {a b : List Cl} (h : SortC (a ++ b)) : SortC b := (List.pairwise_append.1 h).2.1
theorem sort_cross {a b : List Cl} (h : SortC (a ++ b)) : ∀ x ∈ a, ∀ y ∈ b, keyC x ≤ keyC y := (List.pairwise_append.1 h).2.2
/-- Part of a row from i to j. -/
def seg (l : List Cl) (i j : Nat) : List Cl := (l.take j).drop i
theorem seg_len {l : List Cl} {i j : Nat} (hj : j ≤ l.length) : (seg l i j).length = j - i := by simp [seg]; omega
theorem seg_at {l : List Cl} {i j k : Nat} (hk : i + k < j) : (seg l i j)[k]? = l[i + k]? := by
  unfold seg; rw [List.getElem?_drop, List.getElem?_take, if_pos hk]
theorem seg_split {l : List Cl} {i k j : Nat} (h1 : i ≤ k) (h2 : k ≤ j) (hj : j ≤ l.length) : seg l i j = seg l i k ++ seg l k j := by
  apply List.ext_getElem?
  intro p
  by_cases hp : i + p < k
  · rw [seg_at (by omega), List.getElem?_append_left (by rw [seg_len (by omega)]; omega), seg_at hp]
  · rw [List.getElem?_append_right (by rw [seg_len (by omega)]; omega), seg_len (by omega)]
    by_cases hq : i + p < j
    · rw [seg_at hq, seg_at (by omega)]; congr 1; omega
    · rw [List.getElem?_eq_none (by rw [seg_len hj]; omega), List.getElem?_eq_none (by rw [seg_len hj]; omega)]
theorem seg_all {l : List Cl} : seg l 0 l.length = l := by simp [seg]
/-- Sorted from i to j. -/
def SortAt (l : List Cl) (i j : Nat) : Prop := SortC (seg l i j)
theorem sortAt_iff {l : List Cl} {i j : Nat} (hj : j ≤ l.length) : SortAt l i j ↔ ∀ (p q : Nat) (x y : Cl), i ≤ p → p < q → q < j → l[p]? = some x → l[q]? = some y → keyC x ≤ keyC y := by
  unfold SortAt SortC
  rw [List.pairwise_iff_getElem]
  have hl := seg_len (l := l) (i := i) hj
  constructor
  · intro h p q x y h1 h2 h3 hx hy
    have a := h (p - i) (q - i) (by omega) (by omega) (by omega)
    have e1 := seg_at (l := l) (i := i) (j := j) (k := p - i) (by omega)
    have e2 := seg_at (l := l) (i := i) (j := j) (k := q - i) (by omega)
    rw [show i + (p - i) = p by omega, hx, List.getElem?_eq_getElem (by omega)] at e1
    rw [show i + (q - i) = q by omega, hy, List.getElem?_eq_getElem (by omega)] at e2
    rw [Option.some.inj e1, Option.some.inj e2] at a
    exact a
  · intro h p q hp hq hpq
    refine h (i + p) (i + q) _ _ (by omega) (by omega) (by omega) ?_ ?_
    · rw [← seg_at (j := j) (by omega)]; exact List.getElem?_eq_getElem hp
    · rw [← seg_at (j := j) (by omega)]; exact List.getElem?_eq_getElem hq
end Go.Proofs.Ytmgoakfnmgngoaa
/- A row of clusters of the call's own, while it is sorted: its cells, an exchange; slices' swapRange walked. -/
namespace Go.Proofs.Ytmgoakfnmgngoaa
open Go.RowKit

theorem cellsC_set {l : List Cl} {k : Nat} (h : k < l.length) (s : Cl) : ((((cellsC l).set (k * 4) (.int .i64 s.1.1)).set (k * 4 + 1) (.int .i64 s.1.2)).set (k * 4 + 2) (.int .i64 s.2.1)).set (k * 4 + 3) (.int .i64 s.2.2) = cellsC (l.set k s) := by
  induction l generalizing k with
  | nil => simp at h
  | cons t l ih =>
    have hc : ∀ (u : Cl) (m : List Cl), cellsC (u :: m) = .int .i64 u.1.1 :: .int .i64 u.1.2 :: .int .i64 u.2.1 :: .int .i64 u.2.2 :: cellsC m := fun _ _ => rfl
    cases k with
    | zero => simp [hc]
    | succ k =>
      have e0 : (k + 1) * 4 = k * 4 + 1 + 1 + 1 + 1 := by omega
      have e1 : (k + 1) * 4 + 1 = (k * 4 + 1) + 1 + 1 + 1 + 1 := by omega
      have e2 : (k + 1) * 4 + 2 = (k * 4 + 2) + 1 + 1 + 1 + 1 := by omega
      have e3 : (k + 1) * 4 + 3 = (k * 4 + 3) + 1 + 1 + 1 + 1 := by omega
      rw [e3, e2, e1, e0, hc, List.set_cons_succ, List.set_cons_succ, List.set_cons_succ, List.set_cons_succ, List.set_cons_succ, List.set_cons_succ, List.set_cons_succ, List.set_cons_succ,
        List.set_cons_succ, List.set_cons_succ, List.set_cons_succ, List.set_cons_succ, List.set_cons_succ, List.set_cons_succ, List.set_cons_succ, List.set_cons_succ, ih (by simpa using h), List.set_cons_succ, hc]
/-- A row of clusters of the call's own. -/
def StW (w : World) (base g n cap : Nat) (ys : List Cl) : Prop := w.ownsRow base 33 4 (.slice (some ⟨g, 0, none⟩) n cap) n (cellsC ys)
theorem StW.len {w : World} {base g n cap : Nat} {ys : List Cl} (h : StW w base g n cap ys) : ys.length = n := by
  have := h.1
  rw [cellsC_len] at this
  omega
/-- The cells of one cluster of the row, and that they may be written. -/
theorem StW.at_ {w : World} {base g n cap k : Nat} {ys : List Cl} {s : Cl} (h : StW w base g n cap ys) (hk : ys[k]? = some s) :
    w.cell? ⟨g, k * 4, none⟩ = some (.int .i64 s.1.1) ∧ w.cell? ⟨g, k * 4 + 1, none⟩ = some (.int .i64 s.1.2) ∧ w.cell? ⟨g, k * 4 + 2, none⟩ = some (.int .i64 s.2.1) ∧ w.cell? ⟨g, k * 4 + 3, none⟩ = some (.int .i64 s.2.2) ∧
    w.frozen? ⟨g, k * 4, none⟩ = false ∧ w.frozen? ⟨g, k * 4 + 1, none⟩ = false ∧ w.frozen? ⟨g, k * 4 + 2, none⟩ = false ∧ w.frozen? ⟨g, k * 4 + 3, none⟩ = false := by
  have hl := (List.getElem?_eq_some_iff.1 hk).1
  have hn := h.len
  obtain ⟨e0, e1, e2, e3⟩ := cellsC_at hk
  have h' := h
  unfold StW at h'
  exact ⟨by rw [h'.cellAt (k * 4) (by omega)]; exact e0, by rw [h'.cellAt (k * 4 + 1) (by omega)]; exact e1, by rw [h'.cellAt (k * 4 + 2) (by omega)]; exact e2, by rw [h'.cellAt (k * 4 + 3) (by omega)]; exact e3, h'.frozenAt _, h'.frozenAt _, h'.frozenAt _, h'.frozenAt _⟩
/-- The world with one cluster stored. -/
def putC (w : World) (g k : Nat) (s : Cl) : World := (((w.setCell ⟨g, k * 4, none⟩ (.int .i64 s.1.1)).setCell ⟨g, k * 4 + 1, none⟩ (.int .i64 s.1.2)).setCell ⟨g, k * 4 + 2, none⟩ (.int .i64 s.2.1)).setCell ⟨g, k * 4 + 3, none⟩ (.int .i64 s.2.2)
/-- One cluster stored. -/
theorem StW.put {w : World} {base g n cap k : Nat} {ys : List Cl} (h : StW w base g n cap ys) (hk : k < n) (s : Cl) : StW (putC w g k s) base g n cap (ys.set k s) := by
  have := own_store4 h (k * 4) (.int .i64 s.1.1) (.int .i64 s.1.2) (.int .i64 s.2.1) (.int .i64 s.2.2)
  rw [cellsC_set (by rw [h.len]; exact hk)] at this
  exact this
theorem StW.drew {w : World} {base g n cap : Nat} {ys : List Cl} (h : StW w base g n cap ys) : StW w.drew base g n cap ys := World.ownsRow.drew h
theorem grown_put (w : World) (g k : Nat) (s : Cl) : w.grownBy (putC w g k s) (some g) := by
  have one : ∀ (w : World) (j : Nat) (u : Value), w.grownBy (w.setCell ⟨g, j, none⟩ u) (some g) := fun w j u => ⟨rfl, rfl, rfl, by simp [World.setCell], fun i _ hr => Below.heap_setCell w ⟨g, j, none⟩ u i (fun e => hr (by rw [e]))⟩
  have two : ∀ {a b c : World}, a.grownBy b (some g) → b.grownBy c (some g) → a.grownBy c (some g) := fun h k => ⟨k.os.trans h.os, k.tape.trans h.tape, k.output.trans h.output, Nat.le_trans h.size k.size, fun i hi hr => (k.block i (Nat.lt_of_lt_of_le hi h.size) hr).trans (h.block i hi hr)⟩
  exact two (two (two (one _ _ _) (one _ _ _)) (one _ _ _)) (one _ _ _)
theorem grown2 {a b c : World} {r : Option Nat} (h : a.grownBy b r) (k : b.grownBy c r) : a.grownBy c r := ⟨k.os.trans h.os, k.tape.trans h.tape, k.output.trans h.output, Nat.le_trans h.size k.size, fun i hi hr => (k.block i (Nat.lt_of_lt_of_le hi h.size) hr).trans (h.block i hi hr)⟩
theorem grown_drewC {a b : World} {r : Option Nat} (h : a.grownBy b r) : a.grownBy b.drew r := ⟨h.os, h.tape, h.output, h.size, h.block⟩
/-- What an exchange of two clusters leaves. -/
theorem StW.swap {w : World} {base g n cap p q : Nat} {ys : List Cl} (h : StW w base g n cap ys) (hp : p < n) (hq : q < n) (x y : Cl) : StW (putC (putC w g p y) g q x).drew base g n cap ((ys.set p y).set q x) ∧ w.grownBy (putC (putC w g p y) g q x).drew (some g) := by
  exact ⟨((h.put hp y).put hq x).drew, grown_drewC (grown2 (grown_put w g p y) (grown_put (putC w g p y) g q x))⟩
/-- After k exchanges of the rows from a and from b on. -/
def SwAt (xs : List Cl) (a b k : Nat) (ys : List Cl) : Prop := ys.length = xs.length ∧ ∀ p, ys[p]? = if a ≤ p ∧ p < a + k then xs[b + (p - a)]? else if b ≤ p ∧ p < b + k then xs[a + (p - b)]? else xs[p]?
theorem SwAt.step {xs ys : List Cl} {a b k : Nat} (h : SwAt xs a b k ys) (hd : a + k < b) (hb : b + k < xs.length) {x y : Cl} (hx : ys[a + k]? = some x) (hy : ys[b + k]? = some y) : SwAt xs a b (k + 1) ((ys.set (a + k) y).set (b + k) x) := by
  have e1 := h.2 (a + k)
  rw [if_neg (by omega), if_neg (by omega), hx] at e1
  have e2 := h.2 (b + k)
  rw [if_neg (by omega), if_neg (by omega), hy] at e2
  refine ⟨by simp [h.1], fun p => ?_⟩
  by_cases h1 : p = b + k
  · subst h1
    rw [List.getElem?_set_self (by simp [h.1]; omega), if_neg (by omega), if_pos (by omega), show a + (b + k - b) = a + k by omega]
    exact e1
  · rw [List.getElem?_set_ne (fun e => h1 e.symm)]
    by_cases h2 : p = a + k
    · subst h2
      rw [List.getElem?_set_self (by rw [h.1]; omega), if_pos (by omega), show b + (a + k - a) = b + k by omega]
      exact e2
    · rw [List.getElem?_set_ne (fun e => h2 e.symm), h.2 p]
      by_cases h3 : a ≤ p ∧ p < a + k
      · have k3 : a ≤ p ∧ p < a + (k + 1) := by omega
        rw [if_pos h3, if_pos k3]
      · have k3 : ¬ (a ≤ p ∧ p < a + (k + 1)) := by omega
        rw [if_neg h3, if_neg k3]
        by_cases h4 : b ≤ p ∧ p < b + k
        · have k4 : b ≤ p ∧ p < b + (k + 1) := by omega
          rw [if_pos h4, if_pos k4]
        · have k4 : ¬ (b ≤ p ∧ p < b + (k + 1)) := by omega
          rw [if_neg h4, if_neg k4]
set_option maxRecDepth 100000 in
set_option maxHeartbeats 2000000 in
theorem swapRange_any (base g cap n a b m : Nat) (xs : List Cl) (F : Value) (w : World) (hS : StW w base g n cap xs) (hd : a + m ≤ b) (hb : b + m ≤ n) (hn : n ≤ 100000000) :
    Calls Try.prog 123 #[.slice (some ⟨g, 0, none⟩) n cap, .int .i64 (a : Int), .int .i64 (b : Int), .int .i64 (m : Int), F] w fun e w' => e = .returned (.tuple #[]) ∧ ∃ ys, SwAt xs a b m ys ∧ StW w' base g n cap ys ∧ w.grownBy w' (some g) := by
  have HS := Lib.hid hS
  have hlen := hS.len
  have HL := Lib.hid hlen
  clear hS hlen
  go_enter Try.func123, Try.ntmps123
  go_wp2_with fail
  go_loopw [10] (fun i ws => ∃ (k : Nat) (ys : List Cl), k ≤ m ∧ i = .int .i64 (k : Int) ∧ SwAt xs a b k ys ∧ StW ws base g n cap ys ∧ w.grownBy ws (some g)) (fun i _ => m - (intOf i).toNat)
  case atStart => exact ⟨0, xs, Nat.zero_le _, rfl, ⟨rfl, fun p => by rw [if_neg (by omega), if_neg (by omega)]⟩, HS.out, World.grownBy.refl w _⟩
  case round =>
    clear HS
    obtain ⟨k, ys, hk, rfl, hsw, hst, hgr⟩ := hrel
    by_cases hlt : k < m
    · have hyl := hst.len
      obtain ⟨x, hx⟩ : ∃ x, ys[a + k]? = some x := ⟨_, List.getElem?_eq_getElem (by omega)⟩
      obtain ⟨y, hy⟩ : ∃ y, ys[b + k]? = some y := ⟨_, List.getElem?_eq_getElem (by omega)⟩
      have HSW := Lib.hid (hsw.step (by omega) (by have := HL.out; omega) hx hy)
      have HST := Lib.hid (hst.swap (p := a + k) (q := b + k) (by omega) (by omega) x y)
      have HG := Lib.hid hgr
      obtain ⟨x0, x1, x2, x3, fx0, fx1, fx2, fx3⟩ := hst.at_ hx
      obtain ⟨y0, y1, y2, y3, fy0, fy1, fy2, fy3⟩ := hst.at_ hy
      obtain ⟨p, hp⟩ : ∃ p, a + k = p := ⟨_, rfl⟩
      obtain ⟨q, hq⟩ : ∃ q, b + k = q := ⟨_, rfl⟩
      rw [hp] at x0 x1 x2 x3 fx0 fx1 fx2 fx3 HSW HST
      rw [hq] at y0 y1 y2 y3 fy0 fy1 fy2 fy3 HSW HST
      have ip : (a : Int) + (k : Int) = (p : Int) := by omega
      have iq : (b : Int) + (k : Int) = (q : Int) := by omega
      have hpn : (p : Int) < (n : Int) := by omega
      have hqn : (q : Int) < (n : Int) := by omega
      have hp0 : (0 : Int) ≤ (p : Int) := by omega
      have hq0 : (0 : Int) ≤ (q : Int) := by omega
      have hpq : p < q := by omega
      obtain ⟨⟨xa, xb⟩, xc, xd⟩ := x
      obtain ⟨⟨ya, yb⟩, yc, yd⟩ := y
      simp only at x0 x1 x2 x3 y0 y1 y2 y3
      have HST2 := HST.out
      simp only [putC] at HST2
      have HST3 := Lib.hid HST2
      clear hx hy hsw hst hgr hp hq hyl HST HST2
      go_wp2_with fail
      go_region
      clear x0 x1 x2 x3 fx0 fx1 fx2 fx3 y0 y1 y2 y3 fy0 fy1 fy2 fy3
      go_wp2_with fail
      go_roundw
      case rel => exact ⟨k + 1, _, by omega, by go_num, HSW.out, HST3.out.1, grown2 HG.out HST3.out.2⟩
      case measure => simp [intOf]; omega
    · have hkm : k = m := by omega
      have H1 := Lib.hid hsw
      have H2 := Lib.hid hst
      have H3 := Lib.hid hgr
      rw [hkm] at H1
      clear hsw hst hgr hkm
      go_wp2_with fail
      exact bodyPost_end (v := .tuple #[]) (by simp [results, go_sem]) rfl ⟨rfl, ys, H1.out, H2.out, H3.out⟩
end Go.Proofs.Ytmgoakfnmgngoaa
/- cmp.Compare at int. -/
namespace Go.Proofs.Ytmgoakfnmgngoaa
open Go.RowKit

def cmpI (x y : Int) : Int := if x < y then -1 else if y < x then 1 else 0
set_option maxHeartbeats 1000000 in
theorem nanI_any (x : Int) (w : World) : Calls Try.prog 87 #[.int .i64 x] w fun e w' => e = .returned (.bool false) ∧ w = w' := by
  have h : (x != x) = false := by simp
  go_enter Try.func87, Try.ntmps87
  go_wp2
  go_ret
  exact ⟨by simp, rfl⟩
set_option maxHeartbeats 1000000 in
theorem cmpI_any (x y : Int) (w : World) : Calls Try.prog 62 #[.int .i64 x, .int .i64 y] w fun e w' => e = .returned (.int .i64 (cmpI x y)) ∧ w = w' := by
  have hc : x < y ∨ (¬ x < y ∧ y < x) ∨ (¬ x < y ∧ ¬ y < x) := by omega
  rcases hc with h | ⟨h, h'⟩ | ⟨h, h'⟩
  · have HE := Lib.hid (show cmpI x y = -1 from if_pos h)
    go_enter Try.func62, Try.ntmps62
    go_wp2_with (go_at_call 87; refine (nanI_any _ _).mono ?_; rintro e w' ⟨rfl, rfl⟩)
    go_ret
    exact ⟨retI HE.out.symm, rfl⟩
  · have HE := Lib.hid (show cmpI x y = 1 by unfold cmpI; rw [if_neg h, if_pos h'])
    go_enter Try.func62, Try.ntmps62
    go_wp2_with (go_at_call 87; refine (nanI_any _ _).mono ?_; rintro e w' ⟨rfl, rfl⟩)
    go_ret
    exact ⟨retI HE.out.symm, rfl⟩
  · have HE := Lib.hid (show cmpI x y = 0 by unfold cmpI; rw [if_neg h, if_neg h'])
    go_enter Try.func62, Try.ntmps62
    go_wp2_with (go_at_call 87; refine (nanI_any _ _).mono ?_; rintro e w' ⟨rfl, rfl⟩)
    go_ret
    exact ⟨retI HE.out.symm, rfl⟩
end Go.Proofs.Ytmgoakfnmgngoaa
/- slices.rotate at clusters, walked. -/
namespace Go.Proofs.Ytmgoakfnmgngoaa
open Go.RowKit

theorem app1 {α : Type} (P R : List α) (k : Nat) : (P ++ R)[P.length + k]? = R[k]? := by
  rw [List.getElem?_append_right (by omega)]; congr 1; omega
/-- Two rows of one length have changed places. -/
theorem sw_list {P U M V Q ys : List Cl} (hl : U.length = V.length) (h : SwAt (P ++ (U ++ (M ++ (V ++ Q)))) P.length (P.length + U.length + M.length) U.length ys) : ys = P ++ (V ++ (M ++ (U ++ Q))) := by
  apply List.ext_getElem?
  intro p
  rw [h.2 p]
  by_cases h1 : p < P.length
  · rw [if_neg (by omega), if_neg (by omega), List.getElem?_append_left h1, List.getElem?_append_left h1]
  obtain ⟨k, rfl⟩ : ∃ k, p = P.length + k := ⟨p - P.length, by omega⟩
  rw [app1 P (V ++ (M ++ (U ++ Q))) k]
  by_cases h2 : k < U.length
  · have e : P.length + U.length + M.length + (P.length + k - P.length) = P.length + (U.length + (M.length + k)) := by omega
    have hk : k < V.length := by omega
    have c1 : P.length ≤ P.length + k ∧ P.length + k < P.length + U.length := by omega
    rw [if_pos c1, e, app1 P, app1 U, app1 M, List.getElem?_append_left hk, List.getElem?_append_left hk]
  rw [if_neg (by omega)]
  obtain ⟨k, rfl⟩ : ∃ k', k = U.length + k' := ⟨k - U.length, by omega⟩
  rw [show (V ++ (M ++ (U ++ Q)))[U.length + k]? = (M ++ (U ++ Q))[k]? by rw [hl, app1]]
  by_cases h3 : k < M.length
  · rw [if_neg (by omega), List.getElem?_append_left h3, app1, app1, List.getElem?_append_left h3]
  obtain ⟨k, rfl⟩ : ∃ k', k = M.length + k' := ⟨k - M.length, by omega⟩
  rw [app1 M (U ++ Q) k]
  by_cases h4 : k < U.length
  · have e : P.length + (P.length + (U.length + (M.length + k)) - (P.length + U.length + M.length)) = P.length + k := by omega
    have c1 : P.length + U.length + M.length ≤ P.length + (U.length + (M.length + k)) ∧ P.length + (U.length + (M.length + k)) < P.length + U.length + M.length + U.length := by omega
    rw [if_pos c1, e, app1 P, List.getElem?_append_left h4, List.getElem?_append_left h4]
  have c1 : ¬ (P.length + U.length + M.length ≤ P.length + (U.length + (M.length + k)) ∧ P.length + (U.length + (M.length + k)) < P.length + U.length + M.length + U.length) := by omega
  rw [if_neg c1, app1 P, app1 U, app1 M]
  obtain ⟨k, rfl⟩ : ∃ k', k = U.length + k' := ⟨k - U.length, by omega⟩
  rw [app1 U Q k, hl, app1]
/-- What a rotation leaves. -/
def rotL (xs : List Cl) (a m b : Nat) : List Cl := xs.take a ++ (seg xs m b ++ (seg xs a m ++ xs.drop b))
theorem seg_four {xs : List Cl} {a m b : Nat} (h1 : a ≤ m) (h2 : m ≤ b) (h3 : b ≤ xs.length) : xs = xs.take a ++ (seg xs a m ++ (seg xs m b ++ xs.drop b)) := by
  have e : xs.take b = xs.take a ++ (seg xs a m ++ seg xs m b) := by
    rw [← seg_split h1 h2 h3]
    unfold seg
    have := (List.take_append_drop a (xs.take b)).symm
    rwa [List.take_take, Nat.min_eq_left (by omega)] at this
  rw [← List.append_assoc (seg xs a m), ← List.append_assoc (xs.take a), ← e, List.take_append_drop]
/-- The state while rows are rotated: U and V are still to change places. -/
def RotSt (T : List Cl) (m i j : Nat) (cs : List Cl) : Prop := ∃ P U V Q : List Cl, U.length = i ∧ V.length = j ∧ P.length + i = m ∧ cs = P ++ (U ++ (V ++ Q)) ∧ T = P ++ (V ++ (U ++ Q))
theorem RotSt.more {T cs ys : List Cl} {m i j : Nat} (h : RotSt T m i j cs) (hij : j < i) (hs : SwAt cs (m - i) m j ys) : RotSt T m (i - j) j ys := by
  obtain ⟨P, U, V, Q, hu, hv, hp, rfl, rfl⟩ := h
  have hU : U = U.take j ++ U.drop j := (List.take_append_drop j U).symm
  have l1 : (U.take j).length = j := by rw [List.length_take]; omega
  have l2 : (U.drop j).length = i - j := by rw [List.length_drop]; omega
  have e : ys = P ++ (V ++ (U.drop j ++ (U.take j ++ Q))) := by
    refine sw_list (U := U.take j) (M := U.drop j) (by omega) ?_
    rw [l1, l2, show P.length = m - i by omega, show m - i + j + (i - j) = m by omega, ← List.append_assoc (U.take j), List.take_append_drop]
    exact hs
  refine ⟨P ++ V, U.drop j, U.take j, Q, l2, l1, by rw [List.length_append]; omega, by rw [e, List.append_assoc], ?_⟩
  rw [List.append_assoc, ← List.append_assoc (U.take j), List.take_append_drop]
theorem RotSt.less {T cs ys : List Cl} {m i j : Nat} (h : RotSt T m i j cs) (hij : i < j) (hs : SwAt cs (m - i) (m + j - i) i ys) : RotSt T m i (j - i) ys := by
  obtain ⟨P, U, V, Q, hu, hv, hp, rfl, rfl⟩ := h
  have l1 : (V.take (j - i)).length = j - i := by rw [List.length_take]; omega
  have l2 : (V.drop (j - i)).length = i := by rw [List.length_drop]; omega
  have e : ys = P ++ (V.drop (j - i) ++ (V.take (j - i) ++ (U ++ Q))) := by
    refine sw_list (U := U) (M := V.take (j - i)) (by omega) ?_
    rw [l1, hu, show P.length = m - i by omega, show m - i + i + (j - i) = m + j - i by omega, ← List.append_assoc (V.take (j - i)), List.take_append_drop]
    exact hs
  refine ⟨P, V.drop (j - i), V.take (j - i), U ++ Q, l2, l1, hp, e, ?_⟩
  rw [← List.append_assoc (V.take (j - i)), List.take_append_drop]
theorem RotSt.last {T cs ys : List Cl} {m i : Nat} (h : RotSt T m i i cs) (hs : SwAt cs (m - i) m i ys) : ys = T := by
  obtain ⟨P, U, V, Q, hu, hv, hp, rfl, rfl⟩ := h
  refine sw_list (M := []) (by omega) ?_
  rw [hu, show P.length = m - i by omega, List.length_nil, show m - i + i + 0 = m by omega]
  exact hs
theorem RotSt.len {T cs : List Cl} {m i j : Nat} (h : RotSt T m i j cs) : i ≤ m ∧ m + j ≤ cs.length := by
  obtain ⟨P, U, V, Q, hu, hv, hp, rfl, rfl⟩ := h
  simp only [List.length_append]
  omega
set_option maxRecDepth 100000 in
set_option maxHeartbeats 2000000 in
theorem rotate_any (base g cap n a m b : Nat) (xs : List Cl) (F : Value) (w : World) (hS : StW w base g n cap xs) (ham : a < m) (hmb : m < b) (hb : b ≤ n) (hn : n ≤ 100000000) :
    Calls Try.prog 113 #[.slice (some ⟨g, 0, none⟩) n cap, .int .i64 (a : Int), .int .i64 (m : Int), .int .i64 (b : Int), F] w fun e w' => e = .returned (.tuple #[]) ∧ StW w' base g n cap (rotL xs a m b) ∧ w.grownBy w' (some g) := by
  have hlen := hS.len
  have HS := Lib.hid hS
  have HR0 := Lib.hid (show RotSt (rotL xs a m b) m (m - a) (b - m) xs from ⟨xs.take a, seg xs a m, seg xs m b, xs.drop b, seg_len (by omega), seg_len (by omega), by rw [List.length_take]; omega, seg_four (by omega) (by omega) (by omega), rfl⟩)
  obtain ⟨T, hT⟩ : ∃ T, rotL xs a m b = T := ⟨_, rfl⟩
  rw [hT] at HR0 ⊢
  obtain ⟨i0, hi0⟩ : ∃ i0, m - a = i0 := ⟨_, rfl⟩
  obtain ⟨j0, hj0⟩ : ∃ j0, b - m = j0 := ⟨_, rfl⟩
  rw [hi0, hj0] at HR0
  have ii : (m : Int) - (a : Int) = (i0 : Int) := by omega
  have ij : (b : Int) - (m : Int) = (j0 : Int) := by omega
  have hip : 0 < i0 := by omega
  have hjp : 0 < j0 := by omega
  have hmn : m ≤ n := by omega
  clear hS hT hi0 hj0 hlen
  go_enter Try.func113, Try.ntmps113
  go_wp2_with fail
  clear ii ij
  go_loopw [10, 11] (fun x y ws => ∃ (i j : Nat) (cs : List Cl), x = .int .i64 (i : Int) ∧ y = .int .i64 (j : Int) ∧ 0 < i ∧ 0 < j ∧ RotSt T m i j cs ∧ StW ws base g n cap cs ∧ w.grownBy ws (some g)) (fun x y _ => (intOf x).toNat + (intOf y).toNat)
  case atStart => exact ⟨i0, j0, xs, rfl, rfl, hip, hjp, HR0.out, HS.out, World.grownBy.refl w _⟩
  case round =>
    clear HS HR0 hip hjp
    obtain ⟨i, j, cs, rfl, rfl, hi, hj, hr, hs, hg⟩ := hrel
    obtain ⟨l1, l2⟩ := hr.len
    rw [hs.len] at l2
    have HR := Lib.hid hr
    have HS := Lib.hid hs
    have HG := Lib.hid hg
    clear hr hs hg
    obtain ⟨p, hp⟩ : ∃ p, m - i = p := ⟨_, rfl⟩
    have ip : (m : Int) - (i : Int) = (p : Int) := by omega
    by_cases h1 : i = j
    · subst h1
      have HSW := Lib.hid (fun W (h : StW W base g n cap cs) => swapRange_any base g cap n p m i cs F W h (by omega) (by omega) hn)
      have HP := Lib.hid hp
      clear hp
      go_wp2_with fail
      refine (HSW.out _ HS.out).mono ?_
      rintro e w1 ⟨rfl, ys, hsw, hst, hgr⟩
      have HE := Lib.hid (HR.out.last (by rw [HP.out]; exact hsw))
      rw [HE.out] at hst
      have HST := Lib.hid hst
      have HGG := Lib.hid (grown2 HG.out hgr)
      clear hsw hst hgr
      go_wp2_with fail
      exact bodyPost_end (v := .tuple #[]) (by simp [results, go_sem]) rfl ⟨rfl, HST.out, HGG.out⟩
    · by_cases h2 : j < i
      · have HSW := Lib.hid (fun W (h : StW W base g n cap cs) => swapRange_any base g cap n p m j cs F W h (by omega) (by omega) hn)
        have HP := Lib.hid hp
        have hne : ((i : Int) == (j : Int)) = false := by simp; omega
        have hd : (i : Int) - (j : Int) = ((i - j : Nat) : Int) := by omega
        have HD := Lib.hid hd
        clear hp h1 hd
        go_wp2_with fail
        refine (HSW.out _ HS.out).mono ?_
        rintro e w1 ⟨rfl, ys, hsw, hst, hgr⟩
        have HE := Lib.hid (HR.out.more h2 (by rw [HP.out]; exact hsw))
        have HST := Lib.hid hst
        have HGG := Lib.hid (grown2 HG.out hgr)
        clear hsw hst hgr
        go_wp2_with fail
        go_roundw
        case rel => exact ⟨i - j, j, ys, by rw [HD.out], rfl, by omega, hj, HE.out, HST.out, HGG.out⟩
        case measure => simp [intOf]; omega
      · obtain ⟨q, hq⟩ : ∃ q, m + j - i = q := ⟨_, rfl⟩
        have iq : (m : Int) + (j : Int) - (i : Int) = (q : Int) := by omega
        have HSW := Lib.hid (fun W (h : StW W base g n cap cs) => swapRange_any base g cap n p q i cs F W h (by omega) (by omega) hn)
        have HP := Lib.hid hp
        have HQ := Lib.hid hq
        have hne : ((i : Int) == (j : Int)) = false := by simp; omega
        have hlt : i < j := by omega
        have hd : (j : Int) - (i : Int) = ((j - i : Nat) : Int) := by omega
        have HD := Lib.hid hd
        clear hp hq h1 hd
        go_wp2_with fail
        refine (HSW.out _ HS.out).mono ?_
        rintro e w1 ⟨rfl, ys, hsw, hst, hgr⟩
        have HE := Lib.hid (HR.out.less hlt (by rw [HP.out, HQ.out]; exact hsw))
        have HST := Lib.hid hst
        have HGG := Lib.hid (grown2 HG.out hgr)
        clear hsw hst hgr
        go_wp2_with fail
        go_roundw
        case rel => exact ⟨i, j - i, ys, rfl, by rw [HD.out], hi, by omega, HE.out, HST.out, HGG.out⟩
        case measure => simp [intOf]; omega
end Go.Proofs.Ytmgoakfnmgngoaa
/- cluster's Identity, walked. -/
namespace Go.Proofs.Ytmgoakfnmgngoaa
open Go.RowKit

set_option maxRecDepth 100000 in
set_option maxHeartbeats 1000000 in
theorem prIdentity_any (n : Nat) (w : World) (hn : n ≤ 1000000) :
    Calls Try.prog 21 #[.int .i64 (n : Int)] w fun e w' => ∃ v, e = .returned v ∧ w'.ownsRow w.heap.size 33 4 v n (cellsC (identS n)) ∧ Below w.heap.size w w' := by
  have HLN := Lib.hid (identS_len n)
  go_enter Try.func21, Try.ntmps21
  go_wp2_with (at_make; refine wpList_mkZ rfl _ _ _ rfl Try.underlying22 clusInfo (z0 := .int .i64 0) (by decide) (by intro j hj; match j, hj with | 0, _ => rfl | 1, _ => rfl | 2, _ => rfl | 3, _ => rfl) (base := w.heap.size) (kl := .i64) (kc := .i64) n n n rfl rfl rfl rfl (by omega) (by unfold maxLen; omega) (Nat.le_refl _) ?_; intro w1 hown hg1)
  have hb1 := below_make (w := w) (w' := w1) hg1
  have HO := Lib.hid (show w1.ownsRow w.heap.size 33 4 (.slice (some ⟨w.heap.size, 0, none⟩) n n) n (fillC (identS n) 0) by rw [fillC_start, HLN.out]; exact hown)
  clear hown hg1
  go_loopw [15] (fun i wr => ∃ k : Nat, k ≤ n ∧ i = .int .i64 (k : Int) ∧ wr.ownsRow w.heap.size 33 4 (.slice (some ⟨w.heap.size, 0, none⟩) n n) n (fillC (identS n) k) ∧ Below w.heap.size w wr) (fun i _ => n - (intOf i).toNat)
  case atStart => exact ⟨0, Nat.zero_le _, rfl, HO.out, hb1⟩
  case round =>
    obtain ⟨k, hk, rfl, hown, hbr⟩ := hrel
    clear HO hb1
    by_cases hlt : k < n
    · have HF := Lib.hid (fillC_step (l := identS n) (k := k) (s := (((k : Int), (k : Int) + 1), ((k : Int), (k : Int) + 1))) (by unfold identS; rw [List.getElem?_map, List.getElem?_range hlt]; rfl))
      have ha := hown.alloc (.cells #[.int .i64 (k : Int), .int .i64 ((k : Int) + 1)] 31)
      obtain ⟨⟨u0, x0⟩, z0⟩ := own_slot ha (j := k * 4) (by omega)
      obtain ⟨⟨u1, x1⟩, z1⟩ := own_slot ha (j := k * 4 + 1) (by omega)
      obtain ⟨⟨u2, x2⟩, z2⟩ := own_slot ha (j := k * 4 + 2) (by omega)
      obtain ⟨⟨u3, x3⟩, z3⟩ := own_slot ha (j := k * 4 + 3) (by omega)
      have HS := Lib.hid (own_store4 ha (k * 4) (.int .i64 (k : Int)) (.int .i64 ((k : Int) + 1)) (.int .i64 (k : Int)) (.int .i64 ((k : Int) + 1)))
      have hbe := ((((hbr.alloc hbr.size (.cells #[.int .i64 (k : Int), .int .i64 ((k : Int) + 1)] 31)).setCell (p := ⟨w.heap.size, k * 4, none⟩) (Nat.le_refl _) (.int .i64 (k : Int))).setCell (p := ⟨w.heap.size, k * 4 + 1, none⟩) (Nat.le_refl _) (.int .i64 ((k : Int) + 1))).setCell (p := ⟨w.heap.size, k * 4 + 2, none⟩) (Nat.le_refl _) (.int .i64 (k : Int))).setCell (p := ⟨w.heap.size, k * 4 + 3, none⟩) (Nat.le_refl _) (.int .i64 ((k : Int) + 1))
      clear hown ha
      go_wp2_with fail
      go_roundw
      case rel => exact ⟨k + 1, by omega, by go_num, by rw [← HF.out]; exact HS.out, hbe⟩
      case measure => simp [intOf]; omega
    · have hkn : k = n := by omega
      have HK := Lib.hid hkn
      clear hkn
      go_wp2_with fail
      go_ret
      exact ⟨_, rfl, by have h9 := fillC_end (identS n); rw [HLN.out] at h9; rw [HK.out, h9] at hown; exact hown, hbr⟩
end Go.Proofs.Ytmgoakfnmgngoaa
