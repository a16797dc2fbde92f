/- Texts of one claim, one behind the other. -/
import Derived.Test.YtcjcimdembkbkaaRows
import Derived.WalkKit
import Derived.WalkSpells
import Derived.WalkLawsBesides
import Derived.Handy
import Derived.Below
import Derived.Laws.OwnMore
import Derived.Deep.AppendLies
import Derived.Deep.Draws
import Derived.Laws.Rows
import Derived.Maps.AppendAt
import Derived.RegionTactic
import Derived.OwnWalk
import Derived.Deep.QuietTactic
import Derived.BigQuiet
import Derived.Lib.Hide
import Derived.Deep.LoopGhost
/- Words for memory that all later texts share: a slice that reads as a list, blocks, appends (after the guide's own page of words), and small facts on endings. -/
namespace Go.Proofs.Ytcjcimdembkbkaa
open Go.RowKit

theorem blockAdd (a : Addr) (n : Nat) : (a.add n).block = a.block := by unfold Addr.add; split <;> rfl
theorem addAdd (a : Addr) (i j : Nat) : (a.add i).add j = a.add (i + j) := by
  unfold Addr.add
  by_cases hi : i = 0 <;> by_cases hj : j = 0 <;> simp [hi, hj, Nat.add_assoc]

/-- In world w the slice value with address A and length n reads as the cells xs ('size' cells an element), all in memory that is there. -/
def Rd (w : World) (size : Nat) (A : Option Addr) (n : Nat) (xs : List Value) : Prop :=
  xs.length = n * size ∧ (0 < n → ∃ ad, A = some ad ∧ ad.block < w.heap.size ∧ ∀ j u, xs[j]? = some u → w.cell? (ad.add j) = some u)

section
variable {w w' : World} {size n : Nat} {A : Option Addr} {xs : List Value}
theorem Rd.nil_ : Rd w size A 0 [] := ⟨by simp, fun h => absurd h (by omega)⟩
theorem Rd.len1 (h : Rd w 1 A n xs) : xs.length = n := by have := h.1; omega
theorem Rd.at_ {k : Nat} (h : Rd w 1 A n xs) (hk : k < n) : ∃ ad, A = some ad ∧ ad.block < w.heap.size ∧ ∀ u, xs[k]? = some u → w.cell? (ad.add k) = some u := by
  obtain ⟨ad, e, hb, hc⟩ := h.2 (by omega)
  exact ⟨ad, e, hb, fun u hu => hc k u hu⟩
theorem Rd.below (h : Rd w size A n xs) (hb : Below w.heap.size w w') : Rd w' size A n xs :=
  ⟨h.1, fun hn => by
    obtain ⟨ad, e, hlt, hc⟩ := h.2 hn
    exact ⟨ad, e, Nat.lt_of_lt_of_le hlt hb.size, fun j u hu => (hb.cell (by rw [blockAdd]; exact hlt)).trans (hc j u hu)⟩⟩
theorem Rd.drewN (h : Rd w size A n xs) (k : Nat) : Rd (w.drewN k) size A n xs := h
theorem Rd.alloc (h : Rd w size A n xs) (o : Obj) : Rd (w.alloc o) size A n xs := h.below ((Below.refl _ _).alloc (Nat.le_refl _) o)
/-- A cut 's[k:]'. -/
theorem Rd.cut (h : Rd w size A n xs) {k cap : Nat} (hk : k ≤ n) (hc : n ≤ cap) :
    Rd w size (if cap = k then A else A.map (·.add (k * size))) (n - k) (xs.drop (k * size)) := by
  refine ⟨by rw [List.length_drop, h.1, Nat.sub_mul], fun hn => ?_⟩
  obtain ⟨ad, rfl, hb, hcell⟩ := h.2 (by omega)
  rw [if_neg (by omega)]
  refine ⟨ad.add (k * size), rfl, by rw [blockAdd]; exact hb, fun j u hu => ?_⟩
  rw [addAdd]
  exact hcell _ u (by rw [← hu, List.getElem?_drop])
theorem Rd.of_own {base : Nat} {e : TypeId} {c : Nat} (h : w.ownsRow base e size (.slice A n c) n xs) : Rd w size A n xs := by
  refine ⟨h.1, fun hn => ?_⟩
  obtain ⟨g, cap, hv, _, hlt⟩ := h.form hn
  have hA : A = some ⟨g, 0, none⟩ := by injection hv
  subst hA
  exact ⟨_, rfl, hlt, h.cells (g := g) rfl⟩
end

theorem Rd.news {w : World} {size n : Nat} {ad : Addr} {xs : List Value} (h : Rd w size (some ad) n xs) : ∀ j u, xs[j]? = some u → w.cell? (ad.add j) = some u := by
  intro j u hu
  rcases Nat.eq_zero_or_pos n with h0 | h0
  · subst h0
    have hn : xs = [] := List.eq_nil_of_length_eq_zero (by simpa using h.1)
    subst hn
    simp at hu
  · obtain ⟨ad', e, _, hc⟩ := h.2 h0
    injection e with e
    subst e
    exact hc j u hu
/-- What a row of the call's own looks like as a value: a slice of that length. -/
theorem own_form {w : World} {base : Nat} {e : TypeId} {size : Nat} {v : Value} {n : Nat} {xs : List Value} (h : w.ownsRow base e size v n xs) : ∃ A c, v = .slice A n c ∧ n ≤ c := by
  rcases h.2 with ⟨rfl, rfl⟩ | ⟨g, cap, cur, rfl, _, _, hnc, _⟩
  · exact ⟨none, 0, rfl, Nat.le_refl _⟩
  · exact ⟨_, _, rfl, hnc⟩

/-- The slice type T has elements of type E, of so many cells and bytes. -/
def SliceOf (P : Program) (T E : TypeId) (size bytes : Nat) : Prop :=
  P.underlying T = some (.slice E) ∧ ∃ i z, P.info? E = some i ∧ i.zero = some z ∧ i.size = size ∧ i.bytes = bytes ∧ z.cells.size = size
theorem SliceOf.mk_ {P : Program} {T E : TypeId} {size bytes : Nat} {z : Value} (h : P.underlying T = some (.slice E)) (hi : (P.info? E).map (fun i => (i.zero, i.size, i.bytes)) = some (some z, size, bytes)) (hz : z.cells.size = size) : SliceOf P T E size bytes := by
  obtain ⟨i, h1, h2, h3, h4⟩ := info_parts hi
  exact ⟨h, i, z, h1, h2, h3, h4, hz⟩

/-- append onto a row of the call's own, the source at an address. -/
theorem wpList_app {P : Program} {w : World} {ops : Array Oper} {rest : List Oper} {o : Oper} {a : Act} {Q : Exit → Act → World → Prop} (hgd : o.guard = none) (s x : Operand) (t : TypeId)
    (ho : o.op = .call { callee := .builtin .append, args := #[s, x], argTypes := #[t, t] })
    {base : Nat} {e : TypeId} {size bytes : Nat} (S : SliceOf P t e size bytes) (hsz : 0 < size)
    (v : Value) (n : Nat) (xs : List Value) (hs : a.eval s = v) (hown : w.ownsRow base e size v n xs)
    (ad : Addr) (m c : Nat) (news : List Value) (hx : a.eval x = .slice (some ad) m c) (hl : news.length = m * size) (hnews : ∀ j u, news[j]? = some u → w.cell? (ad.add j) = some u) (h1 : ∀ u ∈ news, u.oneCell' = true)
    (hbytes : (n + m) * bytes ≤ 140737488355328) (h63 : n + m ≤ maxLen) (hbase : base ≤ w.heap.size)
    (h : ∀ v' w', w'.ownsRow base e size v' (n + m) (xs ++ news) → w.grownBy w' v.ownBlock → (v'.ownBlock = v.ownBlock ∨ v'.ownBlock = some w.heap.size) → wpList P ops Q rest (a.put o.dst v') w') :
    wpList P ops Q (o :: rest) a w := by
  obtain ⟨ht, i, z, hi, hz, hs1, hb1, hzs⟩ := S
  exact wpList_append_own_at w hgd s x t ho base e i z size bytes ht hi hz hs1 hb1 hzs hsz v n xs hs hown ad m c news hx hl hnews h1 h63 hbytes hbase (fun v' w' a1 a2 _ a4 => h v' w' a1 a2 a4)

theorem run_app_nil {P : Program} (w : World) (base : Nat) (t ty e : TypeId) (size bytes : Nat) (S : SliceOf P t e size bytes)
    (v : Value) (n : Nat) (xs : List Value) (hown : w.ownsRow base e size v n xs) (c : Nat) : (Builtin.append_ #[t, t] ty #[v, .slice none 0 c]).run P w = .ok v w := by
  obtain ⟨ht, i, z, hi, hz, hs1, hb1, hzs⟩ := S
  rcases hown.2 with ⟨rfl, rfl⟩ | ⟨g, cap, cur, rfl, _, _, hnc, _⟩
  · simp [Builtin.append_, run_underlying ht, sizeOf, typeInfo, hi, Builtin.lenOf, Builtin.firstCells]
  · simp [Builtin.append_, run_underlying ht, sizeOf, typeInfo, hi, Builtin.lenOf, Builtin.firstCells, hnc, storeCells]

/-- append onto a row of the call's own, the source any slice that reads as 'news', nil too. -/
theorem wpList_appR {P : Program} {w : World} {ops : Array Oper} {rest : List Oper} {o : Oper} {a : Act} {Q : Exit → Act → World → Prop} (hgd : o.guard = none) (s x : Operand) (t : TypeId)
    (ho : o.op = .call { callee := .builtin .append, args := #[s, x], argTypes := #[t, t] })
    {base : Nat} {e : TypeId} {size bytes : Nat} (S : SliceOf P t e size bytes) (hsz : 0 < size)
    (v : Value) (n : Nat) (xs : List Value) (hs : a.eval s = v) (hown : w.ownsRow base e size v n xs)
    (A : Option Addr) (m c : Nat) (news : List Value) (hx : a.eval x = .slice A m c) (hr : Rd w size A m news) (h1 : ∀ u ∈ news, u.oneCell' = true)
    (hbytes : (n + m) * bytes ≤ 140737488355328) (h63 : n + m ≤ maxLen) (hbase : base ≤ w.heap.size)
    (h : ∀ v' w', w'.ownsRow base e size v' (n + m) (xs ++ news) → w.grownBy w' v.ownBlock → (v'.ownBlock = v.ownBlock ∨ v'.ownBlock = some w.heap.size) → wpList P ops Q rest (a.put o.dst v') w') :
    wpList P ops Q (o :: rest) a w := by
  rcases A with _ | ad
  · have hm : m = 0 := by
      rcases Nat.eq_zero_or_pos m with h0 | h0
      · exact h0
      · obtain ⟨_, e, _⟩ := hr.2 h0
        cases e
    subst hm
    have hn : news = [] := List.eq_nil_of_length_eq_zero (by simpa using hr.1)
    subst hn
    have hrun := run_app_nil (P := P) w base t o.type e size bytes S v n xs hown c
    refine wpList_plain hgd fun K hK => ?_
    unfold Oper.wp execOp
    simp only [ho, resolve, invoke, builtin, Sem.run_bind, Sem.run_pure, Result.andThen_ok, List.map_toArray, List.map_cons, List.map_nil, hs, hx, hrun]
    exact hK _ _ (h v w (by simpa using hown) (World.grownBy.refl w _) (.inl rfl))
  · exact wpList_app hgd s x t ho S hsz v n xs hs hown ad m c news hx hr.1 hr.news h1 hbytes h63 hbase h

/-- make([]T, 0, n). -/
theorem wpList_mk {P : Program} {w : World} {ops : Array Oper} {rest : List Oper} {o : Oper} {a : Act} {Q : Exit → Act → World → Prop}
    (hg : o.guard = none) (l c : Operand) (t : TypeId) (hop : o.op = Op.makeSlice t l c)
    {base : Nat} {e : TypeId} {size bytes : Nat} (S : SliceOf P t e size bytes)
    {kl kc : IntKind} (C : Int) (n : Nat) (hl : a.eval l = .int kl 0) (hc : a.eval c = .int kc C) (hC : C = (n : Int)) (b2 : bytes * n ≤ 281474976710656) (b3 : n ≤ maxLen) (b4 : base ≤ w.heap.size)
    (hK : ∀ v' w', w'.ownsRow base e size v' 0 [] → w.grownBy w' none → wpList P ops Q rest (a.put o.dst v') w') :
    wpList P ops Q (o :: rest) a w := by
  obtain ⟨ht, i, z, hi, hz, hs1, hb1, hzs⟩ := S
  exact wpList_make_own w hg l c t hop base e i z size ht hi hz hs1 kl kc C n hl hc hC (by rw [hb1]; exact b2) b3 b4 (fun w' a1 a2 => hK _ w' a1 a2)

/-- make([]T, n), T of one cell. -/
theorem wpList_mkFull {P : Program} {w : World} {ops : Array Oper} {rest : List Oper} {o : Oper} {a : Act} {Q : Exit → Act → World → Prop}
    (hg : o.guard = none) (l c : Operand) (t : TypeId) (hop : o.op = Op.makeSlice t l c)
    {base : Nat} {e : TypeId} {bytes : Nat} {z : Value} (ht : P.underlying t = some (.slice e)) (hin : (P.info? e).map (fun i => (i.zero, i.size, i.bytes)) = some (some z, 1, bytes)) (hz : z.cells = #[z])
    {kl kc : IntKind} (L C : Int) (n : Nat) (hl : a.eval l = .int kl L) (hc : a.eval c = .int kc C) (hL : L = (n : Int)) (hC : C = (n : Int)) (b2 : bytes * n ≤ 281474976710656) (b3 : n ≤ maxLen) (b4 : base ≤ w.heap.size)
    (hK : ∀ w', w'.ownsRow base e 1 (.slice (some ⟨w.heap.size, 0, none⟩) n n) n (List.replicate n z) → w.grownBy w' none → wpList P ops Q rest (a.put o.dst (.slice (some ⟨w.heap.size, 0, none⟩) n n)) w') :
    wpList P ops Q (o :: rest) a w := by
  obtain ⟨i, h1, h2, h3, h4⟩ := info_parts hin
  refine wpList_make_full w hg l c t hop base e i z 1 ht h1 h2 h3 kl kc L C n hl hc hL hC (by rw [h4]; exact b2) b3 b4 (fun w' a1 a2 => hK w' ?_ a2)
  rw [hz, Nat.mul_one, toList_madeCells_one] at a1
  exact a1

theorem addNew (g j : Nat) : (⟨g, 0, none⟩ : Addr).add j = ⟨g, j, none⟩ := by
  unfold Addr.add
  split
  · rename_i h; subst h; rfl
  · simp
/-- The cells of a new block. -/
theorem cells_new (w : World) (cs : List Value) (t : TypeId) : ∀ j u, cs[j]? = some u → (w.alloc (.cells cs.toArray t)).cell? ((⟨w.heap.size, 0, none⟩ : Addr).add j) = some u := by
  intro j u hj
  rw [addNew, World.cell?_alloc_at _ _ _ _ rfl]
  simpa using hj

theorem Rd.new_ (w : World) (cs : List Value) (t : TypeId) : Rd (w.alloc (.cells cs.toArray t)) 1 (some ⟨w.heap.size, 0, none⟩) cs.length cs :=
  ⟨by simp, fun _ => ⟨_, rfl, by simp, cells_new w cs t⟩⟩
theorem cell_lt {w : World} {a : Addr} {v : Value} (h : w.cell? a = some v) : a.block < w.heap.size := by
  unfold World.cell? at h
  rcases Nat.lt_or_ge a.block w.heap.size with hlt | hge
  · exact hlt
  · rw [Array.getElem?_eq_none hge] at h; cases h
theorem cell_below {w w' : World} {a : Addr} {v : Value} (hb : Below w.heap.size w w') (h : w.cell? a = some v) : w'.cell? a = some v := (hb.cell (cell_lt h)).trans h
theorem below_self {w a b : World} (h : Below w.heap.size w a) (k : Below a.heap.size a b) : Below w.heap.size w b := h.trans (k.mono h.size)
theorem below_new (w : World) (o : Obj) : Below w.heap.size w (w.alloc o) := (Below.refl _ _).alloc (Nat.le_refl _) o
theorem below_drew {w a : World} (h : Below w.heap.size w a) (n : Nat) : Below w.heap.size w (a.drewN n) := ⟨h.os, h.tape, h.output, h.size, h.block⟩
theorem oneInt (k : IntKind) (x : Int) : ∀ u ∈ [Value.int k x], u.oneCell' = true := by
  intro u hu
  simp at hu
  subst hu
  rfl
theorem oneInt2 (k : IntKind) (x y : Int) : ∀ u ∈ [Value.int k x, .int k y], u.oneCell' = true := by
  intro u hu
  simp at hu
  rcases hu with rfl | rfl <;> rfl
theorem oneInts (k : IntKind) (xs : List Int) : ∀ u ∈ xs.map (Value.int k), u.oneCell' = true := by
  intro u hu
  simp at hu
  obtain ⟨x, _, rfl⟩ := hu
  rfl
/-- A row below which all stood is told of what it was of. -/
theorem ownBlock_slice (A : Option Addr) (n c k : Nat) (h : (Value.slice A n c).ownBlock = some k) : ∃ a, A = some a ∧ a.block = k := by
  rcases A with _ | a
  · cases h
  · exact ⟨a, rfl, by injection h⟩
theorem below_app {B : Nat} {w0 w w' : World} {e : TypeId} {size n : Nat} {v : Value} {xs : List Value} (h : Below B w0 w) (hg : w.grownBy w' v.ownBlock) (hown : w.ownsRow B e size v n xs) (hB : B ≤ w.heap.size) : Below B w0 w' :=
  h.grown hg hB (fun k hk => (hown.lt k hk).1)

theorem retB {a b : Bool} (h : a = true ↔ b = true) : Ending.returned (.bool a) = .returned (.bool b) := by rw [Bool.eq_iff_iff.2 h]
theorem retI {a b : Int} (h : a = b) : Ending.returned (.int .i64 a) = .returned (.int .i64 b) := by rw [h]
theorem drewBelow {w : World} (n : Nat) : Below w.heap.size w (w.drewN n) := ⟨rfl, rfl, rfl, Nat.le_refl _, fun _ _ => rfl⟩
theorem below_drewN {B : Nat} {a w : World} (h : Below B a w) (n : Nat) : Below B a (w.drewN n) := ⟨h.os, h.tape, h.output, h.size, h.block⟩
end Go.Proofs.Ytcjcimdembkbkaa
/- Spans as data: what a span is, the cells of a slice of spans; no function of the program. -/
namespace Go.Proofs.Ytcjcimdembkbkaa
open Go.RowKit

abbrev Sp := Int × Int
def rightB (s : Sp) : Bool := decide (0 ≤ s.1 ∧ s.1 < s.2)
def sizeS (s : Sp) : Int := if rightB s = true then s.2 - s.1 else 0
def hasB (s : Sp) (at_ : Int) : Bool := decide (s.1 ≤ at_ ∧ at_ < s.2)
def encS (s : Sp) : List Value := [.int .i64 s.1, .int .i64 s.2]
def cellsS (l : List Sp) : List Value := l.flatMap encS
def valS (s : Sp) : Value := .agg #[.int .i64 s.1, .int .i64 s.2]
def Fit (x : Int) : Prop := -9223372036854775808 ≤ x ∧ x ≤ 9223372036854775807

theorem cellsS_len (l : List Sp) : (cellsS l).length = l.length * 2 := by
  induction l with
  | nil => rfl
  | cons s l ih =>
    show (encS s ++ cellsS l).length = _
    rw [List.length_append, ih, List.length_cons]
    simp only [encS, List.length_cons, List.length_nil]
    omega
theorem cellsS_at {l : List Sp} {k : Nat} {s : Sp} (h : l[k]? = some s) : (cellsS l)[k * 2]? = some (.int .i64 s.1) ∧ (cellsS l)[k * 2 + 1]? = some (.int .i64 s.2) := by
  induction l generalizing k with
  | nil => simp at h
  | cons t l ih =>
    have hc : cellsS (t :: l) = .int .i64 t.1 :: .int .i64 t.2 :: cellsS l := rfl
    cases k with
    | zero =>
      simp at h
      subst h
      exact ⟨rfl, rfl⟩
    | succ k =>
      have := ih (k := k) (by simpa using h)
      rw [hc]
      have e1 : (k + 1) * 2 = k * 2 + 1 + 1 := by omega
      have e2 : (k + 1) * 2 + 1 = (k * 2 + 1) + 1 + 1 := by omega
      rw [e2, e1]
      simpa using this

theorem addNext (a : Addr) (j i : Nat) : a.add (j + (i + 1)) = ⟨(a.add j).block, (a.add j).off + (i + 1), none⟩ := by
  unfold Addr.add
  by_cases hj : j = 0
  · subst hj; simp
  · simp [hj]; omega
/-- The two cells of a span in a slice, as the walk spells them. -/
theorem Rd.span {w : World} {A : Option Addr} {n k : Nat} {l : List Sp} {s : Sp} (hr : Rd w 2 A n (cellsS l)) (h : l[k]? = some s) : ∃ ad, A = some ad ∧ ad.block < w.heap.size ∧ w.cell? (ad.add (k * 2)) = some (.int .i64 s.1) ∧ w.cell? ⟨(ad.add (k * 2)).block, (ad.add (k * 2)).off + 1, none⟩ = some (.int .i64 s.2) := by
  have hlen : l.length * 2 = n * 2 := by rw [← cellsS_len]; exact hr.1
  have hk := (List.getElem?_eq_some_iff.1 h).1
  obtain ⟨ad, rfl, hb, hc⟩ := hr.2 (by omega)
  obtain ⟨e1, e2⟩ := cellsS_at h
  refine ⟨ad, rfl, hb, hc _ _ e1, ?_⟩
  have := hc _ _ e2
  rwa [addNext ad (k * 2) 0] at this

end Go.Proofs.Ytcjcimdembkbkaa
/- A block of one span, known whole, and what becomes of it. -/
namespace Go.Proofs.Ytcjcimdembkbkaa
open Go.RowKit

/-- A block of one span, known whole, that may be written. -/
def SpanBlk (w : World) (b : Nat) (s : Sp) : Prop := w.cell? ⟨b, 0, none⟩ = some (.int .i64 s.1) ∧ w.cell? ⟨b, 1, none⟩ = some (.int .i64 s.2) ∧ w.frozen? ⟨b, 0, none⟩ = false ∧ w.frozen? ⟨b, 1, none⟩ = false

theorem SpanBlk.below {w w' : World} {b : Nat} {s : Sp} (h : SpanBlk w b s) (hb : Below w.heap.size w w') : SpanBlk w' b s :=
  ⟨cell_below hb h.1, cell_below hb h.2.1, (hb.frozen (cell_lt h.1)).trans h.2.2.1, (hb.frozen (cell_lt h.2.1)).trans h.2.2.2⟩
theorem SpanBlk.put {w : World} {b : Nat} {s : Sp} (h : SpanBlk w b s) (x y : Int) : SpanBlk ((w.setCell ⟨b, 0, none⟩ (.int .i64 x)).setCell ⟨b, 1, none⟩ (.int .i64 y)) b (x, y) := by
  obtain ⟨h0, h1, h2, h3⟩ := h
  have e1 : (w.setCell ⟨b, 0, none⟩ (.int .i64 x)).cell? ⟨b, 1, none⟩ = some (.int .i64 s.2) := (World.cell?_setCell_other (h := by simp) ..).trans h1
  refine ⟨?_, World.cell?_setCell_same (h := e1) .., ?_, ?_⟩
  · exact (World.cell?_setCell_other (h := by simp) ..).trans (World.cell?_setCell_same (h := h0) ..)
  · rw [World.frozen?_setCell, World.frozen?_setCell]; exact h2
  · rw [World.frozen?_setCell, World.frozen?_setCell]; exact h3
theorem SpanBlk.far {w : World} {b b' : Nat} {s : Sp} (h : SpanBlk w b s) (hne : b ≠ b') (u v : Value) : SpanBlk ((w.setCell ⟨b', 0, none⟩ u).setCell ⟨b', 1, none⟩ v) b s := by
  obtain ⟨h0, h1, h2, h3⟩ := h
  refine ⟨?_, ?_, ?_, ?_⟩
  · exact (World.cell?_setCell_other (h := by first | (simp; done) | (simp; omega)) ..).trans ((World.cell?_setCell_other (h := by first | (simp; done) | (simp; omega)) ..).trans h0)
  · exact (World.cell?_setCell_other (h := by first | (simp; done) | (simp; omega)) ..).trans ((World.cell?_setCell_other (h := by first | (simp; done) | (simp; omega)) ..).trans h1)
  · rw [World.frozen?_setCell, World.frozen?_setCell]; exact h2
  · rw [World.frozen?_setCell, World.frozen?_setCell]; exact h3

theorem only_setCell {a w : World} {g : Nat} (h : a.grownBy w (some g)) {p : Addr} (hp : p.block = g ∨ a.heap.size ≤ p.block) (u : Value) : a.grownBy (w.setCell p u) (some g) :=
  ⟨h.os, h.tape, h.output, by simpa [World.setCell] using h.size, fun i hi hne => (Below.heap_setCell w p u i (by
    rintro rfl
    rcases hp with hp | hp
    · exact hne (by rw [hp])
    · omega)).trans (h.block i hi hne)⟩
theorem SpanBlk.grown {w w' : World} {b : Nat} {s : Sp} {row : Option Nat} (h : SpanBlk w b s) (hg : w.grownBy w' row) (hne : row ≠ some b) : SpanBlk w' b s := by
  obtain ⟨h0, h1, h2, h3⟩ := h
  have hb := cell_lt h0
  have e := hg.block b hb (fun e => hne e.symm)
  have ec : ∀ i, w'.cell? ⟨b, i, none⟩ = w.cell? ⟨b, i, none⟩ := fun i => World.cell?_of_block (a := ⟨b, i, none⟩) e
  have ef : ∀ i, w'.frozen? ⟨b, i, none⟩ = w.frozen? ⟨b, i, none⟩ := fun i => by unfold World.frozen?; rw [e]
  exact ⟨(ec 0).trans h0, (ec 1).trans h1, (ef 0).trans h2, (ef 1).trans h3⟩
theorem SpanBlk.put0 {w : World} {b : Nat} {s : Sp} (h : SpanBlk w b s) (x : Int) : SpanBlk (w.setCell ⟨b, 0, none⟩ (.int .i64 x)) b (x, s.2) := by
  obtain ⟨h0, h1, h2, h3⟩ := h
  refine ⟨World.cell?_setCell_same (h := h0) .., (World.cell?_setCell_other (h := by simp) ..).trans h1, ?_, ?_⟩
  · rw [World.frozen?_setCell]; exact h2
  · rw [World.frozen?_setCell]; exact h3
theorem own_set_far {w : World} {base : Nat} {e : TypeId} {size n b i : Nat} {v u : Value} {xs : List Value} (h : w.ownsRow base e size v n xs) (hne : v.ownBlock ≠ some b) : (w.setCell ⟨b, i, none⟩ u).ownsRow base e size v n xs :=
  h.kept (row := some b) (only_setCell (World.grownBy.refl w _) (.inl rfl) u) (.inr hne)
theorem below_make {w w' : World} (hg : w.grownBy w' none) : Below w.heap.size w w' := (Below.refl _ _).grown hg (Nat.le_refl _) (fun k hk => by cases hk)
theorem SpanBlk.new_ (w : World) (x y : Int) (t : TypeId) : SpanBlk (w.alloc (.cells #[.int .i64 x, .int .i64 y] t)) w.heap.size (x, y) := by
  refine ⟨?_, ?_, ?_, ?_⟩ <;> simp [go_sem]

end Go.Proofs.Ytcjcimdembkbkaa
/- Whether spans are parts, as plain mathematics. -/
namespace Go.Proofs.Ytcjcimdembkbkaa
open Go.RowKit
/-- Whether spans are parts from 'end_' on to n. -/
def partsFrom : Int → List Sp → Int → Bool
  | e, [], n => e == n
  | e, s :: l, n => rightB s && (s.1 == e) && partsFrom s.2 l n
def partsS (l : List Sp) (n : Int) : Bool := partsFrom 0 l n
theorem partsFrom_no {e n : Int} {l : List Sp} {s : Sp} (h : rightB s = false ∨ (s.1 == e) = false) : partsFrom e (s :: l) n = false := by
  unfold partsFrom
  rcases h with h | h <;> simp [h]
theorem partsFrom_yes {e n : Int} {l : List Sp} {s : Sp} (h : rightB s = true) (h' : (s.1 == e) = true) : partsFrom e (s :: l) n = partsFrom s.2 l n := by
  show (rightB s && (s.1 == e) && partsFrom s.2 l n) = _
  rw [h, h']; rfl
theorem dropCons {α : Type} {l : List α} {k : Nat} {x : α} (h : l[k]? = some x) : l.drop k = x :: l.drop (k + 1) := by
  obtain ⟨hk, rfl⟩ := List.getElem?_eq_some_iff.1 h
  exact List.drop_eq_getElem_cons hk
end Go.Proofs.Ytcjcimdembkbkaa
/- Ranges of codes as data: the cells of a slice of ranges; which may be; the value of a code. -/
namespace Go.Proofs.Ytcjcimdembkbkaa
open Go.RowKit

/-- A range: Lo, Hi, Value. -/
abbrev Rg := Int × Int × Int
def encG (r : Rg) : List Value := [.int .i64 r.1, .int .i64 r.2.1, .int .i64 r.2.2]
def cellsG (l : List Rg) : List Value := l.flatMap encG
theorem cellsG_snoc (l : List Rg) (r : Rg) : cellsG (l ++ [r]) = cellsG l ++ [.int .i64 r.1, .int .i64 r.2.1, .int .i64 r.2.2] := by simp [cellsG, encG]
theorem cellsG_len (l : List Rg) : (cellsG l).length = l.length * 3 := by
  induction l with
  | nil => rfl
  | cons s l ih =>
    show (encG s ++ cellsG l).length = _
    rw [List.length_append, ih, List.length_cons]
    simp only [encG, List.length_cons, List.length_nil]
    omega
theorem cellsG_at {l : List Rg} {k : Nat} {s : Rg} (h : l[k]? = some s) : (cellsG l)[k * 3]? = some (.int .i64 s.1) ∧ (cellsG l)[k * 3 + 1]? = some (.int .i64 s.2.1) ∧ (cellsG l)[k * 3 + 2]? = some (.int .i64 s.2.2) := by
  induction l generalizing k with
  | nil => simp at h
  | cons t l ih =>
    have hc : cellsG (t :: l) = .int .i64 t.1 :: .int .i64 t.2.1 :: .int .i64 t.2.2 :: cellsG l := rfl
    cases k with
    | zero =>
      simp at h
      subst h
      exact ⟨rfl, rfl, rfl⟩
    | succ k =>
      have := ih (k := k) (by simpa using h)
      rw [hc]
      have e0 : (k + 1) * 3 = k * 3 + 1 + 1 + 1 := by omega
      have e1 : (k + 1) * 3 + 1 = (k * 3 + 1) + 1 + 1 + 1 := by omega
      have e2 : (k + 1) * 3 + 2 = (k * 3 + 2) + 1 + 1 + 1 := by omega
      rw [e2, e1, e0]
      simpa using this
/-- The three cells of a range in a slice, as the walk spells them. -/
theorem Rd.rg {w : World} {A : Option Addr} {n k : Nat} {l : List Rg} {s : Rg} (hr : Rd w 3 A n (cellsG l)) (h : l[k]? = some s) : ∃ ad, A = some ad ∧ ad.block < w.heap.size ∧ w.cell? (ad.add (k * 3)) = some (.int .i64 s.1) ∧
    w.cell? ⟨(ad.add (k * 3)).block, (ad.add (k * 3)).off + 1, none⟩ = some (.int .i64 s.2.1) ∧ w.cell? ⟨(ad.add (k * 3)).block, (ad.add (k * 3)).off + 2, none⟩ = some (.int .i64 s.2.2) := by
  have hlen : l.length * 3 = n * 3 := by rw [← cellsG_len]; exact hr.1
  have hk := (List.getElem?_eq_some_iff.1 h).1
  obtain ⟨ad, rfl, hb, hc⟩ := hr.2 (by omega)
  obtain ⟨e0, e1, e2⟩ := cellsG_at h
  have h1 := hc _ _ e1
  have h2 := hc _ _ e2
  rw [addNext ad (k * 3) 0] at h1
  rw [addNext ad (k * 3) 1] at h2
  exact ⟨ad, rfl, hb, hc _ _ e0, h1, h2⟩
theorem Rd.lenG {w : World} {A : Option Addr} {n : Nat} {l : List Rg} (hr : Rd w 3 A n (cellsG l)) : l.length = n := by
  have := hr.1
  rw [cellsG_len] at this
  omega

/-- Whether ranges rise behind 'last'. -/
def riseB (last : Int) : List Rg → Bool
  | [] => true
  | r :: l => if r.1 ≤ last ∨ r.2.1 < r.1 ∨ 1114111 < r.2.1 then false else riseB r.2.1 l
theorem riseB_no {last : Int} {l : List Rg} {r : Rg} (h : r.1 ≤ last ∨ r.2.1 < r.1 ∨ 1114111 < r.2.1) : riseB last (r :: l) = false := if_pos h
theorem riseB_yes {last : Int} {l : List Rg} {r : Rg} (h : ¬ (r.1 ≤ last ∨ r.2.1 < r.1 ∨ 1114111 < r.2.1)) : riseB last (r :: l) = riseB r.2.1 l := if_neg h
/-- The value of a code: the first range's that has it. -/
def getG (l : List Rg) (none_ c : Int) : Int :=
  match l with
  | [] => none_
  | r :: l => if r.1 ≤ c ∧ c ≤ r.2.1 then r.2.2 else getG l none_ c
/-- What Build tells of ranges. -/
def errG (l : List Rg) : Int := if 4096 < l.length then 6 else if riseB (-1) l = true then 0 else 10
end Go.Proofs.Ytcjcimdembkbkaa
/- The given forms: letters, ligatures, accents, piles, as lists. -/
namespace Go.Proofs.Ytcjcimdembkbkaa

/-- A letter: its code, its forms isolated, final, initial, medial. -/
abbrev Lt := Int × Int × Int × Int × Int
def letL : List Lt := [(1569, 65152, 0, 0, 0), (1570, 65153, 65154, 0, 0), (1571, 65155, 65156, 0, 0), (1572, 65157, 65158, 0, 0), (1573, 65159, 65160, 0, 0), (1574, 65161, 65162, 65163, 65164), (1575, 65165, 65166, 0, 0), (1576, 65167, 65168, 65169, 65170), (1577, 65171, 65172, 0, 0), (1578, 65173, 65174, 65175, 65176), (1579, 65177, 65178, 65179, 65180), (1580, 65181, 65182, 65183, 65184), (1581, 65185, 65186, 65187, 65188), (1582, 65189, 65190, 65191, 65192), (1583, 65193, 65194, 0, 0), (1584, 65195, 65196, 0, 0), (1585, 65197, 65198, 0, 0), (1586, 65199, 65200, 0, 0), (1587, 65201, 65202, 65203, 65204), (1588, 65205, 65206, 65207, 65208), (1589, 65209, 65210, 65211, 65212), (1590, 65213, 65214, 65215, 65216), (1591, 65217, 65218, 65219, 65220), (1592, 65221, 65222, 65223, 65224), (1593, 65225, 65226, 65227, 65228), (1594, 65229, 65230, 65231, 65232), (1601, 65233, 65234, 65235, 65236), (1602, 65237, 65238, 65239, 65240), (1603, 65241, 65242, 65243, 65244), (1604, 65245, 65246, 65247, 65248), (1605, 65249, 65250, 65251, 65252), (1606, 65253, 65254, 65255, 65256), (1607, 65257, 65258, 65259, 65260), (1608, 65261, 65262, 0, 0), (1609, 65263, 65264, 64488, 64489), (1610, 65265, 65266, 65267, 65268), (1649, 64336, 64337, 0, 0), (1655, 64477, 0, 0, 0), (1657, 64358, 64359, 64360, 64361), (1658, 64350, 64351, 64352, 64353), (1659, 64338, 64339, 64340, 64341), (1662, 64342, 64343, 64344, 64345), (1663, 64354, 64355, 64356, 64357), (1664, 64346, 64347, 64348, 64349), (1667, 64374, 64375, 64376, 64377), (1668, 64370, 64371, 64372, 64373), (1670, 64378, 64379, 64380, 64381), (1671, 64382, 64383, 64384, 64385), (1672, 64392, 64393, 0, 0), (1676, 64388, 64389, 0, 0), (1677, 64386, 64387, 0, 0), (1678, 64390, 64391, 0, 0), (1681, 64396, 64397, 0, 0), (1688, 64394, 64395, 0, 0), (1700, 64362, 64363, 64364, 64365), (1702, 64366, 64367, 64368, 64369), (1705, 64398, 64399, 64400, 64401), (1709, 64467, 64468, 64469, 64470), (1711, 64402, 64403, 64404, 64405), (1713, 64410, 64411, 64412, 64413), (1715, 64406, 64407, 64408, 64409), (1722, 64414, 64415, 0, 0), (1723, 64416, 64417, 64418, 64419), (1726, 64426, 64427, 64428, 64429), (1728, 64420, 64421, 0, 0), (1729, 64422, 64423, 64424, 64425), (1733, 64480, 64481, 0, 0), (1734, 64473, 64474, 0, 0), (1735, 64471, 64472, 0, 0), (1736, 64475, 64476, 0, 0), (1737, 64482, 64483, 0, 0), (1739, 64478, 64479, 0, 0), (1740, 64508, 64509, 64510, 64511), (1744, 64484, 64485, 64486, 64487), (1746, 64430, 64431, 0, 0), (1747, 64432, 64433, 0, 0)]
def ligL : List Rg := [(1570, 65269, 65270), (1571, 65271, 65272), (1573, 65273, 65274), (1575, 65275, 65276)]
def accL : List Rg := [(1611, 65136, 65137), (1612, 65138, 0), (1613, 65140, 0), (1614, 65142, 65143), (1615, 65144, 65145), (1616, 65146, 65147), (1617, 65148, 65149), (1618, 65150, 65151)]
def pilL : List Sp := [(1612, 64606), (1613, 64607), (1614, 64608), (1615, 64609), (1616, 64610), (1648, 64611)]
end Go.Proofs.Ytcjcimdembkbkaa
/- Forms as data: what the project and the reference tell of codes, as functions; they are the same, and go back. -/
namespace Go.Proofs.Ytcjcimdembkbkaa
open Go.RowKit

def formsOf (t : Lt) : List Int := [t.2.1, t.2.2.1, t.2.2.2.1, t.2.2.2.2]
/-- The code at a place, if there is one. -/
def pickF (k : Int) (l : List Int) : Int × Bool := if k < 0 ∨ (l.length : Int) ≤ k then (0, false) else (l.getD k.toNat 0, decide (l.getD k.toNat 0 ≠ 0))
/-- The place of a code among some, from 1 on; 0: it is not there, or is none. -/
def hitF (c : Int) : List Int → Nat
  | [] => 0
  | x :: l => if c = 0 then 0 else if x = c then 1 else match hitF c l with
    | 0 => 0
    | k + 1 => k + 2
/-- Form, as the reference goes. -/
def formR (b f : Int) : List Lt → Int × Bool
  | [] => (0, false)
  | t :: l => if t.1 = b ∧ 1 ≤ f ∧ f ≤ 4 ∧ (formsOf t).getD (f - 1).toNat 0 ≠ 0 then ((formsOf t).getD (f - 1).toNat 0, true) else formR b f l
/-- Form, as the project goes. -/
def formP (b f : Int) (l : List Lt) : Int × Bool := match l.find? (fun t => decide (t.1 = b)) with
  | none => (0, false)
  | some t => pickF (f - 1) (formsOf t)
def baseR (c : Int) : List Lt → Int × Int × Bool
  | [] => (0, 0, false)
  | t :: l => if hitF c (formsOf t) = 0 then baseR c l else (t.1, (hitF c (formsOf t) : Nat), true)
def twoR (r : Rg) : List Int := [r.2.1, r.2.2]
def ligR (a f : Int) : List Rg → Int × Bool
  | [] => (0, false)
  | r :: l => if r.1 = a then (if f = 1 then (r.2.1, true) else if f = 2 then (r.2.2, true) else ligR a f l) else ligR a f l
def ligP (a f : Int) : List Rg → Int × Bool
  | [] => (0, false)
  | r :: l => if r.1 = a then pickF (f - 1) (twoR r) else ligP a f l
def parR (c : Int) : List Rg → Int × Int × Bool
  | [] => (0, 0, false)
  | r :: l => if r.2.1 = c then (r.1, 1, true) else if r.2.2 = c then (r.1, 2, true) else parR c l
def parP (c : Int) : List Rg → Int × Int × Bool
  | [] => (0, 0, false)
  | r :: l => if hitF c (twoR r) = 0 then parP c l else (r.1, (hitF c (twoR r) : Nat), true)
def accR (m : Int) (d : Bool) : List Rg → Int × Bool
  | [] => (0, false)
  | r :: l => if r.1 = m then (if d = true then (r.2.2, decide (r.2.2 ≠ 0)) else (r.2.1, true)) else accR m d l
def accP (m : Int) (d : Bool) : List Rg → Int × Bool
  | [] => (0, false)
  | r :: l => if r.1 = m then (if d = true then (r.2.2, decide (r.2.2 ≠ 0)) else (r.2.1, decide (r.2.1 ≠ 0))) else accP m d l
def marR (c : Int) : List Rg → Int × Bool × Bool
  | [] => (0, false, false)
  | r :: l => if r.2.1 = c then (r.1, false, true) else if c ≠ 0 ∧ r.2.2 = c then (r.1, true, true) else marR c l
def marP (c : Int) : List Rg → Int × Bool × Bool
  | [] => (0, false, false)
  | r :: l => if hitF c (twoR r) = 0 then marP c l else (r.1, decide (hitF c (twoR r) = 2), true)
def pilR (m : Int) : List Sp → Int × Bool
  | [] => (0, false)
  | s :: l => if s.1 = m then (s.2, true) else pilR m l
def unpR (c : Int) : List Sp → Int × Bool
  | [] => (0, false)
  | s :: l => if s.2 = c then (s.1, true) else unpR c l

def formF (b f : Int) : Int × Bool := formR b f letL
def baseF (c : Int) : Int × Int × Bool := baseR c letL
def ligF (a f : Int) : Int × Bool := ligR a f ligL
def parF (c : Int) : Int × Int × Bool := parR c ligL
def accF (m : Int) (d : Bool) : Int × Bool := accR m d accL
def marF (c : Int) : Int × Bool × Bool := marR c accL
def pilF (m : Int) : Int × Bool := pilR m pilL
def unpF (c : Int) : Int × Bool := unpR c pilL
def preF (c : Int) : Bool := (baseF c).2.2 || (parF c).2.2 || (marF c).2.2 || (unpF c).2 || decide (c = 65139)

theorem hitF_none {c : Int} {l : List Int} (h : c = 0 ∨ c ∉ l) : hitF c l = 0 := by
  induction l with
  | nil => rfl
  | cons x l ih =>
    rw [hitF]
    by_cases h0 : c = 0
    · rw [if_pos h0]
    · rw [if_neg h0]
      rcases h with h | h
      · exact absurd h h0
      · rw [if_neg (fun e => h (by simp [e])), ih (.inr fun m => h (by simp [m]))]
theorem hitF_zero (l : List Int) : hitF 0 l = 0 := hitF_none (.inl rfl)
theorem baseR_none {c : Int} {l : List Lt} (h : ∀ t ∈ l, hitF c (formsOf t) = 0) : baseR c l = (0, 0, false) := by
  induction l with
  | nil => rfl
  | cons t l ih =>
    rw [baseR, if_pos (h t (by simp))]
    exact ih fun u hu => h u (by simp [hu])
/-- All forms of letters lie among the codes of forms. -/
theorem base_far {c : Int} (h : c < 64336 ∨ 65279 < c) : baseF c = (0, 0, false) := by
  refine baseR_none fun t ht => ?_
  have hall : (letL.all fun t => (formsOf t).all fun x => decide (x = 0 ∨ (64336 ≤ x ∧ x ≤ 65279))) = true := by decide +kernel
  have h1 := List.all_eq_true.1 hall t ht
  refine hitF_none ?_
  by_cases h0 : c = 0
  · exact .inl h0
  · refine .inr fun m => ?_
    have := List.all_eq_true.1 h1 c m
    simp only [decide_eq_true_eq] at this
    omega
theorem formR_none {b f : Int} {l : List Lt} (h : ∀ t ∈ l, t.1 ≠ b) : formR b f l = (0, false) := by
  induction l with
  | nil => rfl
  | cons t l ih =>
    rw [formR, if_neg (fun e => h t (by simp) e.1)]
    exact ih fun u hu => h u (by simp [hu])
theorem form_far {b f : Int} (h : b < 1536 ∨ 1791 < b) : formF b f = (0, false) := by
  refine formR_none fun t ht => ?_
  have hall : (letL.all fun t => decide (1536 ≤ t.1 ∧ t.1 ≤ 1791)) = true := by decide +kernel
  have := List.all_eq_true.1 hall t ht
  simp only [decide_eq_true_eq] at this
  omega
theorem pick_four (f : Int) (t : Lt) : pickF (f - 1) (formsOf t) = if 1 ≤ f ∧ f ≤ 4 ∧ (formsOf t).getD (f - 1).toNat 0 ≠ 0 then ((formsOf t).getD (f - 1).toNat 0, true) else (0, false) := by
  unfold pickF
  have hl : (formsOf t).length = 4 := rfl
  rw [hl]
  by_cases h1 : 1 ≤ f ∧ f ≤ 4
  · rw [if_neg (by omega)]
    by_cases h2 : (formsOf t).getD (f - 1).toNat 0 = 0
    · rw [if_neg (fun h => h.2.2 h2), h2]
      rfl
    · rw [if_pos ⟨h1.1, h1.2, h2⟩]
      exact Prod.ext rfl (decide_eq_true h2)
  · rw [if_pos (by omega), if_neg (fun h => h1 ⟨h.1, h.2.1⟩)]
theorem formP_eq (b f : Int) : ∀ l : List Lt, (l.Pairwise fun s t => s.1 ≠ t.1) → formP b f l = formR b f l
  | [], _ => rfl
  | t :: l, h => by
    have hp := List.pairwise_cons.1 h
    unfold formP
    rw [List.find?_cons, formR]
    by_cases hb : t.1 = b
    · simp only [hb, decide_true]
      rw [pick_four]
      by_cases h2 : 1 ≤ f ∧ f ≤ 4 ∧ (formsOf t).getD (f - 1).toNat 0 ≠ 0
      · rw [if_pos h2, if_pos ⟨trivial, h2⟩]
      · rw [if_neg h2, if_neg (fun h => h2 h.2), formR_none fun u hu e => hp.1 u hu (by rw [hb, e])]
    · simp only [hb, decide_false, false_and, if_false]
      exact formP_eq b f l hp.2
theorem formF_eq (b f : Int) : formF b f = formP b f letL := (formP_eq b f letL (by
  have h : (letL.map (·.1)).Pairwise (· < ·) := by decide +kernel
  rw [List.pairwise_map] at h
  exact h.imp fun h e => by omega)).symm
theorem ligP_eq (a f : Int) : ∀ l : List Rg, (l.Pairwise fun s t => s.1 ≠ t.1) → (∀ r ∈ l, r.2.1 ≠ 0 ∧ r.2.2 ≠ 0) → ligP a f l = ligR a f l
  | [], _, _ => rfl
  | r :: l, h, h0 => by
    have hp := List.pairwise_cons.1 h
    have hz := h0 r (by simp)
    rw [ligP, ligR]
    by_cases ha : r.1 = a
    · rw [if_pos ha, if_pos ha]
      by_cases f1 : f = 1
      · subst f1
        rw [if_pos rfl]
        show ((twoR r).getD 0 0, decide ((twoR r).getD 0 0 ≠ 0)) = _
        simp [twoR, hz.1]
      · by_cases f2 : f = 2
        · subst f2
          rw [if_neg (by omega), if_pos rfl]
          show ((twoR r).getD 1 0, decide ((twoR r).getD 1 0 ≠ 0)) = _
          simp [twoR, hz.2]
        · rw [if_neg f1, if_neg f2]
          have : ligR a f l = (0, false) := by
            have hne : ∀ u ∈ l, u.1 ≠ a := fun u hu e => hp.1 u hu (by rw [ha, e])
            clear hp h0 h
            induction l with
            | nil => rfl
            | cons u l ih =>
              rw [ligR, if_neg (hne u (by simp))]
              exact ih fun v hv => hne v (by simp [hv])
          rw [this, pickF, if_pos]
          show _ ∨ (2 : Int) ≤ _
          omega
    · rw [if_neg ha, if_neg ha]
      exact ligP_eq a f l hp.2 fun u hu => h0 u (by simp [hu])
theorem ligF_eq (a f : Int) : ligF a f = ligP a f ligL := (ligP_eq a f ligL (by decide +kernel) (by decide +kernel)).symm
theorem hit_two (c : Int) (r : Rg) : hitF c (twoR r) = if c = 0 then 0 else if r.2.1 = c then 1 else if r.2.2 = c then 2 else 0 := by
  by_cases h0 : c = 0
  · simp only [twoR, hitF, h0, if_true]
  · simp only [twoR, hitF, h0, if_false]
    by_cases h1 : r.2.1 = c
    · rw [if_pos h1, if_pos h1]
    · rw [if_neg h1, if_neg h1]
      by_cases h2 : r.2.2 = c
      · rw [if_pos h2]; simp [h2]
      · rw [if_neg h2]; simp [h2]
theorem parP_eq (c : Int) : ∀ l : List Rg, (∀ r ∈ l, r.2.1 ≠ 0 ∧ r.2.2 ≠ 0) → parP c l = parR c l
  | [], _ => rfl
  | r :: l, h0 => by
    have hz := h0 r (by simp)
    rw [parP, parR, hit_two, parP_eq c l fun u hu => h0 u (by simp [hu])]
    by_cases h : c = 0
    · subst h
      rw [if_pos rfl, if_pos rfl, if_neg hz.1, if_neg hz.2]
    · rw [if_neg h]
      by_cases h1 : r.2.1 = c
      · rw [if_pos h1, if_pos h1, if_neg (by omega)]; rfl
      · rw [if_neg h1, if_neg h1]
        by_cases h2 : r.2.2 = c
        · rw [if_pos h2, if_pos h2, if_neg (by omega)]; rfl
        · rw [if_neg h2, if_neg h2, if_pos rfl]
theorem parF_eq (c : Int) : parF c = parP c ligL := (parP_eq c ligL (by decide +kernel)).symm
theorem accP_eq (m : Int) (d : Bool) : ∀ l : List Rg, (∀ r ∈ l, r.2.1 ≠ 0) → accP m d l = accR m d l
  | [], _ => rfl
  | r :: l, h0 => by
    rw [accP, accR, accP_eq m d l fun u hu => h0 u (by simp [hu])]
    simp [h0 r (by simp)]
theorem accF_eq (m : Int) (d : Bool) : accF m d = accP m d accL := (accP_eq m d accL (by decide +kernel)).symm
theorem marP_eq (c : Int) : ∀ l : List Rg, (∀ r ∈ l, r.2.1 ≠ 0) → marP c l = marR c l
  | [], _ => rfl
  | r :: l, h0 => by
    have hz := h0 r (by simp)
    rw [marP, marR, hit_two, marP_eq c l fun u hu => h0 u (by simp [hu])]
    by_cases h : c = 0
    · subst h
      rw [if_pos rfl, if_pos rfl, if_neg hz, if_neg (fun e => e.1 rfl)]
    · rw [if_neg h]
      by_cases h1 : r.2.1 = c
      · rw [if_pos h1, if_pos h1, if_neg (by omega)]; rfl
      · rw [if_neg h1, if_neg h1]
        by_cases h2 : r.2.2 = c
        · rw [if_pos h2, if_neg (show ¬ (2 = 0) by omega), if_pos ⟨h, h2⟩]; rfl
        · rw [if_neg h2, if_pos rfl, if_neg (fun e => h2 e.2)]
theorem marF_eq (c : Int) : marF c = marP c accL := (marP_eq c accL (by decide +kernel)).symm

/-- A form is its letter's. -/
theorem formR_mem {b f a : Int} {l : List Lt} (h : formR b f l = (a, true)) : ∃ t ∈ l, t.1 = b ∧ 1 ≤ f ∧ f ≤ 4 ∧ (formsOf t).getD (f - 1).toNat 0 = a ∧ a ≠ 0 := by
  induction l with
  | nil => cases h
  | cons t l ih =>
    rw [formR] at h
    by_cases hc : t.1 = b ∧ 1 ≤ f ∧ f ≤ 4 ∧ (formsOf t).getD (f - 1).toNat 0 ≠ 0
    · rw [if_pos hc] at h
      injection h with h _
      exact ⟨t, by simp, hc.1, hc.2.1, hc.2.2.1, h, h ▸ hc.2.2.2⟩
    · rw [if_neg hc] at h
      obtain ⟨u, hu, r⟩ := ih h
      exact ⟨u, by simp [hu], r⟩
theorem form_back {b f a : Int} (h : formF b f = (a, true)) : baseF a = (b, f, true) ∧ preF a = true := by
  obtain ⟨t, ht, hb, h1, h2, ha, h0⟩ := formR_mem h
  have hall : (letL.all fun t => [1, 2, 3, 4].all fun f => decide ((formsOf t).getD (f - 1) 0 = 0 ∨ baseF ((formsOf t).getD (f - 1) 0) = (t.1, (f : Int), true))) = true := by decide +kernel
  have h3 := List.all_eq_true.1 hall t ht
  have hf : f.toNat = 1 ∨ f.toNat = 2 ∨ f.toNat = 3 ∨ f.toNat = 4 := by omega
  have h4 := List.all_eq_true.1 h3 f.toNat (by rcases hf with e | e | e | e <;> simp [e])
  rw [show f.toNat - 1 = (f - 1).toNat by omega, ha] at h4
  simp only [decide_eq_true_eq] at h4
  rcases h4 with h4 | h4
  · exact absurd h4 h0
  · have hbf : baseF a = (b, f, true) := by rw [h4, hb, show ((f.toNat : Nat) : Int) = f by omega]
    exact ⟨hbf, by rw [preF, hbf]; rfl⟩
theorem ligR_mem {b f a : Int} {l : List Rg} (h : ligR b f l = (a, true)) : ∃ r ∈ l, r.1 = b ∧ ((f = 1 ∧ r.2.1 = a) ∨ (f = 2 ∧ r.2.2 = a)) := by
  induction l with
  | nil => cases h
  | cons r l ih =>
    have hi : ligR b f l = (a, true) → ∃ u ∈ r :: l, u.1 = b ∧ ((f = 1 ∧ u.2.1 = a) ∨ (f = 2 ∧ u.2.2 = a)) := fun h => by
      obtain ⟨u, hu, r⟩ := ih h
      exact ⟨u, by simp [hu], r⟩
    rw [ligR] at h
    by_cases h1 : r.1 = b
    · rw [if_pos h1] at h
      by_cases f1 : f = 1
      · rw [if_pos f1] at h
        injection h with h _
        exact ⟨r, by simp, h1, .inl ⟨f1, h⟩⟩
      · rw [if_neg f1] at h
        by_cases f2 : f = 2
        · rw [if_pos f2] at h
          injection h with h _
          exact ⟨r, by simp, h1, .inr ⟨f2, h⟩⟩
        · rw [if_neg f2] at h
          exact hi h
    · rw [if_neg h1] at h
      exact hi h
theorem lig_back {b f a : Int} (h : ligF b f = (a, true)) : parF a = (b, f, true) := by
  obtain ⟨r, hr, hb, hc⟩ := ligR_mem h
  have hall : (ligL.all fun r => decide (parF r.2.1 = (r.1, 1, true) ∧ parF r.2.2 = (r.1, 2, true))) = true := by decide +kernel
  have h3 := List.all_eq_true.1 hall r hr
  simp only [decide_eq_true_eq] at h3
  rcases hc with ⟨rfl, rfl⟩ | ⟨rfl, rfl⟩
  · rw [h3.1, hb]
  · rw [h3.2, hb]

/-- No code is of two kinds: of how many a code is. -/
def one01 (b : Bool) : Nat := if b = true then 1 else 0
def kindsF (c : Int) : Nat := one01 (baseF c).2.2 + one01 (parF c).2.2 + one01 (marF c).2.2 + one01 (unpF c).2
def allForms : List Int := letL.flatMap formsOf ++ ligL.flatMap twoR ++ accL.flatMap twoR ++ pilL.map (·.2)
theorem parR_none {c : Int} {l : List Rg} (h : ∀ r ∈ l, c ∉ twoR r) : parR c l = (0, 0, false) := by
  induction l with
  | nil => rfl
  | cons r l ih =>
    have h1 := h r (by simp)
    simp only [twoR, List.mem_cons, List.not_mem_nil, or_false, not_or] at h1
    rw [parR, if_neg (fun e => h1.1 e.symm), if_neg (fun e => h1.2 e.symm)]
    exact ih fun u hu => h u (by simp [hu])
theorem marR_none {c : Int} {l : List Rg} (h : ∀ r ∈ l, c ∉ twoR r) : marR c l = (0, false, false) := by
  induction l with
  | nil => rfl
  | cons r l ih =>
    have h1 := h r (by simp)
    simp only [twoR, List.mem_cons, List.not_mem_nil, or_false, not_or] at h1
    rw [marR, if_neg (fun e => h1.1 e.symm), if_neg (fun e => h1.2 e.2.symm)]
    exact ih fun u hu => h u (by simp [hu])
theorem unpR_none {c : Int} {l : List Sp} (h : ∀ s ∈ l, c ≠ s.2) : unpR c l = (0, false) := by
  induction l with
  | nil => rfl
  | cons s l ih =>
    rw [unpR, if_neg (fun e => h s (by simp) e.symm)]
    exact ih fun u hu => h u (by simp [hu])
theorem kinds_le (c : Int) : kindsF c ≤ 1 := by
  by_cases h : c ∈ allForms
  · have hall : (allForms.all fun c => decide (kindsF c ≤ 1)) = true := by decide +kernel
    simpa using List.all_eq_true.1 hall c h
  · simp only [allForms, List.mem_append, List.mem_flatMap, List.mem_map, not_or, not_exists, not_and] at h
    obtain ⟨⟨⟨h1, h2⟩, h3⟩, h4⟩ := h
    have e1 : baseF c = (0, 0, false) := baseR_none fun t ht => hitF_none (.inr (h1 t ht))
    have e2 : parF c = (0, 0, false) := parR_none h2
    have e3 : marF c = (0, false, false) := marR_none h3
    have e4 : unpF c = (0, false) := unpR_none fun s hs e => h4 s hs e.symm
    rw [kindsF, e1, e2, e3, e4]
    decide
end Go.Proofs.Ytcjcimdembkbkaa
/- The given ligatures in memory. -/
namespace Go.Proofs.Ytcjcimdembkbkaa
open Go.RowKit
theorem rd_newG (w : World) (l : List Rg) (T : TypeId) : Rd (w.alloc (.cells (cellsG l).toArray T)) 3 (some ⟨w.heap.size, 0, none⟩) l.length (cellsG l) :=
  ⟨cellsG_len l, fun _ => ⟨_, rfl, by simp, cells_new w _ T⟩⟩
set_option maxRecDepth 1000000 in
set_option maxHeartbeats 4000000 in
theorem ligatures_any (w : World) : Calls Try.prog 61 #[] w fun e w' => (∃ A, e = .returned (.slice A 4 4) ∧ Rd w' 3 A 4 (cellsG ligL)) ∧ Below w.heap.size w w' := by
  go_enter Try.func61, Try.ntmps61
  go_wp2
  go_ret
  exact ⟨⟨_, rfl, rd_newG w ligL _⟩, below_new _ _⟩
end Go.Proofs.Ytcjcimdembkbkaa
/- forms.pick. -/
namespace Go.Proofs.Ytcjcimdembkbkaa
open Go.RowKit
theorem pick_any (A : Option Addr) (n d : Nat) (xs : List Int) (k v : Int) (ok : Bool) (w : World) (hp : pickF k xs = (v, ok)) (hr : Rd w 1 A n (xs.map (Value.int .i64))) (hn : n ≤ 1000) :
    Calls Try.prog 62 #[.int .i64 k, .slice A n d] w fun e w' => e = .returned (.tuple #[.int .i64 v, .bool ok]) ∧ Below w.heap.size w w' := by
  have hlen : xs.length = n := by simpa using hr.len1
  have HL := Lib.hid hlen
  clear hlen
  unfold pickF at hp
  by_cases h1 : k < 0
  · rw [if_pos (.inl h1)] at hp
    injection hp with e1 e2
    subst e1 e2
    go_enter Try.func62, Try.ntmps62
    go_wp2
    go_ret2
    exact ⟨rfl, Below.refl _ _⟩
  · by_cases h2 : (n : Int) ≤ k
    · rw [if_pos (.inr (by rw [HL.out]; exact h2))] at hp
      injection hp with e1 e2
      subst e1 e2
      go_enter Try.func62, Try.ntmps62
      go_wp2
      go_ret2
      exact ⟨rfl, Below.refl _ _⟩
    · rw [if_neg (by rw [HL.out]; omega)] at hp
      obtain ⟨j, rfl⟩ : ∃ j : Nat, k = j := ⟨k.toNat, by omega⟩
      have hj : j < n := by omega
      obtain ⟨s, hsk⟩ : ∃ s, xs[j]? = some s := ⟨_, List.getElem?_eq_getElem (by rw [HL.out]; exact hj)⟩
      obtain ⟨ad, rfl, _, hc⟩ := hr.at_ hj
      have cs : w.cell? (ad.add j) = some (.int .i64 s) := hc _ (by rw [List.getElem?_map, hsk]; rfl)
      rw [Int.toNat_natCast, List.getD_eq_getElem?_getD, hsk, Option.getD_some] at hp
      injection hp with e1 e2
      subst e1
      clear hsk hc h1 h2
      by_cases hs : s = 0
      · have HE := Lib.hid (show ok = false by rw [← e2, hs]; rfl)
        subst hs
        clear e2
        go_enter Try.func62, Try.ntmps62
        go_wp2
        go_quiet (fail)
        go_wp2
        go_ret2
        exact ⟨by rw [HE.out]; rfl, drewBelow _⟩
      · have HE := Lib.hid (show ok = true by rw [← e2]; exact decide_eq_true hs)
        have g1 : (s != 0) = true := by simp [hs]
        clear e2 hs
        go_enter Try.func62, Try.ntmps62
        go_wp2
        go_quiet (fail)
        go_wp2
        go_ret2
        exact ⟨by rw [HE.out]; rfl, drewBelow _⟩
end Go.Proofs.Ytcjcimdembkbkaa
/- Two numbers in memory. -/
namespace Go.Proofs.Ytcjcimdembkbkaa
open Go.RowKit
theorem rdNew2 (w : World) (a b : Int) (t : TypeId) : Rd (w.alloc (.cells #[.int .i64 a, .int .i64 b] t)) 1 (some ⟨w.heap.size, 0, none⟩) 2 (([a, b] : List Int).map (Value.int .i64)) := Rd.new_ w [.int .i64 a, .int .i64 b] t
theorem pick_min (xs : List Int) (h : xs.length ≤ 1000) : pickF 9223372036854775807 xs = (0, false) ∧ pickF (-9223372036854775808 - 1) xs = (0, false) :=
  ⟨if_pos (.inr (by omega)), if_pos (.inl (by omega))⟩
end Go.Proofs.Ytcjcimdembkbkaa
/- The project's Ligate. -/
namespace Go.Proofs.Ytcjcimdembkbkaa
open Go.RowKit
theorem rdNew2b (w : World) (o : Obj) (a b : Int) (t : TypeId) : Rd ((w.alloc o).alloc (.cells #[.int .i64 a, .int .i64 b] t)) 1 (some ⟨w.heap.size + 1, 0, none⟩) 2 (([a, b] : List Int).map (Value.int .i64)) := by
  have h := rdNew2 (w.alloc o) a b t
  rwa [show (w.alloc o).heap.size = w.heap.size + 1 by simp] at h
theorem pick_wrap2 {f v : Int} {ok : Bool} {xs : List Int} (hl : xs.length ≤ 1000) (hmin : f = -9223372036854775808) (h : pickF (f - 1) xs = (v, ok)) : pickF (IntKind.i64.wrap (f - 1)) xs = (v, ok) := by
  have hp := pick_min xs hl
  have hw : IntKind.i64.wrap (f - 1) = 9223372036854775807 := by rw [hmin]; decide
  rw [hw, hp.1, ← hp.2, ← hmin]
  exact h
set_option maxRecDepth 100000 in
set_option maxHeartbeats 1000000 in
theorem fmLigate_any (a f v : Int) (ok : Bool) (hv : ligF a f = (v, ok)) (h0 : -9223372036854775808 ≤ f) (h9 : f ≤ 9223372036854775807) (w : World) :
    Calls Try.prog 50 #[.int .i64 a, .int .i64 f] w fun e w' => e = .returned (.tuple #[.int .i64 v, .bool ok]) ∧ Below w.heap.size w w' := by
  rw [ligF_eq] at hv
  have HV := Lib.hid hv
  clear hv
  go_enter Try.func50, Try.ntmps50
  go_wp2_with fail
  refine (ligatures_any _).mono ?_
  rintro e w1 ⟨⟨A, rfl, hr⟩, hb1⟩
  have HL := Lib.hid (show ligL.length = 4 from rfl)
  obtain ⟨l, hl⟩ : ∃ l, ligL = l := ⟨_, rfl⟩
  rw [hl] at HV HL hr
  clear hl
  go_wp2
  go_loopw [10] (fun i wr => ∃ (k : Nat), k ≤ 4 ∧ i = .int .i64 k ∧ ligP a f l = ligP a f (l.drop k) ∧ Below w1.heap.size w1 wr) (fun i _ => 4 - (intOf i).toNat)
  case atStart => exact ⟨0, Nat.zero_le _, rfl, rfl, Below.refl _ _⟩
  case round =>
    obtain ⟨k, hk, rfl, hp, hb⟩ := hrel
    have HP := Lib.hid hp
    clear hp
    by_cases hlt : k < 4
    · obtain ⟨s, hsk⟩ : ∃ s, l[k]? = some s := ⟨_, List.getElem?_eq_getElem (by rw [HL.out]; exact hlt)⟩
      obtain ⟨ad, rfl, hab, c1, c2, c3⟩ := (hr.below hb).rg hsk
      have HD := Lib.hid (dropCons hsk)
      clear hsk
      obtain ⟨x, y, z⟩ := s
      simp only at c1 c2 c3
      have hbn := below_self hb (below_new wr (.cells #[.int .i64 x, .int .i64 y, .int .i64 z] 74))
      by_cases h1 : x = a
      · have hp := show pickF (f - 1) [y, z] = (v, ok) by rw [← HV.out, HP.out, HD.out, ligP, if_pos h1]; rfl
        subst h1
        by_cases hmin : f = -9223372036854775808
        · obtain ⟨q, hw, hq⟩ : ∃ q, IntKind.i64.wrap (f - 1) = q ∧ pickF q [y, z] = (v, ok) := ⟨_, rfl, pick_wrap2 (by simp) hmin hp⟩
          have HE := Lib.hid hq
          clear hmin h0 h9 hq hp
          go_wp2_with fail
          refine (pick_any (some ⟨wr.heap.size + 1, 0, none⟩) 2 2 [y, z] q v ok _ HE.out (rdNew2b wr _ y z _) (by omega)).mono ?_
          rintro e w3 ⟨rfl, hb3⟩
          have hb4 := below_self hb1 (below_self (below_self hbn (below_new _ _)) hb3)
          go_wp2
          go_ret2
          exact ⟨rfl, hb4⟩
        · have hlo : -9223372036854775808 ≤ f - 1 := by omega
          have hhi : f - 1 ≤ 9223372036854775807 := by omega
          have HE := Lib.hid hp
          clear hmin hp
          go_wp2_with fail
          refine (pick_any (some ⟨wr.heap.size + 1, 0, none⟩) 2 2 [y, z] (f - 1) v ok _ HE.out (rdNew2b wr _ y z _) (by omega)).mono ?_
          rintro e w3 ⟨rfl, hb3⟩
          have hb4 := below_self hb1 (below_self (below_self hbn (below_new _ _)) hb3)
          go_wp2
          go_ret2
          exact ⟨rfl, hb4⟩
      · have HF := Lib.hid (show ligP a f l = ligP a f (l.drop (k + 1)) by rw [HP.out, HD.out]; exact if_neg h1)
        have g1 : (x == a) = false := by simp [h1]
        clear h1
        go_wp2
        go_roundw
        case rel => exact ⟨k + 1, by omega, by go_num, HF.out, hbn⟩
        case measure => simp [intOf]; omega
    · have hX := show (v, ok) = (0, false) by rw [← HV.out, HP.out, List.drop_eq_nil_of_le (by rw [HL.out]; omega)]; rfl
      simp only [Prod.mk.injEq] at hX
      obtain ⟨rfl, rfl⟩ := hX
      go_wp2
      go_ret2
      exact ⟨rfl, below_self hb1 hb⟩
end Go.Proofs.Ytcjcimdembkbkaa
/- The reference's Ligate. -/
namespace Go.Proofs.Ytcjcimdembkbkaa
open Go.RowKit
set_option maxRecDepth 100000 in
set_option maxHeartbeats 1000000 in
theorem refLigate_any (a f v : Int) (ok : Bool) (hv : ligF a f = (v, ok)) (w : World) :
    Calls Try.prog 51 #[.int .i64 a, .int .i64 f] w fun e w' => e = .returned (.tuple #[.int .i64 v, .bool ok]) ∧ Below w.heap.size w w' := by
  have hv' : ligR a f ligL = (v, ok) := hv
  have HV := Lib.hid hv'
  clear hv hv'
  go_enter Try.func51, Try.ntmps51
  go_wp2_with fail
  refine (ligatures_any _).mono ?_
  rintro e w1 ⟨⟨A, rfl, hr⟩, hb1⟩
  have HL := Lib.hid (show ligL.length = 4 from rfl)
  obtain ⟨l, hl⟩ : ∃ l, ligL = l := ⟨_, rfl⟩
  rw [hl] at HV HL hr
  clear hl
  go_wp2
  go_loopw [7] (fun i wr => ∃ (k : Nat), k ≤ 4 ∧ i = .int .i64 k ∧ ligR a f l = ligR a f (l.drop k) ∧ wr = w1) (fun i _ => 4 - (intOf i).toNat)
  case atStart => exact ⟨0, Nat.zero_le _, rfl, rfl, rfl⟩
  case round =>
    obtain ⟨k, hk, rfl, hp, rfl⟩ := hrel
    have HP := Lib.hid hp
    clear hp
    by_cases hlt : k < 4
    · obtain ⟨s, hsk⟩ : ∃ s, l[k]? = some s := ⟨_, List.getElem?_eq_getElem (by rw [HL.out]; exact hlt)⟩
      obtain ⟨ad, rfl, hab, c1, c2, c3⟩ := hr.rg hsk
      have HD := Lib.hid (dropCons hsk)
      clear hsk
      obtain ⟨y, f1, f2⟩ := s
      simp only at c1 c2 c3
      by_cases h1 : y = a
      · by_cases h2 : f = 1
        · have hX := show (v, ok) = (f1, true) by rw [← HV.out, HP.out, HD.out]; exact (if_pos h1).trans (if_pos h2)
          simp only [Prod.mk.injEq] at hX
          obtain ⟨rfl, rfl⟩ := hX
          subst h1 h2
          go_wp2
          go_ret2
          exact ⟨rfl, hb1⟩
        · by_cases h3 : f = 2
          · have hX := show (v, ok) = (f2, true) by rw [← HV.out, HP.out, HD.out]; exact (if_pos h1).trans ((if_neg h2).trans (if_pos h3))
            simp only [Prod.mk.injEq] at hX
            obtain ⟨rfl, rfl⟩ := hX
            subst h1 h3
            go_wp2
            go_ret2
            exact ⟨rfl, hb1⟩
          · have HF := Lib.hid (show ligR a f l = ligR a f (l.drop (k + 1)) by rw [HP.out, HD.out]; exact (if_pos h1).trans ((if_neg h2).trans (if_neg h3)))
            have g2 : (f == 1) = false := by simp [h2]
            have g3 : (f == 2) = false := by simp [h3]
            subst h1
            clear h2 h3
            go_wp2
            go_roundw
            case rel => exact ⟨k + 1, by omega, by go_num, HF.out, trivial⟩
            case measure => simp [intOf]; omega
      · have HF := Lib.hid (show ligR a f l = ligR a f (l.drop (k + 1)) by rw [HP.out, HD.out]; exact if_neg h1)
        have g1 : (y == a) = false := by simp [h1]
        clear h1
        go_wp2
        go_roundw
        case rel => exact ⟨k + 1, by omega, by go_num, HF.out, trivial⟩
        case measure => simp [intOf]; omega
    · have hX := show (v, ok) = (0, false) by rw [← HV.out, HP.out, List.drop_eq_nil_of_le (by rw [HL.out]; omega)]; rfl
      simp only [Prod.mk.injEq] at hX
      obtain ⟨rfl, rfl⟩ := hX
      go_wp2
      go_ret2
      exact ⟨rfl, hb1⟩
end Go.Proofs.Ytcjcimdembkbkaa
