/- Texts of one claim, one behind the other. -/
import Derived.Test.YtaiefneimjdmhaaRows
import Derived.WalkKit
import Derived.WalkSpells
import Derived.WalkLawsBesides
import Derived.Handy
import Derived.Below
import Derived.Laws.OwnMore
import Derived.Deep.AppendLies
import Derived.Deep.Draws
import Derived.Laws.Rows
import Derived.Maps.AppendAt
import Derived.RegionTactic
import Derived.OwnWalk
import Derived.Deep.QuietTactic
import Derived.BigQuiet
import Derived.Lib.Hide
import Derived.Deep.LoopGhost
/- Words for memory that all later texts share: a slice that reads as a list, blocks, appends (after the guide's own page of words), and small facts on endings. -/
namespace Go.Proofs.Ytaiefneimjdmhaa
open Go.RowKit

theorem blockAdd (a : Addr) (n : Nat) : (a.add n).block = a.block := by unfold Addr.add; split <;> rfl
theorem addAdd (a : Addr) (i j : Nat) : (a.add i).add j = a.add (i + j) := by
  unfold Addr.add
  by_cases hi : i = 0 <;> by_cases hj : j = 0 <;> simp [hi, hj, Nat.add_assoc]

/-- In world w the slice value with address A and length n reads as the cells xs ('size' cells an element), all in memory that is there. -/
def Rd (w : World) (size : Nat) (A : Option Addr) (n : Nat) (xs : List Value) : Prop :=
  xs.length = n * size ∧ (0 < n → ∃ ad, A = some ad ∧ ad.block < w.heap.size ∧ ∀ j u, xs[j]? = some u → w.cell? (ad.add j) = some u)

section
variable {w w' : World} {size n : Nat} {A : Option Addr} {xs : List Value}
theorem Rd.nil_ : Rd w size A 0 [] := ⟨by simp, fun h => absurd h (by omega)⟩
theorem Rd.len1 (h : Rd w 1 A n xs) : xs.length = n := by have := h.1; omega
theorem Rd.at_ {k : Nat} (h : Rd w 1 A n xs) (hk : k < n) : ∃ ad, A = some ad ∧ ad.block < w.heap.size ∧ ∀ u, xs[k]? = some u → w.cell? (ad.add k) = some u := by
  obtain ⟨ad, e, hb, hc⟩ := h.2 (by omega)
  exact ⟨ad, e, hb, fun u hu => hc k u hu⟩
theorem Rd.below (h : Rd w size A n xs) (hb : Below w.heap.size w w') : Rd w' size A n xs :=
  ⟨h.1, fun hn => by
    obtain ⟨ad, e, hlt, hc⟩ := h.2 hn
    exact ⟨ad, e, Nat.lt_of_lt_of_le hlt hb.size, fun j u hu => (hb.cell (by rw [blockAdd]; exact hlt)).trans (hc j u hu)⟩⟩
theorem Rd.drewN (h : Rd w size A n xs) (k : Nat) : Rd (w.drewN k) size A n xs := h
theorem Rd.alloc (h : Rd w size A n xs) (o : Obj) : Rd (w.alloc o) size A n xs := h.below ((Below.refl _ _).alloc (Nat.le_refl _) o)
/-- A cut 's[k:]'. -/
theorem Rd.cut (h : Rd w size A n xs) {k cap : Nat} (hk : k ≤ n) (hc : n ≤ cap) :
    Rd w size (if cap = k then A else A.map (·.add (k * size))) (n - k) (xs.drop (k * size)) := by
  refine ⟨by rw [List.length_drop, h.1, Nat.sub_mul], fun hn => ?_⟩
  obtain ⟨ad, rfl, hb, hcell⟩ := h.2 (by omega)
  rw [if_neg (by omega)]
  refine ⟨ad.add (k * size), rfl, by rw [blockAdd]; exact hb, fun j u hu => ?_⟩
  rw [addAdd]
  exact hcell _ u (by rw [← hu, List.getElem?_drop])
theorem Rd.of_own {base : Nat} {e : TypeId} {c : Nat} (h : w.ownsRow base e size (.slice A n c) n xs) : Rd w size A n xs := by
  refine ⟨h.1, fun hn => ?_⟩
  obtain ⟨g, cap, hv, _, hlt⟩ := h.form hn
  have hA : A = some ⟨g, 0, none⟩ := by injection hv
  subst hA
  exact ⟨_, rfl, hlt, h.cells (g := g) rfl⟩
end

theorem Rd.news {w : World} {size n : Nat} {ad : Addr} {xs : List Value} (h : Rd w size (some ad) n xs) : ∀ j u, xs[j]? = some u → w.cell? (ad.add j) = some u := by
  intro j u hu
  rcases Nat.eq_zero_or_pos n with h0 | h0
  · subst h0
    have hn : xs = [] := List.eq_nil_of_length_eq_zero (by simpa using h.1)
    subst hn
    simp at hu
  · obtain ⟨ad', e, _, hc⟩ := h.2 h0
    injection e with e
    subst e
    exact hc j u hu
/-- What a row of the call's own looks like as a value: a slice of that length. -/
theorem own_form {w : World} {base : Nat} {e : TypeId} {size : Nat} {v : Value} {n : Nat} {xs : List Value} (h : w.ownsRow base e size v n xs) : ∃ A c, v = .slice A n c ∧ n ≤ c := by
  rcases h.2 with ⟨rfl, rfl⟩ | ⟨g, cap, cur, rfl, _, _, hnc, _⟩
  · exact ⟨none, 0, rfl, Nat.le_refl _⟩
  · exact ⟨_, _, rfl, hnc⟩

/-- The slice type T has elements of type E, of so many cells and bytes. -/
def SliceOf (P : Program) (T E : TypeId) (size bytes : Nat) : Prop :=
  P.underlying T = some (.slice E) ∧ ∃ i z, P.info? E = some i ∧ i.zero = some z ∧ i.size = size ∧ i.bytes = bytes ∧ z.cells.size = size
theorem SliceOf.mk_ {P : Program} {T E : TypeId} {size bytes : Nat} {z : Value} (h : P.underlying T = some (.slice E)) (hi : (P.info? E).map (fun i => (i.zero, i.size, i.bytes)) = some (some z, size, bytes)) (hz : z.cells.size = size) : SliceOf P T E size bytes := by
  obtain ⟨i, h1, h2, h3, h4⟩ := info_parts hi
  exact ⟨h, i, z, h1, h2, h3, h4, hz⟩

/-- append onto a row of the call's own, the source at an address. -/
theorem wpList_app {P : Program} {w : World} {ops : Array Oper} {rest : List Oper} {o : Oper} {a : Act} {Q : Exit → Act → World → Prop} (hgd : o.guard = none) (s x : Operand) (t : TypeId)
    (ho : o.op = .call { callee := .builtin .append, args := #[s, x], argTypes := #[t, t] })
    {base : Nat} {e : TypeId} {size bytes : Nat} (S : SliceOf P t e size bytes) (hsz : 0 < size)
    (v : Value) (n : Nat) (xs : List Value) (hs : a.eval s = v) (hown : w.ownsRow base e size v n xs)
    (ad : Addr) (m c : Nat) (news : List Value) (hx : a.eval x = .slice (some ad) m c) (hl : news.length = m * size) (hnews : ∀ j u, news[j]? = some u → w.cell? (ad.add j) = some u) (h1 : ∀ u ∈ news, u.oneCell' = true)
    (hbytes : (n + m) * bytes ≤ 140737488355328) (h63 : n + m ≤ maxLen) (hbase : base ≤ w.heap.size)
    (h : ∀ v' w', w'.ownsRow base e size v' (n + m) (xs ++ news) → w.grownBy w' v.ownBlock → (v'.ownBlock = v.ownBlock ∨ v'.ownBlock = some w.heap.size) → wpList P ops Q rest (a.put o.dst v') w') :
    wpList P ops Q (o :: rest) a w := by
  obtain ⟨ht, i, z, hi, hz, hs1, hb1, hzs⟩ := S
  exact wpList_append_own_at w hgd s x t ho base e i z size bytes ht hi hz hs1 hb1 hzs hsz v n xs hs hown ad m c news hx hl hnews h1 h63 hbytes hbase (fun v' w' a1 a2 _ a4 => h v' w' a1 a2 a4)

theorem run_app_nil {P : Program} (w : World) (base : Nat) (t ty e : TypeId) (size bytes : Nat) (S : SliceOf P t e size bytes)
    (v : Value) (n : Nat) (xs : List Value) (hown : w.ownsRow base e size v n xs) (c : Nat) : (Builtin.append_ #[t, t] ty #[v, .slice none 0 c]).run P w = .ok v w := by
  obtain ⟨ht, i, z, hi, hz, hs1, hb1, hzs⟩ := S
  rcases hown.2 with ⟨rfl, rfl⟩ | ⟨g, cap, cur, rfl, _, _, hnc, _⟩
  · simp [Builtin.append_, run_underlying ht, sizeOf, typeInfo, hi, Builtin.lenOf, Builtin.firstCells]
  · simp [Builtin.append_, run_underlying ht, sizeOf, typeInfo, hi, Builtin.lenOf, Builtin.firstCells, hnc, storeCells]

/-- append onto a row of the call's own, the source any slice that reads as 'news', nil too. -/
theorem wpList_appR {P : Program} {w : World} {ops : Array Oper} {rest : List Oper} {o : Oper} {a : Act} {Q : Exit → Act → World → Prop} (hgd : o.guard = none) (s x : Operand) (t : TypeId)
    (ho : o.op = .call { callee := .builtin .append, args := #[s, x], argTypes := #[t, t] })
    {base : Nat} {e : TypeId} {size bytes : Nat} (S : SliceOf P t e size bytes) (hsz : 0 < size)
    (v : Value) (n : Nat) (xs : List Value) (hs : a.eval s = v) (hown : w.ownsRow base e size v n xs)
    (A : Option Addr) (m c : Nat) (news : List Value) (hx : a.eval x = .slice A m c) (hr : Rd w size A m news) (h1 : ∀ u ∈ news, u.oneCell' = true)
    (hbytes : (n + m) * bytes ≤ 140737488355328) (h63 : n + m ≤ maxLen) (hbase : base ≤ w.heap.size)
    (h : ∀ v' w', w'.ownsRow base e size v' (n + m) (xs ++ news) → w.grownBy w' v.ownBlock → (v'.ownBlock = v.ownBlock ∨ v'.ownBlock = some w.heap.size) → wpList P ops Q rest (a.put o.dst v') w') :
    wpList P ops Q (o :: rest) a w := by
  rcases A with _ | ad
  · have hm : m = 0 := by
      rcases Nat.eq_zero_or_pos m with h0 | h0
      · exact h0
      · obtain ⟨_, e, _⟩ := hr.2 h0
        cases e
    subst hm
    have hn : news = [] := List.eq_nil_of_length_eq_zero (by simpa using hr.1)
    subst hn
    have hrun := run_app_nil (P := P) w base t o.type e size bytes S v n xs hown c
    refine wpList_plain hgd fun K hK => ?_
    unfold Oper.wp execOp
    simp only [ho, resolve, invoke, builtin, Sem.run_bind, Sem.run_pure, Result.andThen_ok, List.map_toArray, List.map_cons, List.map_nil, hs, hx, hrun]
    exact hK _ _ (h v w (by simpa using hown) (World.grownBy.refl w _) (.inl rfl))
  · exact wpList_app hgd s x t ho S hsz v n xs hs hown ad m c news hx hr.1 hr.news h1 hbytes h63 hbase h

/-- make([]T, 0, n). -/
theorem wpList_mk {P : Program} {w : World} {ops : Array Oper} {rest : List Oper} {o : Oper} {a : Act} {Q : Exit → Act → World → Prop}
    (hg : o.guard = none) (l c : Operand) (t : TypeId) (hop : o.op = Op.makeSlice t l c)
    {base : Nat} {e : TypeId} {size bytes : Nat} (S : SliceOf P t e size bytes)
    {kl kc : IntKind} (C : Int) (n : Nat) (hl : a.eval l = .int kl 0) (hc : a.eval c = .int kc C) (hC : C = (n : Int)) (b2 : bytes * n ≤ 281474976710656) (b3 : n ≤ maxLen) (b4 : base ≤ w.heap.size)
    (hK : ∀ v' w', w'.ownsRow base e size v' 0 [] → w.grownBy w' none → wpList P ops Q rest (a.put o.dst v') w') :
    wpList P ops Q (o :: rest) a w := by
  obtain ⟨ht, i, z, hi, hz, hs1, hb1, hzs⟩ := S
  exact wpList_make_own w hg l c t hop base e i z size ht hi hz hs1 kl kc C n hl hc hC (by rw [hb1]; exact b2) b3 b4 (fun w' a1 a2 => hK _ w' a1 a2)

/-- make([]T, n), T of one cell. -/
theorem wpList_mkFull {P : Program} {w : World} {ops : Array Oper} {rest : List Oper} {o : Oper} {a : Act} {Q : Exit → Act → World → Prop}
    (hg : o.guard = none) (l c : Operand) (t : TypeId) (hop : o.op = Op.makeSlice t l c)
    {base : Nat} {e : TypeId} {bytes : Nat} {z : Value} (ht : P.underlying t = some (.slice e)) (hin : (P.info? e).map (fun i => (i.zero, i.size, i.bytes)) = some (some z, 1, bytes)) (hz : z.cells = #[z])
    {kl kc : IntKind} (L C : Int) (n : Nat) (hl : a.eval l = .int kl L) (hc : a.eval c = .int kc C) (hL : L = (n : Int)) (hC : C = (n : Int)) (b2 : bytes * n ≤ 281474976710656) (b3 : n ≤ maxLen) (b4 : base ≤ w.heap.size)
    (hK : ∀ w', w'.ownsRow base e 1 (.slice (some ⟨w.heap.size, 0, none⟩) n n) n (List.replicate n z) → w.grownBy w' none → wpList P ops Q rest (a.put o.dst (.slice (some ⟨w.heap.size, 0, none⟩) n n)) w') :
    wpList P ops Q (o :: rest) a w := by
  obtain ⟨i, h1, h2, h3, h4⟩ := info_parts hin
  refine wpList_make_full w hg l c t hop base e i z 1 ht h1 h2 h3 kl kc L C n hl hc hL hC (by rw [h4]; exact b2) b3 b4 (fun w' a1 a2 => hK w' ?_ a2)
  rw [hz, Nat.mul_one, toList_madeCells_one] at a1
  exact a1

theorem addNew (g j : Nat) : (⟨g, 0, none⟩ : Addr).add j = ⟨g, j, none⟩ := by
  unfold Addr.add
  split
  · rename_i h; subst h; rfl
  · simp
/-- The cells of a new block. -/
theorem cells_new (w : World) (cs : List Value) (t : TypeId) : ∀ j u, cs[j]? = some u → (w.alloc (.cells cs.toArray t)).cell? ((⟨w.heap.size, 0, none⟩ : Addr).add j) = some u := by
  intro j u hj
  rw [addNew, World.cell?_alloc_at _ _ _ _ rfl]
  simpa using hj

theorem Rd.new_ (w : World) (cs : List Value) (t : TypeId) : Rd (w.alloc (.cells cs.toArray t)) 1 (some ⟨w.heap.size, 0, none⟩) cs.length cs :=
  ⟨by simp, fun _ => ⟨_, rfl, by simp, cells_new w cs t⟩⟩
theorem cell_lt {w : World} {a : Addr} {v : Value} (h : w.cell? a = some v) : a.block < w.heap.size := by
  unfold World.cell? at h
  rcases Nat.lt_or_ge a.block w.heap.size with hlt | hge
  · exact hlt
  · rw [Array.getElem?_eq_none hge] at h; cases h
theorem cell_below {w w' : World} {a : Addr} {v : Value} (hb : Below w.heap.size w w') (h : w.cell? a = some v) : w'.cell? a = some v := (hb.cell (cell_lt h)).trans h
theorem below_self {w a b : World} (h : Below w.heap.size w a) (k : Below a.heap.size a b) : Below w.heap.size w b := h.trans (k.mono h.size)
theorem below_new (w : World) (o : Obj) : Below w.heap.size w (w.alloc o) := (Below.refl _ _).alloc (Nat.le_refl _) o
theorem below_drew {w a : World} (h : Below w.heap.size w a) (n : Nat) : Below w.heap.size w (a.drewN n) := ⟨h.os, h.tape, h.output, h.size, h.block⟩
theorem oneInt (k : IntKind) (x : Int) : ∀ u ∈ [Value.int k x], u.oneCell' = true := by
  intro u hu
  simp at hu
  subst hu
  rfl
theorem oneInt2 (k : IntKind) (x y : Int) : ∀ u ∈ [Value.int k x, .int k y], u.oneCell' = true := by
  intro u hu
  simp at hu
  rcases hu with rfl | rfl <;> rfl
theorem oneInts (k : IntKind) (xs : List Int) : ∀ u ∈ xs.map (Value.int k), u.oneCell' = true := by
  intro u hu
  simp at hu
  obtain ⟨x, _, rfl⟩ := hu
  rfl
/-- A row below which all stood is told of what it was of. -/
theorem ownBlock_slice (A : Option Addr) (n c k : Nat) (h : (Value.slice A n c).ownBlock = some k) : ∃ a, A = some a ∧ a.block = k := by
  rcases A with _ | a
  · cases h
  · exact ⟨a, rfl, by injection h⟩
theorem below_app {B : Nat} {w0 w w' : World} {e : TypeId} {size n : Nat} {v : Value} {xs : List Value} (h : Below B w0 w) (hg : w.grownBy w' v.ownBlock) (hown : w.ownsRow B e size v n xs) (hB : B ≤ w.heap.size) : Below B w0 w' :=
  h.grown hg hB (fun k hk => (hown.lt k hk).1)

theorem retB {a b : Bool} (h : a = true ↔ b = true) : Ending.returned (.bool a) = .returned (.bool b) := by rw [Bool.eq_iff_iff.2 h]
theorem retI {a b : Int} (h : a = b) : Ending.returned (.int .i64 a) = .returned (.int .i64 b) := by rw [h]
theorem drewBelow {w : World} (n : Nat) : Below w.heap.size w (w.drewN n) := ⟨rfl, rfl, rfl, Nat.le_refl _, fun _ _ => rfl⟩
theorem below_drewN {B : Nat} {a w : World} (h : Below B a w) (n : Nat) : Below B a (w.drewN n) := ⟨h.os, h.tape, h.output, h.size, h.block⟩
end Go.Proofs.Ytaiefneimjdmhaa
/- Spans as data: what a span is, the cells of a slice of spans; no function of the program. -/
namespace Go.Proofs.Ytaiefneimjdmhaa
open Go.RowKit

abbrev Sp := Int × Int
def rightB (s : Sp) : Bool := decide (0 ≤ s.1 ∧ s.1 < s.2)
def sizeS (s : Sp) : Int := if rightB s = true then s.2 - s.1 else 0
def hasB (s : Sp) (at_ : Int) : Bool := decide (s.1 ≤ at_ ∧ at_ < s.2)
def encS (s : Sp) : List Value := [.int .i64 s.1, .int .i64 s.2]
def cellsS (l : List Sp) : List Value := l.flatMap encS
def valS (s : Sp) : Value := .agg #[.int .i64 s.1, .int .i64 s.2]
def Fit (x : Int) : Prop := -9223372036854775808 ≤ x ∧ x ≤ 9223372036854775807

theorem cellsS_len (l : List Sp) : (cellsS l).length = l.length * 2 := by
  induction l with
  | nil => rfl
  | cons s l ih =>
    show (encS s ++ cellsS l).length = _
    rw [List.length_append, ih, List.length_cons]
    simp only [encS, List.length_cons, List.length_nil]
    omega
theorem cellsS_at {l : List Sp} {k : Nat} {s : Sp} (h : l[k]? = some s) : (cellsS l)[k * 2]? = some (.int .i64 s.1) ∧ (cellsS l)[k * 2 + 1]? = some (.int .i64 s.2) := by
  induction l generalizing k with
  | nil => simp at h
  | cons t l ih =>
    have hc : cellsS (t :: l) = .int .i64 t.1 :: .int .i64 t.2 :: cellsS l := rfl
    cases k with
    | zero =>
      simp at h
      subst h
      exact ⟨rfl, rfl⟩
    | succ k =>
      have := ih (k := k) (by simpa using h)
      rw [hc]
      have e1 : (k + 1) * 2 = k * 2 + 1 + 1 := by omega
      have e2 : (k + 1) * 2 + 1 = (k * 2 + 1) + 1 + 1 := by omega
      rw [e2, e1]
      simpa using this

theorem addNext (a : Addr) (j i : Nat) : a.add (j + (i + 1)) = ⟨(a.add j).block, (a.add j).off + (i + 1), none⟩ := by
  unfold Addr.add
  by_cases hj : j = 0
  · subst hj; simp
  · simp [hj]; omega
/-- The two cells of a span in a slice, as the walk spells them. -/
theorem Rd.span {w : World} {A : Option Addr} {n k : Nat} {l : List Sp} {s : Sp} (hr : Rd w 2 A n (cellsS l)) (h : l[k]? = some s) : ∃ ad, A = some ad ∧ ad.block < w.heap.size ∧ w.cell? (ad.add (k * 2)) = some (.int .i64 s.1) ∧ w.cell? ⟨(ad.add (k * 2)).block, (ad.add (k * 2)).off + 1, none⟩ = some (.int .i64 s.2) := by
  have hlen : l.length * 2 = n * 2 := by rw [← cellsS_len]; exact hr.1
  have hk := (List.getElem?_eq_some_iff.1 h).1
  obtain ⟨ad, rfl, hb, hc⟩ := hr.2 (by omega)
  obtain ⟨e1, e2⟩ := cellsS_at h
  refine ⟨ad, rfl, hb, hc _ _ e1, ?_⟩
  have := hc _ _ e2
  rwa [addNext ad (k * 2) 0] at this

end Go.Proofs.Ytaiefneimjdmhaa
/- A block of one span, known whole, and what becomes of it. -/
namespace Go.Proofs.Ytaiefneimjdmhaa
open Go.RowKit

/-- A block of one span, known whole, that may be written. -/
def SpanBlk (w : World) (b : Nat) (s : Sp) : Prop := w.cell? ⟨b, 0, none⟩ = some (.int .i64 s.1) ∧ w.cell? ⟨b, 1, none⟩ = some (.int .i64 s.2) ∧ w.frozen? ⟨b, 0, none⟩ = false ∧ w.frozen? ⟨b, 1, none⟩ = false

theorem SpanBlk.below {w w' : World} {b : Nat} {s : Sp} (h : SpanBlk w b s) (hb : Below w.heap.size w w') : SpanBlk w' b s :=
  ⟨cell_below hb h.1, cell_below hb h.2.1, (hb.frozen (cell_lt h.1)).trans h.2.2.1, (hb.frozen (cell_lt h.2.1)).trans h.2.2.2⟩
theorem SpanBlk.put {w : World} {b : Nat} {s : Sp} (h : SpanBlk w b s) (x y : Int) : SpanBlk ((w.setCell ⟨b, 0, none⟩ (.int .i64 x)).setCell ⟨b, 1, none⟩ (.int .i64 y)) b (x, y) := by
  obtain ⟨h0, h1, h2, h3⟩ := h
  have e1 : (w.setCell ⟨b, 0, none⟩ (.int .i64 x)).cell? ⟨b, 1, none⟩ = some (.int .i64 s.2) := (World.cell?_setCell_other (h := by simp) ..).trans h1
  refine ⟨?_, World.cell?_setCell_same (h := e1) .., ?_, ?_⟩
  · exact (World.cell?_setCell_other (h := by simp) ..).trans (World.cell?_setCell_same (h := h0) ..)
  · rw [World.frozen?_setCell, World.frozen?_setCell]; exact h2
  · rw [World.frozen?_setCell, World.frozen?_setCell]; exact h3
theorem SpanBlk.far {w : World} {b b' : Nat} {s : Sp} (h : SpanBlk w b s) (hne : b ≠ b') (u v : Value) : SpanBlk ((w.setCell ⟨b', 0, none⟩ u).setCell ⟨b', 1, none⟩ v) b s := by
  obtain ⟨h0, h1, h2, h3⟩ := h
  refine ⟨?_, ?_, ?_, ?_⟩
  · exact (World.cell?_setCell_other (h := by first | (simp; done) | (simp; omega)) ..).trans ((World.cell?_setCell_other (h := by first | (simp; done) | (simp; omega)) ..).trans h0)
  · exact (World.cell?_setCell_other (h := by first | (simp; done) | (simp; omega)) ..).trans ((World.cell?_setCell_other (h := by first | (simp; done) | (simp; omega)) ..).trans h1)
  · rw [World.frozen?_setCell, World.frozen?_setCell]; exact h2
  · rw [World.frozen?_setCell, World.frozen?_setCell]; exact h3

theorem only_setCell {a w : World} {g : Nat} (h : a.grownBy w (some g)) {p : Addr} (hp : p.block = g ∨ a.heap.size ≤ p.block) (u : Value) : a.grownBy (w.setCell p u) (some g) :=
  ⟨h.os, h.tape, h.output, by simpa [World.setCell] using h.size, fun i hi hne => (Below.heap_setCell w p u i (by
    rintro rfl
    rcases hp with hp | hp
    · exact hne (by rw [hp])
    · omega)).trans (h.block i hi hne)⟩
theorem SpanBlk.grown {w w' : World} {b : Nat} {s : Sp} {row : Option Nat} (h : SpanBlk w b s) (hg : w.grownBy w' row) (hne : row ≠ some b) : SpanBlk w' b s := by
  obtain ⟨h0, h1, h2, h3⟩ := h
  have hb := cell_lt h0
  have e := hg.block b hb (fun e => hne e.symm)
  have ec : ∀ i, w'.cell? ⟨b, i, none⟩ = w.cell? ⟨b, i, none⟩ := fun i => World.cell?_of_block (a := ⟨b, i, none⟩) e
  have ef : ∀ i, w'.frozen? ⟨b, i, none⟩ = w.frozen? ⟨b, i, none⟩ := fun i => by unfold World.frozen?; rw [e]
  exact ⟨(ec 0).trans h0, (ec 1).trans h1, (ef 0).trans h2, (ef 1).trans h3⟩
theorem SpanBlk.put0 {w : World} {b : Nat} {s : Sp} (h : SpanBlk w b s) (x : Int) : SpanBlk (w.setCell ⟨b, 0, none⟩ (.int .i64 x)) b (x, s.2) := by
  obtain ⟨h0, h1, h2, h3⟩ := h
  refine ⟨World.cell?_setCell_same (h := h0) .., (World.cell?_setCell_other (h := by simp) ..).trans h1, ?_, ?_⟩
  · rw [World.frozen?_setCell]; exact h2
  · rw [World.frozen?_setCell]; exact h3
theorem own_set_far {w : World} {base : Nat} {e : TypeId} {size n b i : Nat} {v u : Value} {xs : List Value} (h : w.ownsRow base e size v n xs) (hne : v.ownBlock ≠ some b) : (w.setCell ⟨b, i, none⟩ u).ownsRow base e size v n xs :=
  h.kept (row := some b) (only_setCell (World.grownBy.refl w _) (.inl rfl) u) (.inr hne)
theorem below_make {w w' : World} (hg : w.grownBy w' none) : Below w.heap.size w w' := (Below.refl _ _).grown hg (Nat.le_refl _) (fun k hk => by cases hk)
theorem SpanBlk.new_ (w : World) (x y : Int) (t : TypeId) : SpanBlk (w.alloc (.cells #[.int .i64 x, .int .i64 y] t)) w.heap.size (x, y) := by
  refine ⟨?_, ?_, ?_, ?_⟩ <;> simp [go_sem]

end Go.Proofs.Ytaiefneimjdmhaa
/- Whether spans are parts, as plain mathematics. -/
namespace Go.Proofs.Ytaiefneimjdmhaa
open Go.RowKit
/-- Whether spans are parts from 'end_' on to n. -/
def partsFrom : Int → List Sp → Int → Bool
  | e, [], n => e == n
  | e, s :: l, n => rightB s && (s.1 == e) && partsFrom s.2 l n
def partsS (l : List Sp) (n : Int) : Bool := partsFrom 0 l n
theorem partsFrom_no {e n : Int} {l : List Sp} {s : Sp} (h : rightB s = false ∨ (s.1 == e) = false) : partsFrom e (s :: l) n = false := by
  unfold partsFrom
  rcases h with h | h <;> simp [h]
theorem partsFrom_yes {e n : Int} {l : List Sp} {s : Sp} (h : rightB s = true) (h' : (s.1 == e) = true) : partsFrom e (s :: l) n = partsFrom s.2 l n := by
  show (rightB s && (s.1 == e) && partsFrom s.2 l n) = _
  rw [h, h']; rfl
theorem dropCons {α : Type} {l : List α} {k : Nat} {x : α} (h : l[k]? = some x) : l.drop k = x :: l.drop (k + 1) := by
  obtain ⟨hk, rfl⟩ := List.getElem?_eq_some_iff.1 h
  exact List.drop_eq_getElem_cons hk
end Go.Proofs.Ytaiefneimjdmhaa
/- Ranges of codes as data: the cells of a slice of ranges; which may be; the value of a code. -/
namespace Go.Proofs.Ytaiefneimjdmhaa
open Go.RowKit

/-- A range: Lo, Hi, Value. -/
abbrev Rg := Int × Int × Int
def encG (r : Rg) : List Value := [.int .i64 r.1, .int .i64 r.2.1, .int .i64 r.2.2]
def cellsG (l : List Rg) : List Value := l.flatMap encG
theorem cellsG_snoc (l : List Rg) (r : Rg) : cellsG (l ++ [r]) = cellsG l ++ [.int .i64 r.1, .int .i64 r.2.1, .int .i64 r.2.2] := by simp [cellsG, encG]
theorem cellsG_len (l : List Rg) : (cellsG l).length = l.length * 3 := by
  induction l with
  | nil => rfl
  | cons s l ih =>
    show (encG s ++ cellsG l).length = _
    rw [List.length_append, ih, List.length_cons]
    simp only [encG, List.length_cons, List.length_nil]
    omega
theorem cellsG_at {l : List Rg} {k : Nat} {s : Rg} (h : l[k]? = some s) : (cellsG l)[k * 3]? = some (.int .i64 s.1) ∧ (cellsG l)[k * 3 + 1]? = some (.int .i64 s.2.1) ∧ (cellsG l)[k * 3 + 2]? = some (.int .i64 s.2.2) := by
  induction l generalizing k with
  | nil => simp at h
  | cons t l ih =>
    have hc : cellsG (t :: l) = .int .i64 t.1 :: .int .i64 t.2.1 :: .int .i64 t.2.2 :: cellsG l := rfl
    cases k with
    | zero =>
      simp at h
      subst h
      exact ⟨rfl, rfl, rfl⟩
    | succ k =>
      have := ih (k := k) (by simpa using h)
      rw [hc]
      have e0 : (k + 1) * 3 = k * 3 + 1 + 1 + 1 := by omega
      have e1 : (k + 1) * 3 + 1 = (k * 3 + 1) + 1 + 1 + 1 := by omega
      have e2 : (k + 1) * 3 + 2 = (k * 3 + 2) + 1 + 1 + 1 := by omega
      rw [e2, e1, e0]
      simpa using this
/-- The three cells of a range in a slice, as the walk spells them. -/
theorem Rd.rg {w : World} {A : Option Addr} {n k : Nat} {l : List Rg} {s : Rg} (hr : Rd w 3 A n (cellsG l)) (h : l[k]? = some s) : ∃ ad, A = some ad ∧ ad.block < w.heap.size ∧ w.cell? (ad.add (k * 3)) = some (.int .i64 s.1) ∧
    w.cell? ⟨(ad.add (k * 3)).block, (ad.add (k * 3)).off + 1, none⟩ = some (.int .i64 s.2.1) ∧ w.cell? ⟨(ad.add (k * 3)).block, (ad.add (k * 3)).off + 2, none⟩ = some (.int .i64 s.2.2) := by
  have hlen : l.length * 3 = n * 3 := by rw [← cellsG_len]; exact hr.1
  have hk := (List.getElem?_eq_some_iff.1 h).1
  obtain ⟨ad, rfl, hb, hc⟩ := hr.2 (by omega)
  obtain ⟨e0, e1, e2⟩ := cellsG_at h
  have h1 := hc _ _ e1
  have h2 := hc _ _ e2
  rw [addNext ad (k * 3) 0] at h1
  rw [addNext ad (k * 3) 1] at h2
  exact ⟨ad, rfl, hb, hc _ _ e0, h1, h2⟩
theorem Rd.lenG {w : World} {A : Option Addr} {n : Nat} {l : List Rg} (hr : Rd w 3 A n (cellsG l)) : l.length = n := by
  have := hr.1
  rw [cellsG_len] at this
  omega

/-- Whether ranges rise behind 'last'. -/
def riseB (last : Int) : List Rg → Bool
  | [] => true
  | r :: l => if r.1 ≤ last ∨ r.2.1 < r.1 ∨ 1114111 < r.2.1 then false else riseB r.2.1 l
theorem riseB_no {last : Int} {l : List Rg} {r : Rg} (h : r.1 ≤ last ∨ r.2.1 < r.1 ∨ 1114111 < r.2.1) : riseB last (r :: l) = false := if_pos h
theorem riseB_yes {last : Int} {l : List Rg} {r : Rg} (h : ¬ (r.1 ≤ last ∨ r.2.1 < r.1 ∨ 1114111 < r.2.1)) : riseB last (r :: l) = riseB r.2.1 l := if_neg h
/-- The value of a code: the first range's that has it. -/
def getG (l : List Rg) (none_ c : Int) : Int :=
  match l with
  | [] => none_
  | r :: l => if r.1 ≤ c ∧ c ≤ r.2.1 then r.2.2 else getG l none_ c
/-- What Build tells of ranges. -/
def errG (l : List Rg) : Int := if 4096 < l.length then 6 else if riseB (-1) l = true then 0 else 10
end Go.Proofs.Ytaiefneimjdmhaa
/- More words for memory: make with a length and a capacity; values in an aggregate. -/
namespace Go.Proofs.Ytaiefneimjdmhaa
open Go.RowKit

/-- make([]T, l, c), T of one cell. -/
theorem wpList_mkN {P : Program} {w : World} {ops : Array Oper} {rest : List Oper} {o : Oper} {a : Act} {Q : Exit → Act → World → Prop}
    (hg : o.guard = none) (lo co : Operand) (t : TypeId) (hop : o.op = Op.makeSlice t lo co)
    {base : Nat} {e : TypeId} {bytes : Nat} {z : Value} (ht : P.underlying t = some (.slice e)) (hin : (P.info? e).map (fun i => (i.zero, i.size, i.bytes)) = some (some z, 1, bytes)) (hz : z.cells = #[z])
    {kl kc : IntKind} (L C : Int) (l c : Nat) (hl : a.eval lo = .int kl L) (hc : a.eval co = .int kc C) (hL : L = (l : Int)) (hC : C = (c : Int)) (hlc : l ≤ c) (b2 : bytes * c ≤ 281474976710656) (b3 : c ≤ maxLen) (b4 : base ≤ w.heap.size)
    (hK : ∀ w', w'.ownsRow base e 1 (.slice (some ⟨w.heap.size, 0, none⟩) l c) l (List.replicate l z) → w.grownBy w' none → wpList P ops Q rest (a.put o.dst (.slice (some ⟨w.heap.size, 0, none⟩) l c)) w') :
    wpList P ops Q (o :: rest) a w := by
  obtain ⟨i, h1, h2, h3, h4⟩ := info_parts hin
  subst hL hC
  have h63 : ((c : Nat) : Int) ≤ 9223372036854775807 := by unfold maxLen at b3; omega
  have hb' : (i.bytes : Int) * (c : Int) ≤ 281474976710656 := by
    have h : ((i.bytes * c : Nat) : Int) ≤ 281474976710656 := by rw [h4]; omega
    rwa [Int.natCast_mul] at h
  have hr := run_make (P := P) w t e i z ht h1 h2 kl kc l c (by omega) (by omega) hb' h63
  simp only [Int.toNat_natCast, h3, Nat.mul_one, hz] at hr
  have hown : (w.alloc (.cells (madeCells #[z] c) e)).ownsRow base e 1 (.slice (some ⟨w.heap.size, 0, none⟩) l c) l (List.replicate l z) := by
    refine ⟨by simp, .inr ⟨w.heap.size, c, madeCells #[z] c, rfl, b4, heap_alloc_new w _, hlc, b3, by rw [size_madeCells]; omega, ?_⟩⟩
    rw [toList_madeCells_one, Nat.mul_one, List.take_replicate]
    congr 1
    omega
  refine wpList_plain hg fun K hK' => ?_
  unfold Oper.wp
  simp [execOp, hop, hl, hc, hr, Result.andThen]
  exact hK' _ _ (hK _ hown (World.grownBy_alloc w _ none))

/-- A row of the call's own with at least one element: where it lies. -/
theorem own_at {w : World} {base : Nat} {e : TypeId} {v : Value} {n : Nat} {xs : List Value} (h : w.ownsRow base e 1 v n xs) (hn : 0 < n) :
    ∃ g c, v = .slice (some ⟨g, 0, none⟩) n c ∧ n ≤ c ∧ g < w.heap.size ∧ base ≤ g ∧ ∀ j u, xs[j]? = some u → w.cell? ⟨g, j, none⟩ = some u := by
  obtain ⟨g, c, hv, hbg, hlt⟩ := h.form hn
  obtain ⟨_, _, e, hnc⟩ := own_form h
  subst hv
  injection e with _ _ e
  subst e
  refine ⟨g, c, rfl, hnc, hlt, hbg, fun j u hj => ?_⟩
  have := h.cells (g := g) rfl j u hj
  rwa [addNew] at this
/-- What is owned from a later block on is owned from an earlier one on. -/
theorem own_base {w : World} {base b' : Nat} {e : TypeId} {size : Nat} {v : Value} {n : Nat} {xs : List Value} (h : w.ownsRow base e size v n xs) (hb : b' ≤ base) : w.ownsRow b' e size v n xs := by
  obtain ⟨h1, h2⟩ := h
  refine ⟨h1, ?_⟩
  rcases h2 with h2 | ⟨g, cap, cur, hv, hg, r⟩
  · exact .inl h2
  · exact .inr ⟨g, cap, cur, hv, Nat.le_trans hb hg, r⟩
/-- A block of the call's own that no row is, behind an append or a make. -/
theorem blk_grown {w w' : World} {b : Nat} {o : Obj} {row : Option Nat} (h : w.heap[b]? = some o) (hg : w.grownBy w' row) (hne : row ≠ some b) : w'.heap[b]? = some o :=
  (hg.block b (by
    rcases Nat.lt_or_ge b w.heap.size with h' | h'
    · exact h'
    · simp [Array.getElem?_eq_none h'] at h) (fun e => hne e.symm)).trans h
theorem blk_alloc {w : World} {b : Nat} {o : Obj} (h : w.heap[b]? = some o) (o' : Obj) : (w.alloc o').heap[b]? = some o :=
  blk_grown h (World.grownBy_alloc w _ none) (by simp)
/-- A callee that leaves the world alone, inside a quiet region. -/
theorem quiet_eq {P : Program} {f : FuncId} {args : Array Value} {w : World} {n : Nat} {v : Value}
    (h : Calls P f args (w.drewN n) fun e w' => e = .returned v ∧ w.drewN n = w') : Calls P f args (w.drewN n) fun e w'' => e = .returned v ∧ ∃ m, w'' = w.drewN m :=
  Calls.quiet_of_same (h.mono fun _ _ ⟨a, b⟩ => ⟨a, b.symm⟩)
theorem toList_madeSame (z : Array Value) (z0 : Value) (h0 : 0 < z.size) (hz : ∀ j, j < z.size → z[j]! = z0) (n : Nat) : (madeCells z n).toList = List.replicate n z0 := by
  rw [List.eq_replicate_iff]
  refine ⟨by simp [madeCells], fun b hb => ?_⟩
  simp only [madeCells, Array.toList_map, List.mem_map] at hb
  obtain ⟨j, _, rfl⟩ := hb
  exact hz _ (Nat.mod_lt _ h0)
/-- make([]T, n), T a struct whose cells are all the same at zero. -/
theorem wpList_mkZ {P : Program} {w : World} {ops : Array Oper} {rest : List Oper} {o : Oper} {a : Act} {Q : Exit → Act → World → Prop}
    (hg : o.guard = none) (l c : Operand) (t : TypeId) (hop : o.op = Op.makeSlice t l c)
    {base : Nat} {e : TypeId} {size bytes : Nat} {z z0 : Value} (ht : P.underlying t = some (.slice e)) (hin : (P.info? e).map (fun i => (i.zero, i.size, i.bytes)) = some (some z, size, bytes)) (h0 : 0 < z.cells.size) (hz : ∀ j, j < z.cells.size → z.cells[j]! = z0)
    {kl kc : IntKind} (L C : Int) (n : Nat) (hl : a.eval l = .int kl L) (hc : a.eval c = .int kc C) (hL : L = (n : Int)) (hC : C = (n : Int)) (b2 : bytes * n ≤ 281474976710656) (b3 : n ≤ maxLen) (b4 : base ≤ w.heap.size)
    (hK : ∀ w', w'.ownsRow base e size (.slice (some ⟨w.heap.size, 0, none⟩) n n) n (List.replicate (n * size) z0) → w.grownBy w' none → wpList P ops Q rest (a.put o.dst (.slice (some ⟨w.heap.size, 0, none⟩) n n)) w') :
    wpList P ops Q (o :: rest) a w := by
  obtain ⟨i, h1, h2, h3, h4⟩ := info_parts hin
  refine wpList_make_full w hg l c t hop base e i z size ht h1 h2 h3 kl kc L C n hl hc hL hC (by rw [h4]; exact b2) b3 b4 (fun w' a1 a2 => hK w' ?_ a2)
  rwa [toList_madeSame _ z0 h0 hz] at a1
/-- Two cells next to each other, stored into a row of the call's own. -/
theorem own_store2 {w : World} {base : Nat} {e : TypeId} {size g n cap : Nat} {xs : List Value} (h : w.ownsRow base e size (.slice (some ⟨g, 0, none⟩) n cap) n xs) (j : Nat) (u v : Value) :
    ((w.setCell ⟨g, j, none⟩ u).setCell ⟨g, j + 1, none⟩ v).ownsRow base e size (.slice (some ⟨g, 0, none⟩) n cap) n ((xs.set j u).set (j + 1) v) :=
  ((h.stored j u).1.stored (j + 1) v).1
/-- A cell of a row of the call's own is there and may be written. -/
theorem own_slot {w : World} {base : Nat} {e : TypeId} {size g n cap : Nat} {xs : List Value} (h : w.ownsRow base e size (.slice (some ⟨g, 0, none⟩) n cap) n xs) {j : Nat} (hj : j < n * size) :
    (∃ u, w.cell? ⟨g, j, none⟩ = some u) ∧ w.frozen? ⟨g, j, none⟩ = false :=
  ⟨⟨xs[j]'(by rw [h.1]; exact hj), by rw [h.cellAt j hj, List.getElem?_eq_getElem]⟩, h.frozenAt j⟩
end Go.Proofs.Ytaiefneimjdmhaa
/- append of whatever reads as cells onto a row of the call's own, at a step of a region that draws its order. -/
namespace Go.Proofs.Ytaiefneimjdmhaa
open Go.RowKit

theorem run_appR {P : Program} (w : World) (t ty : TypeId) {base : Nat} {e : TypeId} {size bytes : Nat} (S : SliceOf P t e size bytes) (hsz : 0 < size)
    (v : Value) (n : Nat) (xs : List Value) (hown : w.ownsRow base e size v n xs)
    (A : Option Addr) (m c : Nat) (news : List Value) (hr : Rd w size A m news) (h1 : ∀ u ∈ news, u.oneCell' = true)
    (hbytes : (n + m) * bytes ≤ 140737488355328) (h63 : n + m ≤ maxLen) (hbase : base ≤ w.heap.size) :
    ∃ v' w', (Builtin.append_ #[t, t] ty #[v, .slice A m c]).run P w = .ok v' w' ∧ w'.ownsRow base e size v' (n + m) (xs ++ news) ∧ w.grownBy w' v.ownBlock ∧ (v'.ownBlock = v.ownBlock ∨ v'.ownBlock = some w.heap.size) := by
  rcases A with _ | ad
  · have hm : m = 0 := by
      rcases Nat.eq_zero_or_pos m with h0 | h0
      · exact h0
      · obtain ⟨_, e, _⟩ := hr.2 h0
        cases e
    subst hm
    have hn : news = [] := List.eq_nil_of_length_eq_zero (by simpa using hr.1)
    subst hn
    exact ⟨v, w, run_app_nil w base t ty e size bytes S v n xs hown c, by simpa using hown, World.grownBy.refl w _, .inl rfl⟩
  · obtain ⟨ht, i, z, hi, hz, hs1, hb1, hzs⟩ := S
    obtain ⟨v', w', hrun, h2, h3, _, h5⟩ := run_append_own_at (P := P) w base t ty e i z size bytes ht hi hz hs1 hb1 hzs hsz v n xs hown ad m c news hr.1 hr.news h1 h63 hbytes hbase
    exact ⟨v', w', hrun, h2, h3, h5⟩

theorem step_appR {P : Program} {w : World} {ops : Array Oper} {o : Oper} {a : Act} {K : Act → World → Prop} {Q : Exit → Act → World → Prop} {E : Prop} (hgd : o.guard = none) (s x : Operand) (t : TypeId)
    (ho : o.op = .call { callee := .builtin .append, args := #[s, x], argTypes := #[t, t] })
    {base : Nat} {e : TypeId} {size bytes : Nat} (S : SliceOf P t e size bytes) (hsz : 0 < size)
    (v : Value) (n : Nat) (xs : List Value) (hs : a.eval s = v) (hown : w.ownsRow base e size v n xs)
    (A : Option Addr) (m c : Nat) (news : List Value) (hx : a.eval x = .slice A m c) (hr : Rd w size A m news) (h1 : ∀ u ∈ news, u.oneCell' = true)
    (hbytes : (n + m) * bytes ≤ 140737488355328) (h63 : n + m ≤ maxLen) (hbase : base ≤ w.heap.size) (H : Nat) (hH : w.heap.size = H)
    (h : ∀ v' w', w'.ownsRow base e size v' (n + m) (xs ++ news) → w.grownBy w' v.ownBlock → (v'.ownBlock = v.ownBlock ∨ v'.ownBlock = some H) → K (a.put o.dst v') w') :
    if Region.wanted o (yielded ops a.tmps) = true then Oper.wp P o a w K Q else E := by
  have hw : Region.wanted o (yielded ops a.tmps) = true := by simp [Region.wanted, hgd]
  rw [if_pos hw]
  obtain ⟨v', w', hrun, h2, h3, h5⟩ := run_appR (P := P) w t o.type S hsz v n xs hown A m c news hr h1 hbytes h63 hbase
  unfold Oper.wp execOp
  simp only [ho, resolve, invoke, builtin, Sem.run_bind, Sem.run_pure, Result.andThen_ok, List.map_toArray, List.map_cons, List.map_nil, hs, hx, hrun]
  exact h v' w' h2 h3 (by rw [← hH]; exact h5)
theorem own_below {w w' : World} {base : Nat} {e : TypeId} {size n : Nat} {v : Value} {xs : List Value} (h : w.ownsRow base e size v n xs) (hb : Below w.heap.size w w') : w'.ownsRow base e size v n xs := by
  rcases hv : v.ownBlock with _ | g
  · exact h.kept (row := none) ⟨hb.os, hb.tape, hb.output, hb.size, fun k hk _ => hb.block k hk⟩ (.inl hv)
  · exact h.kept (row := none) ⟨hb.os, hb.tape, hb.output, hb.size, fun k hk _ => hb.block k hk⟩ (.inr (by rw [hv]; exact fun e => by cases e))
theorem below_of_drew {w w' : World} (h : Below w.drew.heap.size w.drew w') : Below w.heap.size w w' := ⟨h.os, h.tape, h.output, h.size, h.block⟩
theorem grown_of_below' {w w' : World} (row : Option Nat) (hb : Below w.heap.size w w') : w.grownBy w' row := ⟨hb.os, hb.tape, hb.output, hb.size, fun k hk _ => hb.block k hk⟩
theorem grown_set {a w : World} {g : Nat} (h : a.grownBy w (some g)) (j : Nat) (u : Value) : a.grownBy (w.setCell ⟨g, j, none⟩ u) (some g) :=
  ⟨h.os, h.tape, h.output, by simpa [World.setCell] using h.size, fun i hi hne => (Below.heap_setCell w ⟨g, j, none⟩ u i (fun e => hne (by rw [e]))).trans (h.block i hi hne)⟩
/-- Four cells next to each other, stored into a row of the call's own. -/
theorem own_store4 {w : World} {base : Nat} {e : TypeId} {size g n cap : Nat} {xs : List Value} (h : w.ownsRow base e size (.slice (some ⟨g, 0, none⟩) n cap) n xs) (j : Nat) (a b c d : Value) :
    ((((w.setCell ⟨g, j, none⟩ a).setCell ⟨g, j + 1, none⟩ b).setCell ⟨g, j + 2, none⟩ c).setCell ⟨g, j + 3, none⟩ d).ownsRow base e size (.slice (some ⟨g, 0, none⟩) n cap) n ((((xs.set j a).set (j + 1) b).set (j + 2) c).set (j + 3) d) :=
  ((((h.stored j a).1.stored (j + 1) b).1.stored (j + 2) c).1.stored (j + 3) d).1
theorem rd_blk {w : World} {b m : Nat} {cs : List Value} {t : TypeId} (size : Nat) (h : w.heap[b]? = some (.cells cs.toArray t (0, 0))) (hl : cs.length = m * size) : Rd w size (some ⟨b, 0, none⟩) m cs :=
  ⟨hl, fun _ => ⟨_, rfl, (Array.getElem?_eq_some_iff.1 h).1, World.news_of_block (cs := cs.toArray) (fr := (0, 0)) h⟩⟩
end Go.Proofs.Ytaiefneimjdmhaa
/- The runs of levels as mathematics: they are parts, neighbours have unlike levels. No function of the program. -/
namespace Go.Proofs.Ytaiefneimjdmhaa
open Go.RowKit

/-- Runs with one more level behind them. -/
def stepR (R : List Rg) (i : Nat) (x : Int) : List Rg := match R.getLast? with
  | some r => if r.2.2 = x then R.dropLast ++ [(r.1, (i : Int) + 1, x)] else R ++ [((i : Int), (i : Int) + 1, x)]
  | none => R ++ [((i : Int), (i : Int) + 1, x)]
def logR (ls : List Int) : Nat → List Rg
  | 0 => []
  | k + 1 => stepR (logR ls k) k (ls.getD k 0)
theorem stepR_len (R : List Rg) (i : Nat) (x : Int) : (stepR R i x).length ≤ R.length + 1 := by
  unfold stepR
  split
  · split
    · simp
    · simp
  · simp
theorem logR_len (ls : List Int) : ∀ k, (logR ls k).length ≤ k
  | 0 => Nat.le_refl 0
  | k + 1 => by
    have := logR_len ls k
    have := stepR_len (logR ls k) k (ls.getD k 0)
    rw [logR]
    omega
theorem stepR_nil (i : Nat) (x : Int) : stepR [] i x = [((i : Int), (i : Int) + 1, x)] := rfl
theorem stepR_same (R : List Rg) (a b : Int) (i : Nat) (x : Int) : stepR (R ++ [(a, b, x)]) i x = R ++ [(a, (i : Int) + 1, x)] := by
  unfold stepR
  simp
theorem stepR_new (R : List Rg) (a b c : Int) (i : Nat) (x : Int) (h : c ≠ x) : stepR (R ++ [(a, b, c)]) i x = R ++ [(a, b, c)] ++ [((i : Int), (i : Int) + 1, x)] := by
  unfold stepR
  simp [h]
theorem parts_snoc (s : Sp) (n : Int) : ∀ (l : List Sp) (e : Int), partsFrom e l s.1 = true → rightB s = true → s.2 = n → partsFrom e (l ++ [s]) n = true
  | [], e, h, h1, h2 => by
    have h : e = s.1 := by simpa [partsFrom] using h
    simp [partsFrom, h1, h2, h]
  | t :: l, e, h, h1, h2 => by
    simp only [partsFrom, Bool.and_eq_true] at h
    rw [List.cons_append]
    simp only [partsFrom, Bool.and_eq_true]
    exact ⟨h.1, parts_snoc s n l t.2 h.2 h1 h2⟩
theorem parts_last (s : Sp) (n : Int) : ∀ (l : List Sp) (e : Int), partsFrom e (l ++ [s]) n = true → partsFrom e l s.1 = true ∧ rightB s = true ∧ s.2 = n
  | [], e, h => by
    simp only [List.nil_append, partsFrom, Bool.and_eq_true, beq_iff_eq] at h
    exact ⟨by simp [partsFrom, h.1.2], h.1.1, h.2⟩
  | t :: l, e, h => by
    rw [List.cons_append] at h
    simp only [partsFrom, Bool.and_eq_true] at h
    obtain ⟨h1, h2, h3⟩ := parts_last s n l t.2 h.2
    exact ⟨by simp only [partsFrom, Bool.and_eq_true]; exact ⟨h.1, h1⟩, h2, h3⟩
/-- What holds of the runs of the first places. -/
structure LogOk (ls : List Int) (R : List Rg) (k : Nat) : Prop where
  parts : partsFrom 0 (R.map fun r => (r.1, r.2.1)) k = true
  unlike : ∀ (i : Nat) (r s : Rg), R[i]? = some r → R[i + 1]? = some s → r.2.2 ≠ s.2.2
  lev : ∀ r ∈ R, ∀ i : Nat, r.1 ≤ i → (i : Int) < r.2.1 → ls.getD i 0 = r.2.2
theorem LogOk.nil (ls : List Int) : LogOk ls [] 0 := ⟨rfl, by simp, by simp⟩
theorem LogOk.step {ls : List Int} {R : List Rg} {k : Nat} (h : LogOk ls R k) : LogOk ls (stepR R k (ls.getD k 0)) (k + 1) := by
  obtain ⟨x, hx⟩ : ∃ x, ls.getD k 0 = x := ⟨_, rfl⟩
  rw [hx]
  rcases List.eq_nil_or_concat R with rfl | ⟨R0, ⟨a, b, e⟩, rfl⟩
  · rw [stepR_nil]
    have hk : k = 0 := by
      have := h.parts
      simp [partsFrom] at this
      omega
    subst hk
    refine ⟨rfl, ?_, ?_⟩
    · intro i r s h1 h2
      simp at h2
    · intro r hr i h1 h2
      simp at hr
      subst hr
      simp at h1 h2
      obtain rfl : i = 0 := by omega
      exact hx
  · rw [List.concat_eq_append] at h ⊢
    have hp := h.parts
    rw [List.map_append] at hp
    obtain ⟨p1, p2, p3⟩ := parts_last (a, b) k _ 0 hp
    simp only at p1 p3
    have hr : 0 ≤ a ∧ a < b := by simpa [rightB] using p2
    by_cases hxe : e = x
    · subst hxe
      rw [stepR_same]
      refine ⟨?_, ?_, ?_⟩
      · rw [List.map_append]
        exact parts_snoc (a, (k : Int) + 1) _ _ 0 p1 (by simp [rightB]; omega) rfl
      · intro i r s h1 h2
        have hl := (List.getElem?_eq_some_iff.1 h2).1
        rw [List.length_append, List.length_singleton] at hl
        rw [List.getElem?_append_left (by omega)] at h1
        by_cases hi : i + 1 < R0.length
        · rw [List.getElem?_append_left hi] at h2
          exact h.unlike i r s (by rw [List.getElem?_append_left (by omega)]; exact h1) (by rw [List.getElem?_append_left hi]; exact h2)
        · rw [List.getElem?_append_right (by omega), show i + 1 - R0.length = 0 by omega] at h2
          obtain rfl := Option.some.inj h2
          exact h.unlike i r (a, b, e) (by rw [List.getElem?_append_left (by omega)]; exact h1) (by rw [List.getElem?_append_right (by omega), show i + 1 - R0.length = 0 by omega]; rfl)
      · intro r hrr i h1 h2
        rcases List.mem_append.1 hrr with hrr | hrr
        · exact h.lev r (by simp [hrr]) i h1 h2
        · rw [List.mem_singleton] at hrr
          subst hrr
          simp only at h1 h2
          by_cases hik : i = k
          · rw [hik]; exact hx
          · exact h.lev (a, b, e) (by simp) i h1 (by simp only; omega)
    · rw [stepR_new _ _ _ _ _ _ hxe]
      refine ⟨?_, ?_, ?_⟩
      · rw [List.map_append]
        exact parts_snoc ((k : Int), (k : Int) + 1) _ _ 0 h.parts (by simp [rightB]; omega) rfl
      · intro i r s h1 h2
        have hl := (List.getElem?_eq_some_iff.1 h2).1
        rw [List.length_append, List.length_singleton] at hl
        rw [List.getElem?_append_left (by omega)] at h1
        by_cases hi : i + 1 < (R0 ++ [(a, b, e)]).length
        · rw [List.getElem?_append_left hi] at h2
          exact h.unlike i r s h1 h2
        · rw [List.getElem?_append_right (by omega), show i + 1 - (R0 ++ [(a, b, e)]).length = 0 by omega] at h2
          obtain rfl := Option.some.inj h2
          rw [List.length_append, List.length_singleton] at hi hl
          rw [List.getElem?_append_right (by omega), show i - R0.length = 0 by omega] at h1
          obtain rfl := Option.some.inj h1
          exact hxe
      · intro r hrr i h1 h2
        rcases List.mem_append.1 hrr with hrr | hrr
        · exact h.lev r hrr i h1 h2
        · rw [List.mem_singleton] at hrr
          subst hrr
          simp only at h1 h2
          obtain rfl : i = k := by omega
          exact hx
theorem log_ok (ls : List Int) : ∀ k, LogOk ls (logR ls k) k
  | 0 => LogOk.nil ls
  | k + 1 => by rw [logR]; exact (log_ok ls k).step
end Go.Proofs.Ytaiefneimjdmhaa
/- naskhref30's Logical: the runs of levels, walked. -/
namespace Go.Proofs.Ytaiefneimjdmhaa
open Go.RowKit
theorem runSlice : SliceOf Try.prog 34 38 3 24 := .mk_ (z := .agg #[.int .i64 0, .int .i64 0, .int .i64 0]) Try.underlying34 (by kernel_rfl) rfl
theorem int3 (a b c : Int) : ∀ u ∈ [Value.int .i64 a, Value.int .i64 b, Value.int .i64 c], u.oneCell' = true := by
  intro u hu
  simp at hu
  rcases hu with rfl | rfl | rfl <;> rfl
theorem cellsG_hi (R : List Rg) (a b c y : Int) : (cellsG (R ++ [(a, b, c)])).set (R.length * 3 + 1) (.int .i64 y) = cellsG (R ++ [(a, y, c)]) := by
  rw [cellsG_snoc, cellsG_snoc, List.set_append_right _ _ (by rw [cellsG_len]; omega), cellsG_len, show R.length * 3 + 1 - R.length * 3 = 1 by omega]
  rfl
set_option maxRecDepth 100000 in
set_option maxHeartbeats 4000000 in
theorem roLogical_any (A : Option Addr) (n c : Nat) (ls : List Int) (w : World) (hr : Rd w 1 A n (ls.map (Value.int .i64))) (hn : n ≤ 100000) :
    Calls Try.prog 24 #[.slice A n c] w fun e w' => ∃ v, e = .returned v ∧ w'.ownsRow w.heap.size 38 3 v (logR ls n).length (cellsG (logR ls n)) ∧ Below w.heap.size w w' := by
  have hl : ls.length = n := by simpa using hr.len1
  have HL := Lib.hid hl
  have HR := Lib.hid hr
  clear hl hr
  go_enter Try.func24, Try.ntmps24
  go_wp2
  go_loopw [3, 4] (fun v t wr => ∃ k : Nat, k ≤ n ∧ t = .int .i64 (k : Int) ∧ wr.ownsRow w.heap.size 38 3 v (logR ls k).length (cellsG (logR ls k)) ∧ Below w.heap.size w wr) (fun _ t _ => n - (intOf t).toNat)
  case atStart => exact ⟨0, Nat.zero_le _, rfl, ⟨rfl, .inl ⟨rfl, rfl⟩⟩, Below.refl _ _⟩
  case round =>
    obtain ⟨k, hk, rfl, hO, hB⟩ := hrel
    have hlk := logR_len ls k
    have HO := Lib.hid hO
    have HB := Lib.hid hB
    clear hO hB
    by_cases hlt : k < n
    · obtain ⟨x, hx⟩ : ∃ x, ls[k]? = some x := ⟨_, List.getElem?_eq_getElem (by rw [HL.out]; exact hlt)⟩
      obtain ⟨ad, rfl, hab, hcell⟩ := HR.out.at_ hlt
      have HCX := Lib.hid (hcell _ (by rw [List.getElem?_map, hx]; rfl) : w.cell? (ad.add k) = some (.int .i64 x))
      have cx := cell_below HB.out HCX.out
      have HST := Lib.hid (show logR ls (k + 1) = stepR (logR ls k) k x by rw [logR, List.getD_eq_getElem?_getD, hx]; rfl)
      have hkn : (k : Int) < (n : Int) := by omega
      have hk0 : (0 : Int) ≤ (k : Int) := by omega
      have hk5 : (k : Int) ≤ 100000 := by omega
      clear hx hcell
      obtain ⟨R, hR⟩ : ∃ R, logR ls k = R := ⟨_, rfl⟩
      rw [hR] at HO HST hlk
      clear hR
      rcases List.eq_nil_or_concat R with rfl | ⟨R0, ⟨a, b, e⟩, rfl⟩
      · rw [stepR_nil] at HST
        obtain ⟨A0, cv, hv, hcv⟩ := own_form HO.out
        simp only [List.length_nil] at hv
        subst hv
        go_wp2
        go_quiet (fail)
        have HOq := Lib.hid (own_below HO.out (drewBelow nq))
        have HBq := Lib.hid (below_drew HB.out nq)
        have hsz := HBq.out.size
        generalize wr.drewN nq = wq at *
        have cx3 := cell_below HBq.out HCX.out
        clear cx
        go_wp2_with (first
          | (at_builtin; refine wpList_app rfl _ _ _ rfl runSlice (by decide) _ 0 _ rfl (HOq.out.alloc _) ⟨wq.heap.size, 0, none⟩ 1 1 [.int .i64 (k : Int), .int .i64 ((k : Int) + 1), .int .i64 x] rfl rfl (cells_new wq [.int .i64 (k : Int), .int .i64 ((k : Int) + 1), .int .i64 x] 38) (int3 _ _ _) (by omega) (by unfold maxLen; omega) (Nat.le_trans hsz (by simp)) ?_; intro v1 w3 hown3 hg3 hat3)
          | fail)
        have HO3 : Hid (w3.ownsRow w.heap.size 38 3 v1 (logR ls (k + 1)).length (cellsG (logR ls (k + 1)))) := Lib.hid (by rw [HST.out]; exact hown3)
        have HB3 := Lib.hid (below_app (HBq.out.alloc hsz _) hg3 (HOq.out.alloc _) (Nat.le_trans hsz (by simp)))
        clear hown3 hg3 hat3
        go_roundw
        case rel => exact ⟨k + 1, by omega, by go_num, HO3.out, HB3.out⟩
        case measure => simp [intOf]; omega
      · rw [List.concat_eq_append] at HO HST hlk
        rw [List.length_append, List.length_singleton] at hlk
        have HO1 : Hid (wr.ownsRow w.heap.size 38 3 u3 (R0.length + 1) (cellsG (R0 ++ [(a, b, e)]))) := Lib.hid (by have := HO.out; rwa [List.length_append, List.length_singleton] at this)
        clear HO
        obtain ⟨g, cg, hv, hbg, hlg⟩ := HO1.out.form (by omega)
        obtain ⟨A0, cv, hv2, hcv⟩ := own_form HO1.out
        subst hv
        injection hv2 with e1 _ e2
        subst e1 e2
        obtain ⟨q, hq⟩ : ∃ q, R0.length = q := ⟨_, rfl⟩
        have HQ := Lib.hid hq
        have c2 : wr.cell? ⟨g, q * 3 + 2, none⟩ = some (.int .i64 e) := by
          rw [HO1.out.cellAt (q * 3 + 2) (by omega)]
          exact (cellsG_at (l := R0 ++ [(a, b, e)]) (k := q) (s := (a, b, e)) (by rw [List.getElem?_append_right (by omega), hq, Nat.sub_self]; rfl)).2.2
        obtain ⟨⟨u1, cu1⟩, fu1⟩ := own_slot HO1.out (j := q * 3 + 1) (by omega)
        rw [hq] at hlk HO1
        rw [hq]
        have hq0 : (0 : Int) < (q : Int) + 1 := by omega
        have hq1 : ((q : Int) + 1) - 1 = (q : Int) := by omega
        have hq2 : (q : Int) < (q : Int) + 1 := by omega
        clear hq
        by_cases hxe : e = x
        · subst hxe
          rw [stepR_same] at HST
          go_wp2
          go_quiet (fail)
          have HOq := Lib.hid (own_below HO1.out (drewBelow nq))
          have HBq := Lib.hid (below_drew HB.out nq)
          obtain ⟨⟨u2, cu2⟩, fu2⟩ := own_slot HOq.out (j := q * 3 + 1) (by omega)
          have HO2 := Lib.hid ((HOq.out.stored (q * 3 + 1) (.int .i64 ((k : Int) + 1))).1)
          have HB2 := Lib.hid (HBq.out.setCell (p := ⟨g, q * 3 + 1, none⟩) (HOq.out.lt g rfl).1 (.int .i64 ((k : Int) + 1)))
          generalize wr.drewN nq = wq at *
          clear cx cu1 fu1 c2
          go_wp2
          go_roundw
          case rel => exact ⟨k + 1, by omega, by go_num, by rw [HST.out, List.length_append, List.length_singleton, HQ.out, ← cellsG_hi R0 a b e, HQ.out]; exact HO2.out, HB2.out⟩
          case measure => simp [intOf]; omega
        · have gx : (e == x) = false := by simp [hxe]
          rw [stepR_new _ _ _ _ _ _ hxe] at HST
          clear hxe
          go_wp2
          go_quiet (fail)
          have HOq := Lib.hid (own_below HO1.out (drewBelow nq))
          have HBq := Lib.hid (below_drew HB.out nq)
          have hsz := HBq.out.size
          generalize wr.drewN nq = wq at *
          have cx3 := cell_below HBq.out HCX.out
          clear cx
          go_wp2_with (first
            | (at_builtin; refine wpList_app rfl _ _ _ rfl runSlice (by decide) _ (q + 1) _ rfl (HOq.out.alloc _) ⟨wq.heap.size, 0, none⟩ 1 1 [.int .i64 (k : Int), .int .i64 ((k : Int) + 1), .int .i64 x] rfl rfl (cells_new wq [.int .i64 (k : Int), .int .i64 ((k : Int) + 1), .int .i64 x] 38) (int3 _ _ _) (by omega) (by unfold maxLen; omega) (Nat.le_trans hsz (by simp)) ?_; intro v1 w3 hown3 hg3 hat3)
            | fail)
          have HO3 : Hid (w3.ownsRow w.heap.size 38 3 v1 (logR ls (k + 1)).length (cellsG (logR ls (k + 1)))) := Lib.hid (by rw [HST.out]; rw [List.length_append, List.length_append, List.length_singleton, List.length_singleton, HQ.out, cellsG_snoc]; exact hown3)
          have HB3 := Lib.hid (below_app (HBq.out.alloc hsz _) hg3 (HOq.out.alloc _) (Nat.le_trans hsz (by simp)))
          clear hown3 hg3 hat3
          go_roundw
          case rel => exact ⟨k + 1, by omega, by go_num, HO3.out, HB3.out⟩
          case measure => simp [intOf]; omega
    · obtain rfl : k = n := by omega
      go_wp2
      go_ret
      exact ⟨_, rfl, HO.out, HB.out⟩
end Go.Proofs.Ytaiefneimjdmhaa
/- runs.count and runs.Logical, walked. -/
namespace Go.Proofs.Ytaiefneimjdmhaa
open Go.RowKit
set_option maxRecDepth 100000 in
set_option maxHeartbeats 2000000 in
theorem ruCount_any (A : Option Addr) (n c : Nat) (ls : List Int) (w : World) (hr : Rd w 1 A n (ls.map (Value.int .i64))) (hn : n ≤ 100000) :
    Calls Try.prog 38 #[.slice A n c] w fun e w' => ∃ p : Nat, p ≤ n ∧ e = .returned (.int .i64 (p : Int)) ∧ w' = w := by
  have hl : ls.length = n := by simpa using hr.len1
  have HL := Lib.hid hl
  have HR := Lib.hid hr
  clear hl hr
  go_enter Try.func38, Try.ntmps38
  go_wp2
  go_loopw [3, 8] (fun v t wr => ∃ k p : Nat, k ≤ n ∧ p ≤ k ∧ v = .int .i64 (p : Int) ∧ t = .int .i64 (k : Int) ∧ wr = w) (fun _ t _ => n - (intOf t).toNat)
  case atStart => exact ⟨0, 0, Nat.zero_le _, Nat.le_refl _, rfl, rfl, rfl⟩
  case round =>
    obtain ⟨k, p, hk, hp, rfl, rfl, rfl⟩ := hrel
    by_cases hlt : k < n
    · obtain ⟨x, hx⟩ : ∃ x, ls[k]? = some x := ⟨_, List.getElem?_eq_getElem (by rw [HL.out]; exact hlt)⟩
      obtain ⟨ad, rfl, hab, hcell⟩ := HR.out.at_ hlt
      have cx := hcell (.int .i64 x) (by rw [List.getElem?_map, hx]; rfl)
      have hkn : (k : Int) < (n : Int) := by omega
      have hk0 : (0 : Int) ≤ (k : Int) := by omega
      have hk5 : (k : Int) ≤ 100000 := by omega
      have hp5 : (p : Int) ≤ 100000 := by omega
      clear hx hcell
      by_cases h0 : k = 0
      · subst h0
        have cx' : wr.cell? ad = some (.int .i64 x) := by simpa [Addr.add] using cx
        go_wp2
        go_roundw
        case rel => exact ⟨1, p + 1, by omega, by omega, by go_num, by go_num, by first | rfl | trivial⟩
        case measure => simp [intOf]; omega
      · obtain ⟨j, rfl⟩ : ∃ j, k = j + 1 := ⟨k - 1, by omega⟩
        obtain ⟨y, hy⟩ : ∃ y, ls[j]? = some y := ⟨_, List.getElem?_eq_getElem (by rw [HL.out]; omega)⟩
        obtain ⟨_, e9, _, hcell2⟩ := HR.out.at_ (show j < n by omega)
        obtain rfl := Option.some.inj e9
        have cy := hcell2 (.int .i64 y) (by rw [List.getElem?_map, hy]; rfl)
        obtain ⟨kk, hkk⟩ : ∃ kk, j + 1 = kk := ⟨_, rfl⟩
        rw [hkk] at cx hkn hk0 hk5 hp hlt hk
        rw [hkk]
        have z0 : ((kk : Int) == 0) = false := by simp; omega
        have z1 : (kk : Int) - 1 = (j : Int) := by omega
        have z2 : (j : Int) < (n : Int) := by omega
        have z3 : (0 : Int) ≤ (j : Int) := by omega
        clear hy hcell2 e9 h0 hkk
        cases hd : (y != x) with
        | true =>
          go_wp2
          go_roundw
          case rel => exact ⟨kk + 1, p + 1, by omega, by omega, by go_num, by go_num, by first | rfl | trivial⟩
          case measure => simp [intOf]; omega
        | false =>
          go_wp2
          go_roundw
          case rel => exact ⟨kk + 1, p, by omega, by omega, rfl, by go_num, by first | rfl | trivial⟩
          case measure => simp [intOf]; omega
    · obtain rfl : k = n := by omega
      go_wp2
      go_ret
      exact ⟨p, hp, rfl, rfl⟩
set_option maxRecDepth 100000 in
set_option maxHeartbeats 4000000 in
theorem ruLogical_any (A : Option Addr) (n c : Nat) (ls : List Int) (w : World) (hr : Rd w 1 A n (ls.map (Value.int .i64))) (hn : n ≤ 100000) :
    Calls Try.prog 23 #[.slice A n c] w fun e w' => ∃ v, e = .returned v ∧ w'.ownsRow w.heap.size 38 3 v (logR ls n).length (cellsG (logR ls n)) ∧ Below w.heap.size w w' := by
  have hl : ls.length = n := by simpa using hr.len1
  have HL := Lib.hid hl
  have HR := Lib.hid hr
  have HCN := Lib.hid (ruCount_any A n c ls w hr hn)
  clear hl hr
  go_enter Try.func23, Try.ntmps23
  go_wp2_with (first
    | (go_at_call 38; refine (HCN.out).mono ?_; rintro e w1 ⟨p, hp, rfl, rfl⟩; have hp0 : (0 : Int) ≤ (p : Int) := (by omega); have hp5 : (p : Int) ≤ 100000 := (by omega))
    | (refine wpList_mk rfl _ _ _ rfl (base := w1.heap.size) runSlice (p : Int) p rfl rfl rfl (by omega) (by unfold maxLen; omega) (Nat.le_refl _) ?_; intro v2 w2 hown2 hg2)
    | fail)
  have HO0 : Hid (w2.ownsRow w1.heap.size 38 3 v2 0 []) := Lib.hid hown2
  have HB0 := Lib.hid (below_make hg2)
  obtain ⟨A2, c2, rfl, hc2⟩ := own_form HO0.out
  clear hown2 hg2
  go_loopw [3, 12] (fun v t wr => ∃ k : Nat, k ≤ n ∧ t = .int .i64 (k : Int) ∧ wr.ownsRow w1.heap.size 38 3 v (logR ls k).length (cellsG (logR ls k)) ∧ Below w1.heap.size w1 wr) (fun _ t _ => n - (intOf t).toNat)
  case atStart => exact ⟨0, Nat.zero_le _, rfl, HO0.out, HB0.out⟩
  case round =>
    obtain ⟨k, hk, rfl, hO, hB⟩ := hrel
    have hlk := logR_len ls k
    have HO := Lib.hid hO
    have HB := Lib.hid hB
    clear hO hB
    by_cases hlt : k < n
    · obtain ⟨x, hx⟩ : ∃ x, ls[k]? = some x := ⟨_, List.getElem?_eq_getElem (by rw [HL.out]; exact hlt)⟩
      obtain ⟨ad, rfl, hab, hcell⟩ := HR.out.at_ hlt
      have HCX := Lib.hid (hcell _ (by rw [List.getElem?_map, hx]; rfl) : w1.cell? (ad.add k) = some (.int .i64 x))
      have cx := cell_below HB.out HCX.out
      have HST := Lib.hid (show logR ls (k + 1) = stepR (logR ls k) k x by rw [logR, List.getD_eq_getElem?_getD, hx]; rfl)
      have hkn : (k : Int) < (n : Int) := by omega
      have hk0 : (0 : Int) ≤ (k : Int) := by omega
      have hk5 : (k : Int) ≤ 100000 := by omega
      clear hx hcell
      obtain ⟨R, hR⟩ : ∃ R, logR ls k = R := ⟨_, rfl⟩
      rw [hR] at HO HST hlk
      clear hR
      rcases List.eq_nil_or_concat R with rfl | ⟨R0, ⟨a, b, e⟩, rfl⟩
      · rw [stepR_nil] at HST
        obtain ⟨A0, cv, hv, hcv⟩ := own_form HO.out
        simp only [List.length_nil] at hv
        subst hv
        have HOq := HO
        have HBq := HB
        have hsz := HBq.out.size
        go_wp2_with (first
          | (at_builtin; refine wpList_app rfl _ _ _ rfl runSlice (by decide) _ 0 _ rfl (HOq.out.alloc _) ⟨wr.heap.size, 0, none⟩ 1 1 [.int .i64 (k : Int), .int .i64 ((k : Int) + 1), .int .i64 x] rfl rfl (cells_new wr [.int .i64 (k : Int), .int .i64 ((k : Int) + 1), .int .i64 x] 38) (int3 _ _ _) (by omega) (by unfold maxLen; omega) (Nat.le_trans hsz (by simp)) ?_; intro v1 w3 hown3 hg3 hat3)
          | fail)
        have HO3 : Hid (w3.ownsRow w1.heap.size 38 3 v1 (logR ls (k + 1)).length (cellsG (logR ls (k + 1)))) := Lib.hid (by rw [HST.out]; exact hown3)
        have HB3 := Lib.hid (below_app (HBq.out.alloc hsz _) hg3 (HOq.out.alloc _) (Nat.le_trans hsz (by simp)))
        clear hown3 hg3 hat3
        go_roundw
        case rel => exact ⟨k + 1, by omega, by go_num, HO3.out, HB3.out⟩
        case measure => simp [intOf]; omega
      · rw [List.concat_eq_append] at HO HST hlk
        rw [List.length_append, List.length_singleton] at hlk
        have HO1 : Hid (wr.ownsRow w1.heap.size 38 3 u3 (R0.length + 1) (cellsG (R0 ++ [(a, b, e)]))) := Lib.hid (by have := HO.out; rwa [List.length_append, List.length_singleton] at this)
        clear HO
        obtain ⟨g, cg, hv, hbg, hlg⟩ := HO1.out.form (by omega)
        obtain ⟨A0, cv, hv2, hcv⟩ := own_form HO1.out
        subst hv
        injection hv2 with e1 _ e2
        subst e1 e2
        obtain ⟨q, hq⟩ : ∃ q, R0.length = q := ⟨_, rfl⟩
        have HQ := Lib.hid hq
        have c2 : wr.cell? ⟨g, q * 3 + 2, none⟩ = some (.int .i64 e) := by
          rw [HO1.out.cellAt (q * 3 + 2) (by omega)]
          exact (cellsG_at (l := R0 ++ [(a, b, e)]) (k := q) (s := (a, b, e)) (by rw [List.getElem?_append_right (by omega), hq, Nat.sub_self]; rfl)).2.2
        obtain ⟨⟨u1, cu1⟩, fu1⟩ := own_slot HO1.out (j := q * 3 + 1) (by omega)
        rw [hq] at hlk HO1
        rw [hq]
        have hq0 : (0 : Int) < (q : Int) + 1 := by omega
        have hq1 : ((q : Int) + 1) - 1 = (q : Int) := by omega
        have hq2 : (q : Int) < (q : Int) + 1 := by omega
        clear hq
        by_cases hxe : e = x
        · subst hxe
          rw [stepR_same] at HST
          have HOq := HO1
          have HBq := HB
          obtain ⟨⟨u2, cu2⟩, fu2⟩ := own_slot HOq.out (j := q * 3 + 1) (by omega)
          have HO2 := Lib.hid ((HOq.out.stored (q * 3 + 1) (.int .i64 ((k : Int) + 1))).1)
          have HB2 := Lib.hid (HBq.out.setCell (p := ⟨g, q * 3 + 1, none⟩) (HOq.out.lt g rfl).1 (.int .i64 ((k : Int) + 1)))
          clear cu1 fu1
          go_wp2
          go_roundw
          case rel => exact ⟨k + 1, by omega, by go_num, by rw [HST.out, List.length_append, List.length_singleton, HQ.out, ← cellsG_hi R0 a b e, HQ.out]; exact HO2.out, HB2.out⟩
          case measure => simp [intOf]; omega
        · have gx : (e == x) = false := by simp [hxe]
          rw [stepR_new _ _ _ _ _ _ hxe] at HST
          clear hxe
          have HOq := HO1
          have HBq := HB
          have hsz := HBq.out.size
          go_wp2_with (first
            | (at_builtin; refine wpList_app rfl _ _ _ rfl runSlice (by decide) _ (q + 1) _ rfl (HOq.out.alloc _) ⟨wr.heap.size, 0, none⟩ 1 1 [.int .i64 (k : Int), .int .i64 ((k : Int) + 1), .int .i64 x] rfl rfl (cells_new wr [.int .i64 (k : Int), .int .i64 ((k : Int) + 1), .int .i64 x] 38) (int3 _ _ _) (by omega) (by unfold maxLen; omega) (Nat.le_trans hsz (by simp)) ?_; intro v1 w3 hown3 hg3 hat3)
            | fail)
          have HO3 : Hid (w3.ownsRow w1.heap.size 38 3 v1 (logR ls (k + 1)).length (cellsG (logR ls (k + 1)))) := Lib.hid (by rw [HST.out]; rw [List.length_append, List.length_append, List.length_singleton, List.length_singleton, HQ.out, cellsG_snoc]; exact hown3)
          have HB3 := Lib.hid (below_app (HBq.out.alloc hsz _) hg3 (HOq.out.alloc _) (Nat.le_trans hsz (by simp)))
          clear hown3 hg3 hat3
          go_roundw
          case rel => exact ⟨k + 1, by omega, by go_num, HO3.out, HB3.out⟩
          case measure => simp [intOf]; omega
    · obtain rfl : k = n := by omega
      go_wp2
      go_ret
      exact ⟨_, rfl, HO.out, HB.out⟩
end Go.Proofs.Ytaiefneimjdmhaa
/- A stack of places as a row: the first one first; a row's head. No function of the program. -/
namespace Go.Proofs.Ytaiefneimjdmhaa
open Go.RowKit

def intV (x : Int) : Value := .int .i64 x
theorem intSliceM : SliceOf Try.prog 22 3 1 8 := .mk_ (z := .int .i64 0) Try.underlying22 (by kernel_rfl) rfl
/-- The stack, as the program lays it: the first one first. -/
def stkL (s : List Nat) : List Int := s.reverse.map fun i => ((i : Nat) : Int)
theorem stkL_len (s : List Nat) : (stkL s).length = s.length := by simp [stkL]
theorem stkL_push (k : Nat) (s : List Nat) : stkL (k :: s) = stkL s ++ [((k : Nat) : Int)] := by simp [stkL]
theorem stkL_top (t : Nat) (r : List Nat) : (stkL (t :: r))[r.length]? = some ((t : Nat) : Int) := by
  rw [stkL_push, List.getElem?_append_right (by rw [stkL_len]; exact Nat.le_refl _), stkL_len, Nat.sub_self]
  rfl
theorem stkL_take (t : Nat) (r : List Nat) : (stkL (t :: r)).take r.length = stkL r := by
  rw [stkL_push, List.take_append_of_le_length (by rw [stkL_len]; exact Nat.le_refl _), ← stkL_len, List.take_length]
theorem headM {w : World} {base : Nat} {e : TypeId} {size g n m cap : Nat} {xs : List Value} (h : w.ownsRow base e size (.slice (some ⟨g, 0, none⟩) n cap) n xs) (hm : m ≤ n) : w.ownsRow base e size (.slice (some ⟨g, 0, none⟩) m cap) m (xs.take (m * size)) := by
  obtain ⟨h1, h2⟩ := h
  refine ⟨by rw [List.length_take, h1]; exact Nat.min_eq_left (Nat.mul_le_mul_right _ hm), ?_⟩
  rcases h2 with ⟨h', _⟩ | ⟨g', cap', cur, h', hb, hg, hnc, hcm, hcs, htake⟩
  · simp at h'
  · simp only [Value.slice.injEq, Option.some.injEq, Addr.mk.injEq, and_true, true_and] at h'
    obtain ⟨rfl, rfl⟩ := h'
    refine .inr ⟨g, cap, cur, rfl, hb, hg, Nat.le_trans hm hnc, hcm, hcs, ?_⟩
    rw [← htake, List.take_take, Nat.min_eq_left (Nat.mul_le_mul_right _ hm)]
end Go.Proofs.Ytaiefneimjdmhaa
/- prRight_any. -/
namespace Go.Proofs.Ytaiefneimjdmhaa
open Go.RowKit

theorem prRight_any (lo hi : Int) (w : World) :
    Calls Try.prog 47 #[.agg #[.int .i64 lo, .int .i64 hi]] w fun e w' => e = .returned (.bool (rightB (lo, hi))) ∧ Below w.heap.size w w' := by
  have hc : lo < 0 ∨ (0 ≤ lo ∧ lo < hi) ∨ (0 ≤ lo ∧ hi ≤ lo) := by omega
  rcases hc with h | ⟨h, h'⟩ | ⟨h, h'⟩ <;>
    (go_enter Try.func47, Try.ntmps47
     go_wp2
     go_ret
     refine ⟨retB ?_, below_new _ _⟩
     simp [rightB]
     try omega)

end Go.Proofs.Ytaiefneimjdmhaa
/- The project's Size of a span. -/
namespace Go.Proofs.Ytaiefneimjdmhaa
open Go.RowKit
theorem prSizeS_any (lo hi : Int) (w : World) (hf : Fit hi) :
    Calls Try.prog 44 #[.agg #[.int .i64 lo, .int .i64 hi]] w fun e w' => e = .returned (.int .i64 (sizeS (lo, hi))) ∧ Below w.heap.size w w' := by
  obtain ⟨f0, f1⟩ := hf
  cases h : rightB (lo, hi) with
  | true =>
    have h' := of_decide_eq_true h
    obtain ⟨h1, h2⟩ := h'
    simp only at h1 h2
    have HS := Lib.hid (show sizeS (lo, hi) = hi - lo from if_pos h)
    go_enter Try.func44, Try.ntmps44
    go_wp2_with fail
    refine (prRight_any lo hi _).mono ?_
    rintro e w1 ⟨rfl, hb⟩
    have hb1 := below_self (below_new w _) hb
    have c0 : w1.cell? ⟨w.heap.size, 0, none⟩ = some (.int .i64 lo) := cell_below hb (by rw [World.cell?_alloc_at _ _ _ _ rfl]; rfl)
    have c1 : w1.cell? ⟨w.heap.size, 1, none⟩ = some (.int .i64 hi) := cell_below hb (by rw [World.cell?_alloc_at _ _ _ _ rfl]; rfl)
    go_wp2
    go_ret
    exact ⟨retI HS.out.symm, hb1⟩
  | false =>
    have HS := Lib.hid (show sizeS (lo, hi) = 0 from if_neg (by rw [h]; decide))
    go_enter Try.func44, Try.ntmps44
    go_wp2_with fail
    refine (prRight_any lo hi _).mono ?_
    rintro e w1 ⟨rfl, hb⟩
    have hb1 := below_self (below_new w _) hb
    go_wp2
    go_ret
    exact ⟨retI HS.out.symm, hb1⟩
end Go.Proofs.Ytaiefneimjdmhaa
/- The block of a row has its elements' type. No function of the program. -/
namespace Go.Proofs.Ytaiefneimjdmhaa
open Go.RowKit

section
variable {w : World}
theorem own_typ {e : TypeId} {base size n c g : Nat} {xs : List Value} (h : w.ownsRow base e size (.slice (some ⟨g, 0, none⟩) n c) n xs) : ∃ cs, w.heap[g]? = some (.cells cs e (0, 0)) := by
  rcases h.2 with ⟨h', _⟩ | ⟨g', cap', cur, h', _, hg, _⟩
  · simp at h'
  · simp only [Value.slice.injEq, Option.some.injEq, Addr.mk.injEq, and_true] at h'
    obtain ⟨rfl, _⟩ := h'
    exact ⟨cur, hg⟩
/-- The block of a row has its elements' type. -/
theorem own_row {e : TypeId} {base size n : Nat} {v : Value} {xs : List Value} (h : w.ownsRow base e size v n xs) : ∀ x, v.ownBlock = some x → ∃ cs, w.heap[x]? = some (.cells cs e (0, 0)) := by
  intro x hx
  rcases h.2 with ⟨rfl, _⟩ | ⟨g', cap', cur, rfl, _, hg, _⟩
  · cases hx
  · have : g' = x := by simpa [Value.ownBlock] using hx
    subst this
    exact ⟨cur, hg⟩
end
end Go.Proofs.Ytaiefneimjdmhaa
/- Blocks of memory by their cells: what lies in one, what a store leaves of others. -/
namespace Go.Proofs.Ytaiefneimjdmhaa
open Go.RowKit

def intsZ (l : List Int) : List Value := l.map (Value.int .i64)
theorem intsZ_set (l : List Int) (i : Nat) (x : Int) : intsZ (l.set i x) = (intsZ l).set i (.int .i64 x) := by simp [intsZ, List.map_set]
theorem hp_lt {w : World} {g : Nat} {o : Obj} (h : w.heap[g]? = some o) : g < w.heap.size := by
  by_cases c : g < w.heap.size
  · exact c
  · rw [Array.getElem?_eq_none (by omega)] at h; exact absurd h (by simp)
theorem hp_cell {w : World} {g : Nat} {cs : Array Value} {t : TypeId} (h : w.heap[g]? = some (.cells cs t (0, 0))) {j : Nat} {v : Value} (hj : cs[j]? = some v) : w.cell? ⟨g, j, none⟩ = some v := by
  unfold World.cell?
  rw [show w.heap[(⟨g, j, none⟩ : Addr).block]? = _ from h]
  simpa using hj
theorem hp_froz {w : World} {g : Nat} {cs : Array Value} {t : TypeId} (h : w.heap[g]? = some (.cells cs t (0, 0))) (j : Nat) : w.frozen? ⟨g, j, none⟩ = false := by
  unfold World.frozen?
  rw [show w.heap[(⟨g, j, none⟩ : Addr).block]? = _ from h]
  rfl
theorem hp_far {w : World} {g k : Nat} (h : k ≠ g) (j : Nat) (u : Value) : (w.setCell ⟨g, j, none⟩ u).heap[k]? = w.heap[k]? := Below.heap_setCell w ⟨g, j, none⟩ u k h
theorem hp_row {w : World} {g : Nat} {l : List Int} {t : TypeId} (h : w.heap[g]? = some (.cells (intsZ l).toArray t (0, 0))) (i : Nat) (x : Int) : (w.setCell ⟨g, i, none⟩ (.int .i64 x)).heap[g]? = some (.cells (intsZ (l.set i x)).toArray t (0, 0)) := by
  rw [heap_setCell_same w g i _ t _ h]
  congr 2
  rw [intsZ_set, List.setIfInBounds_toArray]
theorem Rd.belowS {w w' : World} {size n s : Nat} {A : Option Addr} {xs : List Value} (h : Rd w size A n xs) (hA : 0 < n → ∀ ad, A = some ad → ad.block < s) (hb : Below s w w') : Rd w' size A n xs :=
  ⟨h.1, fun hn => by
    obtain ⟨ad, e, hlt, hc⟩ := h.2 hn
    exact ⟨ad, e, Nat.lt_of_lt_of_le hlt hb.size, fun j u hu => (hb.cell (by rw [blockAdd]; exact hA hn ad e)).trans (hc j u hu)⟩⟩
end Go.Proofs.Ytaiefneimjdmhaa
/- The places of runs, as mathematics. No function of the program. -/
namespace Go.Proofs.Ytaiefneimjdmhaa
open Go.RowKit

/-- The k-th place of a run. -/
def plK (r : Rg) (k : Nat) : Int := if r.2.2 % 2 ≠ 0 then r.2.1 - 1 - (k : Int) else r.1 + (k : Int)
def plI (r : Rg) : List Int := if rightB (r.1, r.2.1) = true then (List.range (r.2.1 - r.1).toNat).map (plK r) else []
/-- The places of runs. -/
def ordI (l : List Rg) : List Int := l.flatMap plI
theorem ordI_next {l : List Rg} {i : Nat} {r : Rg} (h : l[i]? = some r) : ordI (l.take (i + 1)) = ordI (l.take i) ++ plI r := by
  rw [List.take_add_one, h]
  simp [ordI]
theorem plI_len (r : Rg) (h : rightB (r.1, r.2.1) = true → r.2.1 ≤ 1000) : (plI r).length ≤ 1000 := by
  unfold plI
  split
  · rename_i hr
    have := h hr
    have hr' : 0 ≤ r.1 ∧ r.1 < r.2.1 := by simpa [rightB] using hr
    rw [List.length_map, List.length_range]
    omega
  · exact Nat.zero_le _
end Go.Proofs.Ytaiefneimjdmhaa
/- The last bit of an integer. -/
namespace Go.Proofs.Ytaiefneimjdmhaa
open Go.RowKit

theorem and1_i64 (M : Int) : bits .and .i64 M 1 = M % 2 := by
  show IntKind.i64.wrap ((BitVec.ofInt 64 M &&& BitVec.ofInt 64 1).toNat : Int) = _
  rw [BitVec.toNat_and, show (BitVec.ofInt 64 1).toNat = 1 from rfl, Nat.and_one_is_mod, BitVec.toNat_ofInt, IntKind.wrap_i64]
  omega
end Go.Proofs.Ytaiefneimjdmhaa
