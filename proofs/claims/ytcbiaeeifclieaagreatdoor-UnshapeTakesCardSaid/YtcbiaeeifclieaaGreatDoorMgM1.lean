/- Texts of one claim, one behind the other. -/
import Derived.Test.YtcbiaeeifclieaaGreatDoorRows
import Derived.WalkKit
import Derived.WalkSpells
import Derived.WalkLawsBesides
import Derived.Handy
import Derived.Below
import Derived.Laws.OwnMore
import Derived.Deep.AppendLies
import Derived.Deep.Draws
import Derived.Laws.Rows
import Derived.Maps.AppendAt
import Derived.RegionTactic
import Derived.OwnWalk
import Derived.Deep.QuietTactic
import Derived.BigQuiet
import Derived.Lib.Hide
import Derived.Deep.LoopGhost
/- Words for memory that all later texts share: a slice that reads as a list, blocks, appends (after the guide's own page of words), and small facts on endings. -/
namespace Go.Proofs.YtcbiaeeifclieaaGreatDoor
open Go.RowKit

theorem blockAdd (a : Addr) (n : Nat) : (a.add n).block = a.block := by unfold Addr.add; split <;> rfl
theorem addAdd (a : Addr) (i j : Nat) : (a.add i).add j = a.add (i + j) := by
  unfold Addr.add
  by_cases hi : i = 0 <;> by_cases hj : j = 0 <;> simp [hi, hj, Nat.add_assoc]

/-- In world w the slice value with address A and length n reads as the cells xs ('size' cells an element), all in memory that is there. -/
def Rd (w : World) (size : Nat) (A : Option Addr) (n : Nat) (xs : List Value) : Prop :=
  xs.length = n * size ∧ (0 < n → ∃ ad, A = some ad ∧ ad.block < w.heap.size ∧ ∀ j u, xs[j]? = some u → w.cell? (ad.add j) = some u)

section
variable {w w' : World} {size n : Nat} {A : Option Addr} {xs : List Value}
theorem Rd.nil_ : Rd w size A 0 [] := ⟨by simp, fun h => absurd h (by omega)⟩
theorem Rd.len1 (h : Rd w 1 A n xs) : xs.length = n := by have := h.1; omega
theorem Rd.at_ {k : Nat} (h : Rd w 1 A n xs) (hk : k < n) : ∃ ad, A = some ad ∧ ad.block < w.heap.size ∧ ∀ u, xs[k]? = some u → w.cell? (ad.add k) = some u := by
  obtain ⟨ad, e, hb, hc⟩ := h.2 (by omega)
  exact ⟨ad, e, hb, fun u hu => hc k u hu⟩
theorem Rd.below (h : Rd w size A n xs) (hb : Below w.heap.size w w') : Rd w' size A n xs :=
  ⟨h.1, fun hn => by
    obtain ⟨ad, e, hlt, hc⟩ := h.2 hn
    exact ⟨ad, e, Nat.lt_of_lt_of_le hlt hb.size, fun j u hu => (hb.cell (by rw [blockAdd]; exact hlt)).trans (hc j u hu)⟩⟩
theorem Rd.drewN (h : Rd w size A n xs) (k : Nat) : Rd (w.drewN k) size A n xs := h
theorem Rd.alloc (h : Rd w size A n xs) (o : Obj) : Rd (w.alloc o) size A n xs := h.below ((Below.refl _ _).alloc (Nat.le_refl _) o)
/-- A cut 's[k:]'. -/
theorem Rd.cut (h : Rd w size A n xs) {k cap : Nat} (hk : k ≤ n) (hc : n ≤ cap) :
    Rd w size (if cap = k then A else A.map (·.add (k * size))) (n - k) (xs.drop (k * size)) := by
  refine ⟨by rw [List.length_drop, h.1, Nat.sub_mul], fun hn => ?_⟩
  obtain ⟨ad, rfl, hb, hcell⟩ := h.2 (by omega)
  rw [if_neg (by omega)]
  refine ⟨ad.add (k * size), rfl, by rw [blockAdd]; exact hb, fun j u hu => ?_⟩
  rw [addAdd]
  exact hcell _ u (by rw [← hu, List.getElem?_drop])
theorem Rd.of_own {base : Nat} {e : TypeId} {c : Nat} (h : w.ownsRow base e size (.slice A n c) n xs) : Rd w size A n xs := by
  refine ⟨h.1, fun hn => ?_⟩
  obtain ⟨g, cap, hv, _, hlt⟩ := h.form hn
  have hA : A = some ⟨g, 0, none⟩ := by injection hv
  subst hA
  exact ⟨_, rfl, hlt, h.cells (g := g) rfl⟩
end

theorem Rd.news {w : World} {size n : Nat} {ad : Addr} {xs : List Value} (h : Rd w size (some ad) n xs) : ∀ j u, xs[j]? = some u → w.cell? (ad.add j) = some u := by
  intro j u hu
  rcases Nat.eq_zero_or_pos n with h0 | h0
  · subst h0
    have hn : xs = [] := List.eq_nil_of_length_eq_zero (by simpa using h.1)
    subst hn
    simp at hu
  · obtain ⟨ad', e, _, hc⟩ := h.2 h0
    injection e with e
    subst e
    exact hc j u hu
/-- What a row of the call's own looks like as a value: a slice of that length. -/
theorem own_form {w : World} {base : Nat} {e : TypeId} {size : Nat} {v : Value} {n : Nat} {xs : List Value} (h : w.ownsRow base e size v n xs) : ∃ A c, v = .slice A n c ∧ n ≤ c := by
  rcases h.2 with ⟨rfl, rfl⟩ | ⟨g, cap, cur, rfl, _, _, hnc, _⟩
  · exact ⟨none, 0, rfl, Nat.le_refl _⟩
  · exact ⟨_, _, rfl, hnc⟩

/-- The slice type T has elements of type E, of so many cells and bytes. -/
def SliceOf (P : Program) (T E : TypeId) (size bytes : Nat) : Prop :=
  P.underlying T = some (.slice E) ∧ ∃ i z, P.info? E = some i ∧ i.zero = some z ∧ i.size = size ∧ i.bytes = bytes ∧ z.cells.size = size
theorem SliceOf.mk_ {P : Program} {T E : TypeId} {size bytes : Nat} {z : Value} (h : P.underlying T = some (.slice E)) (hi : (P.info? E).map (fun i => (i.zero, i.size, i.bytes)) = some (some z, size, bytes)) (hz : z.cells.size = size) : SliceOf P T E size bytes := by
  obtain ⟨i, h1, h2, h3, h4⟩ := info_parts hi
  exact ⟨h, i, z, h1, h2, h3, h4, hz⟩

/-- append onto a row of the call's own, the source at an address. -/
theorem wpList_app {P : Program} {w : World} {ops : Array Oper} {rest : List Oper} {o : Oper} {a : Act} {Q : Exit → Act → World → Prop} (hgd : o.guard = none) (s x : Operand) (t : TypeId)
    (ho : o.op = .call { callee := .builtin .append, args := #[s, x], argTypes := #[t, t] })
    {base : Nat} {e : TypeId} {size bytes : Nat} (S : SliceOf P t e size bytes) (hsz : 0 < size)
    (v : Value) (n : Nat) (xs : List Value) (hs : a.eval s = v) (hown : w.ownsRow base e size v n xs)
    (ad : Addr) (m c : Nat) (news : List Value) (hx : a.eval x = .slice (some ad) m c) (hl : news.length = m * size) (hnews : ∀ j u, news[j]? = some u → w.cell? (ad.add j) = some u) (h1 : ∀ u ∈ news, u.oneCell' = true)
    (hbytes : (n + m) * bytes ≤ 140737488355328) (h63 : n + m ≤ maxLen) (hbase : base ≤ w.heap.size)
    (h : ∀ v' w', w'.ownsRow base e size v' (n + m) (xs ++ news) → w.grownBy w' v.ownBlock → (v'.ownBlock = v.ownBlock ∨ v'.ownBlock = some w.heap.size) → wpList P ops Q rest (a.put o.dst v') w') :
    wpList P ops Q (o :: rest) a w := by
  obtain ⟨ht, i, z, hi, hz, hs1, hb1, hzs⟩ := S
  exact wpList_append_own_at w hgd s x t ho base e i z size bytes ht hi hz hs1 hb1 hzs hsz v n xs hs hown ad m c news hx hl hnews h1 h63 hbytes hbase (fun v' w' a1 a2 _ a4 => h v' w' a1 a2 a4)

theorem run_app_nil {P : Program} (w : World) (base : Nat) (t ty e : TypeId) (size bytes : Nat) (S : SliceOf P t e size bytes)
    (v : Value) (n : Nat) (xs : List Value) (hown : w.ownsRow base e size v n xs) (c : Nat) : (Builtin.append_ #[t, t] ty #[v, .slice none 0 c]).run P w = .ok v w := by
  obtain ⟨ht, i, z, hi, hz, hs1, hb1, hzs⟩ := S
  rcases hown.2 with ⟨rfl, rfl⟩ | ⟨g, cap, cur, rfl, _, _, hnc, _⟩
  · simp [Builtin.append_, run_underlying ht, sizeOf, typeInfo, hi, Builtin.lenOf, Builtin.firstCells]
  · simp [Builtin.append_, run_underlying ht, sizeOf, typeInfo, hi, Builtin.lenOf, Builtin.firstCells, hnc, storeCells]

/-- append onto a row of the call's own, the source any slice that reads as 'news', nil too. -/
theorem wpList_appR {P : Program} {w : World} {ops : Array Oper} {rest : List Oper} {o : Oper} {a : Act} {Q : Exit → Act → World → Prop} (hgd : o.guard = none) (s x : Operand) (t : TypeId)
    (ho : o.op = .call { callee := .builtin .append, args := #[s, x], argTypes := #[t, t] })
    {base : Nat} {e : TypeId} {size bytes : Nat} (S : SliceOf P t e size bytes) (hsz : 0 < size)
    (v : Value) (n : Nat) (xs : List Value) (hs : a.eval s = v) (hown : w.ownsRow base e size v n xs)
    (A : Option Addr) (m c : Nat) (news : List Value) (hx : a.eval x = .slice A m c) (hr : Rd w size A m news) (h1 : ∀ u ∈ news, u.oneCell' = true)
    (hbytes : (n + m) * bytes ≤ 140737488355328) (h63 : n + m ≤ maxLen) (hbase : base ≤ w.heap.size)
    (h : ∀ v' w', w'.ownsRow base e size v' (n + m) (xs ++ news) → w.grownBy w' v.ownBlock → (v'.ownBlock = v.ownBlock ∨ v'.ownBlock = some w.heap.size) → wpList P ops Q rest (a.put o.dst v') w') :
    wpList P ops Q (o :: rest) a w := by
  rcases A with _ | ad
  · have hm : m = 0 := by
      rcases Nat.eq_zero_or_pos m with h0 | h0
      · exact h0
      · obtain ⟨_, e, _⟩ := hr.2 h0
        cases e
    subst hm
    have hn : news = [] := List.eq_nil_of_length_eq_zero (by simpa using hr.1)
    subst hn
    have hrun := run_app_nil (P := P) w base t o.type e size bytes S v n xs hown c
    refine wpList_plain hgd fun K hK => ?_
    unfold Oper.wp execOp
    simp only [ho, resolve, invoke, builtin, Sem.run_bind, Sem.run_pure, Result.andThen_ok, List.map_toArray, List.map_cons, List.map_nil, hs, hx, hrun]
    exact hK _ _ (h v w (by simpa using hown) (World.grownBy.refl w _) (.inl rfl))
  · exact wpList_app hgd s x t ho S hsz v n xs hs hown ad m c news hx hr.1 hr.news h1 hbytes h63 hbase h

/-- make([]T, 0, n). -/
theorem wpList_mk {P : Program} {w : World} {ops : Array Oper} {rest : List Oper} {o : Oper} {a : Act} {Q : Exit → Act → World → Prop}
    (hg : o.guard = none) (l c : Operand) (t : TypeId) (hop : o.op = Op.makeSlice t l c)
    {base : Nat} {e : TypeId} {size bytes : Nat} (S : SliceOf P t e size bytes)
    {kl kc : IntKind} (C : Int) (n : Nat) (hl : a.eval l = .int kl 0) (hc : a.eval c = .int kc C) (hC : C = (n : Int)) (b2 : bytes * n ≤ 281474976710656) (b3 : n ≤ maxLen) (b4 : base ≤ w.heap.size)
    (hK : ∀ v' w', w'.ownsRow base e size v' 0 [] → w.grownBy w' none → wpList P ops Q rest (a.put o.dst v') w') :
    wpList P ops Q (o :: rest) a w := by
  obtain ⟨ht, i, z, hi, hz, hs1, hb1, hzs⟩ := S
  exact wpList_make_own w hg l c t hop base e i z size ht hi hz hs1 kl kc C n hl hc hC (by rw [hb1]; exact b2) b3 b4 (fun w' a1 a2 => hK _ w' a1 a2)

/-- make([]T, n), T of one cell. -/
theorem wpList_mkFull {P : Program} {w : World} {ops : Array Oper} {rest : List Oper} {o : Oper} {a : Act} {Q : Exit → Act → World → Prop}
    (hg : o.guard = none) (l c : Operand) (t : TypeId) (hop : o.op = Op.makeSlice t l c)
    {base : Nat} {e : TypeId} {bytes : Nat} {z : Value} (ht : P.underlying t = some (.slice e)) (hin : (P.info? e).map (fun i => (i.zero, i.size, i.bytes)) = some (some z, 1, bytes)) (hz : z.cells = #[z])
    {kl kc : IntKind} (L C : Int) (n : Nat) (hl : a.eval l = .int kl L) (hc : a.eval c = .int kc C) (hL : L = (n : Int)) (hC : C = (n : Int)) (b2 : bytes * n ≤ 281474976710656) (b3 : n ≤ maxLen) (b4 : base ≤ w.heap.size)
    (hK : ∀ w', w'.ownsRow base e 1 (.slice (some ⟨w.heap.size, 0, none⟩) n n) n (List.replicate n z) → w.grownBy w' none → wpList P ops Q rest (a.put o.dst (.slice (some ⟨w.heap.size, 0, none⟩) n n)) w') :
    wpList P ops Q (o :: rest) a w := by
  obtain ⟨i, h1, h2, h3, h4⟩ := info_parts hin
  refine wpList_make_full w hg l c t hop base e i z 1 ht h1 h2 h3 kl kc L C n hl hc hL hC (by rw [h4]; exact b2) b3 b4 (fun w' a1 a2 => hK w' ?_ a2)
  rw [hz, Nat.mul_one, toList_madeCells_one] at a1
  exact a1

theorem addNew (g j : Nat) : (⟨g, 0, none⟩ : Addr).add j = ⟨g, j, none⟩ := by
  unfold Addr.add
  split
  · rename_i h; subst h; rfl
  · simp
/-- The cells of a new block. -/
theorem cells_new (w : World) (cs : List Value) (t : TypeId) : ∀ j u, cs[j]? = some u → (w.alloc (.cells cs.toArray t)).cell? ((⟨w.heap.size, 0, none⟩ : Addr).add j) = some u := by
  intro j u hj
  rw [addNew, World.cell?_alloc_at _ _ _ _ rfl]
  simpa using hj

theorem Rd.new_ (w : World) (cs : List Value) (t : TypeId) : Rd (w.alloc (.cells cs.toArray t)) 1 (some ⟨w.heap.size, 0, none⟩) cs.length cs :=
  ⟨by simp, fun _ => ⟨_, rfl, by simp, cells_new w cs t⟩⟩
theorem cell_lt {w : World} {a : Addr} {v : Value} (h : w.cell? a = some v) : a.block < w.heap.size := by
  unfold World.cell? at h
  rcases Nat.lt_or_ge a.block w.heap.size with hlt | hge
  · exact hlt
  · rw [Array.getElem?_eq_none hge] at h; cases h
theorem cell_below {w w' : World} {a : Addr} {v : Value} (hb : Below w.heap.size w w') (h : w.cell? a = some v) : w'.cell? a = some v := (hb.cell (cell_lt h)).trans h
theorem below_self {w a b : World} (h : Below w.heap.size w a) (k : Below a.heap.size a b) : Below w.heap.size w b := h.trans (k.mono h.size)
theorem below_new (w : World) (o : Obj) : Below w.heap.size w (w.alloc o) := (Below.refl _ _).alloc (Nat.le_refl _) o
theorem below_drew {w a : World} (h : Below w.heap.size w a) (n : Nat) : Below w.heap.size w (a.drewN n) := ⟨h.os, h.tape, h.output, h.size, h.block⟩
theorem oneInt (k : IntKind) (x : Int) : ∀ u ∈ [Value.int k x], u.oneCell' = true := by
  intro u hu
  simp at hu
  subst hu
  rfl
theorem oneInt2 (k : IntKind) (x y : Int) : ∀ u ∈ [Value.int k x, .int k y], u.oneCell' = true := by
  intro u hu
  simp at hu
  rcases hu with rfl | rfl <;> rfl
theorem oneInts (k : IntKind) (xs : List Int) : ∀ u ∈ xs.map (Value.int k), u.oneCell' = true := by
  intro u hu
  simp at hu
  obtain ⟨x, _, rfl⟩ := hu
  rfl
/-- A row below which all stood is told of what it was of. -/
theorem ownBlock_slice (A : Option Addr) (n c k : Nat) (h : (Value.slice A n c).ownBlock = some k) : ∃ a, A = some a ∧ a.block = k := by
  rcases A with _ | a
  · cases h
  · exact ⟨a, rfl, by injection h⟩
theorem below_app {B : Nat} {w0 w w' : World} {e : TypeId} {size n : Nat} {v : Value} {xs : List Value} (h : Below B w0 w) (hg : w.grownBy w' v.ownBlock) (hown : w.ownsRow B e size v n xs) (hB : B ≤ w.heap.size) : Below B w0 w' :=
  h.grown hg hB (fun k hk => (hown.lt k hk).1)

theorem retB {a b : Bool} (h : a = true ↔ b = true) : Ending.returned (.bool a) = .returned (.bool b) := by rw [Bool.eq_iff_iff.2 h]
theorem retI {a b : Int} (h : a = b) : Ending.returned (.int .i64 a) = .returned (.int .i64 b) := by rw [h]
theorem drewBelow {w : World} (n : Nat) : Below w.heap.size w (w.drewN n) := ⟨rfl, rfl, rfl, Nat.le_refl _, fun _ _ => rfl⟩
theorem below_drewN {B : Nat} {a w : World} (h : Below B a w) (n : Nat) : Below B a (w.drewN n) := ⟨h.os, h.tape, h.output, h.size, h.block⟩
end Go.Proofs.YtcbiaeeifclieaaGreatDoor
/- Spans as data: what a span is, the cells of a slice of spans; no function of the program. -/
namespace Go.Proofs.YtcbiaeeifclieaaGreatDoor
open Go.RowKit

abbrev Sp := Int × Int
def rightB (s : Sp) : Bool := decide (0 ≤ s.1 ∧ s.1 < s.2)
def sizeS (s : Sp) : Int := if rightB s = true then s.2 - s.1 else 0
def hasB (s : Sp) (at_ : Int) : Bool := decide (s.1 ≤ at_ ∧ at_ < s.2)
def encS (s : Sp) : List Value := [.int .i64 s.1, .int .i64 s.2]
def cellsS (l : List Sp) : List Value := l.flatMap encS
def valS (s : Sp) : Value := .agg #[.int .i64 s.1, .int .i64 s.2]
def Fit (x : Int) : Prop := -9223372036854775808 ≤ x ∧ x ≤ 9223372036854775807

theorem cellsS_len (l : List Sp) : (cellsS l).length = l.length * 2 := by
  induction l with
  | nil => rfl
  | cons s l ih =>
    show (encS s ++ cellsS l).length = _
    rw [List.length_append, ih, List.length_cons]
    simp only [encS, List.length_cons, List.length_nil]
    omega
theorem cellsS_at {l : List Sp} {k : Nat} {s : Sp} (h : l[k]? = some s) : (cellsS l)[k * 2]? = some (.int .i64 s.1) ∧ (cellsS l)[k * 2 + 1]? = some (.int .i64 s.2) := by
  induction l generalizing k with
  | nil => simp at h
  | cons t l ih =>
    have hc : cellsS (t :: l) = .int .i64 t.1 :: .int .i64 t.2 :: cellsS l := rfl
    cases k with
    | zero =>
      simp at h
      subst h
      exact ⟨rfl, rfl⟩
    | succ k =>
      have := ih (k := k) (by simpa using h)
      rw [hc]
      have e1 : (k + 1) * 2 = k * 2 + 1 + 1 := by omega
      have e2 : (k + 1) * 2 + 1 = (k * 2 + 1) + 1 + 1 := by omega
      rw [e2, e1]
      simpa using this

theorem addNext (a : Addr) (j i : Nat) : a.add (j + (i + 1)) = ⟨(a.add j).block, (a.add j).off + (i + 1), none⟩ := by
  unfold Addr.add
  by_cases hj : j = 0
  · subst hj; simp
  · simp [hj]; omega
/-- The two cells of a span in a slice, as the walk spells them. -/
theorem Rd.span {w : World} {A : Option Addr} {n k : Nat} {l : List Sp} {s : Sp} (hr : Rd w 2 A n (cellsS l)) (h : l[k]? = some s) : ∃ ad, A = some ad ∧ ad.block < w.heap.size ∧ w.cell? (ad.add (k * 2)) = some (.int .i64 s.1) ∧ w.cell? ⟨(ad.add (k * 2)).block, (ad.add (k * 2)).off + 1, none⟩ = some (.int .i64 s.2) := by
  have hlen : l.length * 2 = n * 2 := by rw [← cellsS_len]; exact hr.1
  have hk := (List.getElem?_eq_some_iff.1 h).1
  obtain ⟨ad, rfl, hb, hc⟩ := hr.2 (by omega)
  obtain ⟨e1, e2⟩ := cellsS_at h
  refine ⟨ad, rfl, hb, hc _ _ e1, ?_⟩
  have := hc _ _ e2
  rwa [addNext ad (k * 2) 0] at this

end Go.Proofs.YtcbiaeeifclieaaGreatDoor
/- A block of one span, known whole, and what becomes of it. -/
namespace Go.Proofs.YtcbiaeeifclieaaGreatDoor
open Go.RowKit

/-- A block of one span, known whole, that may be written. -/
def SpanBlk (w : World) (b : Nat) (s : Sp) : Prop := w.cell? ⟨b, 0, none⟩ = some (.int .i64 s.1) ∧ w.cell? ⟨b, 1, none⟩ = some (.int .i64 s.2) ∧ w.frozen? ⟨b, 0, none⟩ = false ∧ w.frozen? ⟨b, 1, none⟩ = false

theorem SpanBlk.below {w w' : World} {b : Nat} {s : Sp} (h : SpanBlk w b s) (hb : Below w.heap.size w w') : SpanBlk w' b s :=
  ⟨cell_below hb h.1, cell_below hb h.2.1, (hb.frozen (cell_lt h.1)).trans h.2.2.1, (hb.frozen (cell_lt h.2.1)).trans h.2.2.2⟩
theorem SpanBlk.put {w : World} {b : Nat} {s : Sp} (h : SpanBlk w b s) (x y : Int) : SpanBlk ((w.setCell ⟨b, 0, none⟩ (.int .i64 x)).setCell ⟨b, 1, none⟩ (.int .i64 y)) b (x, y) := by
  obtain ⟨h0, h1, h2, h3⟩ := h
  have e1 : (w.setCell ⟨b, 0, none⟩ (.int .i64 x)).cell? ⟨b, 1, none⟩ = some (.int .i64 s.2) := (World.cell?_setCell_other (h := by simp) ..).trans h1
  refine ⟨?_, World.cell?_setCell_same (h := e1) .., ?_, ?_⟩
  · exact (World.cell?_setCell_other (h := by simp) ..).trans (World.cell?_setCell_same (h := h0) ..)
  · rw [World.frozen?_setCell, World.frozen?_setCell]; exact h2
  · rw [World.frozen?_setCell, World.frozen?_setCell]; exact h3
theorem SpanBlk.far {w : World} {b b' : Nat} {s : Sp} (h : SpanBlk w b s) (hne : b ≠ b') (u v : Value) : SpanBlk ((w.setCell ⟨b', 0, none⟩ u).setCell ⟨b', 1, none⟩ v) b s := by
  obtain ⟨h0, h1, h2, h3⟩ := h
  refine ⟨?_, ?_, ?_, ?_⟩
  · exact (World.cell?_setCell_other (h := by first | (simp; done) | (simp; omega)) ..).trans ((World.cell?_setCell_other (h := by first | (simp; done) | (simp; omega)) ..).trans h0)
  · exact (World.cell?_setCell_other (h := by first | (simp; done) | (simp; omega)) ..).trans ((World.cell?_setCell_other (h := by first | (simp; done) | (simp; omega)) ..).trans h1)
  · rw [World.frozen?_setCell, World.frozen?_setCell]; exact h2
  · rw [World.frozen?_setCell, World.frozen?_setCell]; exact h3

theorem only_setCell {a w : World} {g : Nat} (h : a.grownBy w (some g)) {p : Addr} (hp : p.block = g ∨ a.heap.size ≤ p.block) (u : Value) : a.grownBy (w.setCell p u) (some g) :=
  ⟨h.os, h.tape, h.output, by simpa [World.setCell] using h.size, fun i hi hne => (Below.heap_setCell w p u i (by
    rintro rfl
    rcases hp with hp | hp
    · exact hne (by rw [hp])
    · omega)).trans (h.block i hi hne)⟩
theorem SpanBlk.grown {w w' : World} {b : Nat} {s : Sp} {row : Option Nat} (h : SpanBlk w b s) (hg : w.grownBy w' row) (hne : row ≠ some b) : SpanBlk w' b s := by
  obtain ⟨h0, h1, h2, h3⟩ := h
  have hb := cell_lt h0
  have e := hg.block b hb (fun e => hne e.symm)
  have ec : ∀ i, w'.cell? ⟨b, i, none⟩ = w.cell? ⟨b, i, none⟩ := fun i => World.cell?_of_block (a := ⟨b, i, none⟩) e
  have ef : ∀ i, w'.frozen? ⟨b, i, none⟩ = w.frozen? ⟨b, i, none⟩ := fun i => by unfold World.frozen?; rw [e]
  exact ⟨(ec 0).trans h0, (ec 1).trans h1, (ef 0).trans h2, (ef 1).trans h3⟩
theorem SpanBlk.put0 {w : World} {b : Nat} {s : Sp} (h : SpanBlk w b s) (x : Int) : SpanBlk (w.setCell ⟨b, 0, none⟩ (.int .i64 x)) b (x, s.2) := by
  obtain ⟨h0, h1, h2, h3⟩ := h
  refine ⟨World.cell?_setCell_same (h := h0) .., (World.cell?_setCell_other (h := by simp) ..).trans h1, ?_, ?_⟩
  · rw [World.frozen?_setCell]; exact h2
  · rw [World.frozen?_setCell]; exact h3
theorem own_set_far {w : World} {base : Nat} {e : TypeId} {size n b i : Nat} {v u : Value} {xs : List Value} (h : w.ownsRow base e size v n xs) (hne : v.ownBlock ≠ some b) : (w.setCell ⟨b, i, none⟩ u).ownsRow base e size v n xs :=
  h.kept (row := some b) (only_setCell (World.grownBy.refl w _) (.inl rfl) u) (.inr hne)
theorem below_make {w w' : World} (hg : w.grownBy w' none) : Below w.heap.size w w' := (Below.refl _ _).grown hg (Nat.le_refl _) (fun k hk => by cases hk)
theorem SpanBlk.new_ (w : World) (x y : Int) (t : TypeId) : SpanBlk (w.alloc (.cells #[.int .i64 x, .int .i64 y] t)) w.heap.size (x, y) := by
  refine ⟨?_, ?_, ?_, ?_⟩ <;> simp [go_sem]

end Go.Proofs.YtcbiaeeifclieaaGreatDoor
/- Whether spans are parts, as plain mathematics. -/
namespace Go.Proofs.YtcbiaeeifclieaaGreatDoor
open Go.RowKit
/-- Whether spans are parts from 'end_' on to n. -/
def partsFrom : Int → List Sp → Int → Bool
  | e, [], n => e == n
  | e, s :: l, n => rightB s && (s.1 == e) && partsFrom s.2 l n
def partsS (l : List Sp) (n : Int) : Bool := partsFrom 0 l n
theorem partsFrom_no {e n : Int} {l : List Sp} {s : Sp} (h : rightB s = false ∨ (s.1 == e) = false) : partsFrom e (s :: l) n = false := by
  unfold partsFrom
  rcases h with h | h <;> simp [h]
theorem partsFrom_yes {e n : Int} {l : List Sp} {s : Sp} (h : rightB s = true) (h' : (s.1 == e) = true) : partsFrom e (s :: l) n = partsFrom s.2 l n := by
  show (rightB s && (s.1 == e) && partsFrom s.2 l n) = _
  rw [h, h']; rfl
theorem dropCons {α : Type} {l : List α} {k : Nat} {x : α} (h : l[k]? = some x) : l.drop k = x :: l.drop (k + 1) := by
  obtain ⟨hk, rfl⟩ := List.getElem?_eq_some_iff.1 h
  exact List.drop_eq_getElem_cons hk
end Go.Proofs.YtcbiaeeifclieaaGreatDoor
/- Ranges of codes as data: the cells of a slice of ranges; which may be; the value of a code. -/
namespace Go.Proofs.YtcbiaeeifclieaaGreatDoor
open Go.RowKit

/-- A range: Lo, Hi, Value. -/
abbrev Rg := Int × Int × Int
def encG (r : Rg) : List Value := [.int .i64 r.1, .int .i64 r.2.1, .int .i64 r.2.2]
def cellsG (l : List Rg) : List Value := l.flatMap encG
theorem cellsG_snoc (l : List Rg) (r : Rg) : cellsG (l ++ [r]) = cellsG l ++ [.int .i64 r.1, .int .i64 r.2.1, .int .i64 r.2.2] := by simp [cellsG, encG]
theorem cellsG_len (l : List Rg) : (cellsG l).length = l.length * 3 := by
  induction l with
  | nil => rfl
  | cons s l ih =>
    show (encG s ++ cellsG l).length = _
    rw [List.length_append, ih, List.length_cons]
    simp only [encG, List.length_cons, List.length_nil]
    omega
theorem cellsG_at {l : List Rg} {k : Nat} {s : Rg} (h : l[k]? = some s) : (cellsG l)[k * 3]? = some (.int .i64 s.1) ∧ (cellsG l)[k * 3 + 1]? = some (.int .i64 s.2.1) ∧ (cellsG l)[k * 3 + 2]? = some (.int .i64 s.2.2) := by
  induction l generalizing k with
  | nil => simp at h
  | cons t l ih =>
    have hc : cellsG (t :: l) = .int .i64 t.1 :: .int .i64 t.2.1 :: .int .i64 t.2.2 :: cellsG l := rfl
    cases k with
    | zero =>
      simp at h
      subst h
      exact ⟨rfl, rfl, rfl⟩
    | succ k =>
      have := ih (k := k) (by simpa using h)
      rw [hc]
      have e0 : (k + 1) * 3 = k * 3 + 1 + 1 + 1 := by omega
      have e1 : (k + 1) * 3 + 1 = (k * 3 + 1) + 1 + 1 + 1 := by omega
      have e2 : (k + 1) * 3 + 2 = (k * 3 + 2) + 1 + 1 + 1 := by omega
      rw [e2, e1, e0]
      simpa using this
/-- The three cells of a range in a slice, as the walk spells them. -/
theorem Rd.rg {w : World} {A : Option Addr} {n k : Nat} {l : List Rg} {s : Rg} (hr : Rd w 3 A n (cellsG l)) (h : l[k]? = some s) : ∃ ad, A = some ad ∧ ad.block < w.heap.size ∧ w.cell? (ad.add (k * 3)) = some (.int .i64 s.1) ∧
    w.cell? ⟨(ad.add (k * 3)).block, (ad.add (k * 3)).off + 1, none⟩ = some (.int .i64 s.2.1) ∧ w.cell? ⟨(ad.add (k * 3)).block, (ad.add (k * 3)).off + 2, none⟩ = some (.int .i64 s.2.2) := by
  have hlen : l.length * 3 = n * 3 := by rw [← cellsG_len]; exact hr.1
  have hk := (List.getElem?_eq_some_iff.1 h).1
  obtain ⟨ad, rfl, hb, hc⟩ := hr.2 (by omega)
  obtain ⟨e0, e1, e2⟩ := cellsG_at h
  have h1 := hc _ _ e1
  have h2 := hc _ _ e2
  rw [addNext ad (k * 3) 0] at h1
  rw [addNext ad (k * 3) 1] at h2
  exact ⟨ad, rfl, hb, hc _ _ e0, h1, h2⟩
theorem Rd.lenG {w : World} {A : Option Addr} {n : Nat} {l : List Rg} (hr : Rd w 3 A n (cellsG l)) : l.length = n := by
  have := hr.1
  rw [cellsG_len] at this
  omega

/-- Whether ranges rise behind 'last'. -/
def riseB (last : Int) : List Rg → Bool
  | [] => true
  | r :: l => if r.1 ≤ last ∨ r.2.1 < r.1 ∨ 1114111 < r.2.1 then false else riseB r.2.1 l
theorem riseB_no {last : Int} {l : List Rg} {r : Rg} (h : r.1 ≤ last ∨ r.2.1 < r.1 ∨ 1114111 < r.2.1) : riseB last (r :: l) = false := if_pos h
theorem riseB_yes {last : Int} {l : List Rg} {r : Rg} (h : ¬ (r.1 ≤ last ∨ r.2.1 < r.1 ∨ 1114111 < r.2.1)) : riseB last (r :: l) = riseB r.2.1 l := if_neg h
/-- The value of a code: the first range's that has it. -/
def getG (l : List Rg) (none_ c : Int) : Int :=
  match l with
  | [] => none_
  | r :: l => if r.1 ≤ c ∧ c ≤ r.2.1 then r.2.2 else getG l none_ c
/-- What Build tells of ranges. -/
def errG (l : List Rg) : Int := if 4096 < l.length then 6 else if riseB (-1) l = true then 0 else 10
end Go.Proofs.YtcbiaeeifclieaaGreatDoor
/- The given forms: letters, ligatures, accents, piles, as lists. -/
namespace Go.Proofs.YtcbiaeeifclieaaGreatDoor

/-- A letter: its code, its forms isolated, final, initial, medial. -/
abbrev Lt := Int × Int × Int × Int × Int
def letL : List Lt := [(1569, 65152, 0, 0, 0), (1570, 65153, 65154, 0, 0), (1571, 65155, 65156, 0, 0), (1572, 65157, 65158, 0, 0), (1573, 65159, 65160, 0, 0), (1574, 65161, 65162, 65163, 65164), (1575, 65165, 65166, 0, 0), (1576, 65167, 65168, 65169, 65170), (1577, 65171, 65172, 0, 0), (1578, 65173, 65174, 65175, 65176), (1579, 65177, 65178, 65179, 65180), (1580, 65181, 65182, 65183, 65184), (1581, 65185, 65186, 65187, 65188), (1582, 65189, 65190, 65191, 65192), (1583, 65193, 65194, 0, 0), (1584, 65195, 65196, 0, 0), (1585, 65197, 65198, 0, 0), (1586, 65199, 65200, 0, 0), (1587, 65201, 65202, 65203, 65204), (1588, 65205, 65206, 65207, 65208), (1589, 65209, 65210, 65211, 65212), (1590, 65213, 65214, 65215, 65216), (1591, 65217, 65218, 65219, 65220), (1592, 65221, 65222, 65223, 65224), (1593, 65225, 65226, 65227, 65228), (1594, 65229, 65230, 65231, 65232), (1601, 65233, 65234, 65235, 65236), (1602, 65237, 65238, 65239, 65240), (1603, 65241, 65242, 65243, 65244), (1604, 65245, 65246, 65247, 65248), (1605, 65249, 65250, 65251, 65252), (1606, 65253, 65254, 65255, 65256), (1607, 65257, 65258, 65259, 65260), (1608, 65261, 65262, 0, 0), (1609, 65263, 65264, 64488, 64489), (1610, 65265, 65266, 65267, 65268), (1649, 64336, 64337, 0, 0), (1655, 64477, 0, 0, 0), (1657, 64358, 64359, 64360, 64361), (1658, 64350, 64351, 64352, 64353), (1659, 64338, 64339, 64340, 64341), (1662, 64342, 64343, 64344, 64345), (1663, 64354, 64355, 64356, 64357), (1664, 64346, 64347, 64348, 64349), (1667, 64374, 64375, 64376, 64377), (1668, 64370, 64371, 64372, 64373), (1670, 64378, 64379, 64380, 64381), (1671, 64382, 64383, 64384, 64385), (1672, 64392, 64393, 0, 0), (1676, 64388, 64389, 0, 0), (1677, 64386, 64387, 0, 0), (1678, 64390, 64391, 0, 0), (1681, 64396, 64397, 0, 0), (1688, 64394, 64395, 0, 0), (1700, 64362, 64363, 64364, 64365), (1702, 64366, 64367, 64368, 64369), (1705, 64398, 64399, 64400, 64401), (1709, 64467, 64468, 64469, 64470), (1711, 64402, 64403, 64404, 64405), (1713, 64410, 64411, 64412, 64413), (1715, 64406, 64407, 64408, 64409), (1722, 64414, 64415, 0, 0), (1723, 64416, 64417, 64418, 64419), (1726, 64426, 64427, 64428, 64429), (1728, 64420, 64421, 0, 0), (1729, 64422, 64423, 64424, 64425), (1733, 64480, 64481, 0, 0), (1734, 64473, 64474, 0, 0), (1735, 64471, 64472, 0, 0), (1736, 64475, 64476, 0, 0), (1737, 64482, 64483, 0, 0), (1739, 64478, 64479, 0, 0), (1740, 64508, 64509, 64510, 64511), (1744, 64484, 64485, 64486, 64487), (1746, 64430, 64431, 0, 0), (1747, 64432, 64433, 0, 0)]
def ligL : List Rg := [(1570, 65269, 65270), (1571, 65271, 65272), (1573, 65273, 65274), (1575, 65275, 65276)]
def accL : List Rg := [(1611, 65136, 65137), (1612, 65138, 0), (1613, 65140, 0), (1614, 65142, 65143), (1615, 65144, 65145), (1616, 65146, 65147), (1617, 65148, 65149), (1618, 65150, 65151)]
def pilL : List Sp := [(1612, 64606), (1613, 64607), (1614, 64608), (1615, 64609), (1616, 64610), (1648, 64611)]
end Go.Proofs.YtcbiaeeifclieaaGreatDoor
/- Forms as data: what the project and the reference tell of codes, as functions; they are the same, and go back. -/
namespace Go.Proofs.YtcbiaeeifclieaaGreatDoor
open Go.RowKit

def formsOf (t : Lt) : List Int := [t.2.1, t.2.2.1, t.2.2.2.1, t.2.2.2.2]
/-- The code at a place, if there is one. -/
def pickF (k : Int) (l : List Int) : Int × Bool := if k < 0 ∨ (l.length : Int) ≤ k then (0, false) else (l.getD k.toNat 0, decide (l.getD k.toNat 0 ≠ 0))
/-- The place of a code among some, from 1 on; 0: it is not there, or is none. -/
def hitF (c : Int) : List Int → Nat
  | [] => 0
  | x :: l => if c = 0 then 0 else if x = c then 1 else match hitF c l with
    | 0 => 0
    | k + 1 => k + 2
/-- Form, as the reference goes. -/
def formR (b f : Int) : List Lt → Int × Bool
  | [] => (0, false)
  | t :: l => if t.1 = b ∧ 1 ≤ f ∧ f ≤ 4 ∧ (formsOf t).getD (f - 1).toNat 0 ≠ 0 then ((formsOf t).getD (f - 1).toNat 0, true) else formR b f l
/-- Form, as the project goes. -/
def formP (b f : Int) (l : List Lt) : Int × Bool := match l.find? (fun t => decide (t.1 = b)) with
  | none => (0, false)
  | some t => pickF (f - 1) (formsOf t)
def baseR (c : Int) : List Lt → Int × Int × Bool
  | [] => (0, 0, false)
  | t :: l => if hitF c (formsOf t) = 0 then baseR c l else (t.1, (hitF c (formsOf t) : Nat), true)
def twoR (r : Rg) : List Int := [r.2.1, r.2.2]
def ligR (a f : Int) : List Rg → Int × Bool
  | [] => (0, false)
  | r :: l => if r.1 = a then (if f = 1 then (r.2.1, true) else if f = 2 then (r.2.2, true) else ligR a f l) else ligR a f l
def ligP (a f : Int) : List Rg → Int × Bool
  | [] => (0, false)
  | r :: l => if r.1 = a then pickF (f - 1) (twoR r) else ligP a f l
def parR (c : Int) : List Rg → Int × Int × Bool
  | [] => (0, 0, false)
  | r :: l => if r.2.1 = c then (r.1, 1, true) else if r.2.2 = c then (r.1, 2, true) else parR c l
def parP (c : Int) : List Rg → Int × Int × Bool
  | [] => (0, 0, false)
  | r :: l => if hitF c (twoR r) = 0 then parP c l else (r.1, (hitF c (twoR r) : Nat), true)
def accR (m : Int) (d : Bool) : List Rg → Int × Bool
  | [] => (0, false)
  | r :: l => if r.1 = m then (if d = true then (r.2.2, decide (r.2.2 ≠ 0)) else (r.2.1, true)) else accR m d l
def accP (m : Int) (d : Bool) : List Rg → Int × Bool
  | [] => (0, false)
  | r :: l => if r.1 = m then (if d = true then (r.2.2, decide (r.2.2 ≠ 0)) else (r.2.1, decide (r.2.1 ≠ 0))) else accP m d l
def marR (c : Int) : List Rg → Int × Bool × Bool
  | [] => (0, false, false)
  | r :: l => if r.2.1 = c then (r.1, false, true) else if c ≠ 0 ∧ r.2.2 = c then (r.1, true, true) else marR c l
def marP (c : Int) : List Rg → Int × Bool × Bool
  | [] => (0, false, false)
  | r :: l => if hitF c (twoR r) = 0 then marP c l else (r.1, decide (hitF c (twoR r) = 2), true)
def pilR (m : Int) : List Sp → Int × Bool
  | [] => (0, false)
  | s :: l => if s.1 = m then (s.2, true) else pilR m l
def unpR (c : Int) : List Sp → Int × Bool
  | [] => (0, false)
  | s :: l => if s.2 = c then (s.1, true) else unpR c l

def formF (b f : Int) : Int × Bool := formR b f letL
def baseF (c : Int) : Int × Int × Bool := baseR c letL
def ligF (a f : Int) : Int × Bool := ligR a f ligL
def parF (c : Int) : Int × Int × Bool := parR c ligL
def accF (m : Int) (d : Bool) : Int × Bool := accR m d accL
def marF (c : Int) : Int × Bool × Bool := marR c accL
def pilF (m : Int) : Int × Bool := pilR m pilL
def unpF (c : Int) : Int × Bool := unpR c pilL
def preF (c : Int) : Bool := (baseF c).2.2 || (parF c).2.2 || (marF c).2.2 || (unpF c).2 || decide (c = 65139)

theorem hitF_none {c : Int} {l : List Int} (h : c = 0 ∨ c ∉ l) : hitF c l = 0 := by
  induction l with
  | nil => rfl
  | cons x l ih =>
    rw [hitF]
    by_cases h0 : c = 0
    · rw [if_pos h0]
    · rw [if_neg h0]
      rcases h with h | h
      · exact absurd h h0
      · rw [if_neg (fun e => h (by simp [e])), ih (.inr fun m => h (by simp [m]))]
theorem hitF_zero (l : List Int) : hitF 0 l = 0 := hitF_none (.inl rfl)
theorem baseR_none {c : Int} {l : List Lt} (h : ∀ t ∈ l, hitF c (formsOf t) = 0) : baseR c l = (0, 0, false) := by
  induction l with
  | nil => rfl
  | cons t l ih =>
    rw [baseR, if_pos (h t (by simp))]
    exact ih fun u hu => h u (by simp [hu])
/-- All forms of letters lie among the codes of forms. -/
theorem base_far {c : Int} (h : c < 64336 ∨ 65279 < c) : baseF c = (0, 0, false) := by
  refine baseR_none fun t ht => ?_
  have hall : (letL.all fun t => (formsOf t).all fun x => decide (x = 0 ∨ (64336 ≤ x ∧ x ≤ 65279))) = true := by decide +kernel
  have h1 := List.all_eq_true.1 hall t ht
  refine hitF_none ?_
  by_cases h0 : c = 0
  · exact .inl h0
  · refine .inr fun m => ?_
    have := List.all_eq_true.1 h1 c m
    simp only [decide_eq_true_eq] at this
    omega
theorem formR_none {b f : Int} {l : List Lt} (h : ∀ t ∈ l, t.1 ≠ b) : formR b f l = (0, false) := by
  induction l with
  | nil => rfl
  | cons t l ih =>
    rw [formR, if_neg (fun e => h t (by simp) e.1)]
    exact ih fun u hu => h u (by simp [hu])
theorem form_far {b f : Int} (h : b < 1536 ∨ 1791 < b) : formF b f = (0, false) := by
  refine formR_none fun t ht => ?_
  have hall : (letL.all fun t => decide (1536 ≤ t.1 ∧ t.1 ≤ 1791)) = true := by decide +kernel
  have := List.all_eq_true.1 hall t ht
  simp only [decide_eq_true_eq] at this
  omega
theorem pick_four (f : Int) (t : Lt) : pickF (f - 1) (formsOf t) = if 1 ≤ f ∧ f ≤ 4 ∧ (formsOf t).getD (f - 1).toNat 0 ≠ 0 then ((formsOf t).getD (f - 1).toNat 0, true) else (0, false) := by
  unfold pickF
  have hl : (formsOf t).length = 4 := rfl
  rw [hl]
  by_cases h1 : 1 ≤ f ∧ f ≤ 4
  · rw [if_neg (by omega)]
    by_cases h2 : (formsOf t).getD (f - 1).toNat 0 = 0
    · rw [if_neg (fun h => h.2.2 h2), h2]
      rfl
    · rw [if_pos ⟨h1.1, h1.2, h2⟩]
      exact Prod.ext rfl (decide_eq_true h2)
  · rw [if_pos (by omega), if_neg (fun h => h1 ⟨h.1, h.2.1⟩)]
theorem formP_eq (b f : Int) : ∀ l : List Lt, (l.Pairwise fun s t => s.1 ≠ t.1) → formP b f l = formR b f l
  | [], _ => rfl
  | t :: l, h => by
    have hp := List.pairwise_cons.1 h
    unfold formP
    rw [List.find?_cons, formR]
    by_cases hb : t.1 = b
    · simp only [hb, decide_true]
      rw [pick_four]
      by_cases h2 : 1 ≤ f ∧ f ≤ 4 ∧ (formsOf t).getD (f - 1).toNat 0 ≠ 0
      · rw [if_pos h2, if_pos ⟨trivial, h2⟩]
      · rw [if_neg h2, if_neg (fun h => h2 h.2), formR_none fun u hu e => hp.1 u hu (by rw [hb, e])]
    · simp only [hb, decide_false, false_and, if_false]
      exact formP_eq b f l hp.2
theorem formF_eq (b f : Int) : formF b f = formP b f letL := (formP_eq b f letL (by
  have h : (letL.map (·.1)).Pairwise (· < ·) := by decide +kernel
  rw [List.pairwise_map] at h
  exact h.imp fun h e => by omega)).symm
theorem ligP_eq (a f : Int) : ∀ l : List Rg, (l.Pairwise fun s t => s.1 ≠ t.1) → (∀ r ∈ l, r.2.1 ≠ 0 ∧ r.2.2 ≠ 0) → ligP a f l = ligR a f l
  | [], _, _ => rfl
  | r :: l, h, h0 => by
    have hp := List.pairwise_cons.1 h
    have hz := h0 r (by simp)
    rw [ligP, ligR]
    by_cases ha : r.1 = a
    · rw [if_pos ha, if_pos ha]
      by_cases f1 : f = 1
      · subst f1
        rw [if_pos rfl]
        show ((twoR r).getD 0 0, decide ((twoR r).getD 0 0 ≠ 0)) = _
        simp [twoR, hz.1]
      · by_cases f2 : f = 2
        · subst f2
          rw [if_neg (by omega), if_pos rfl]
          show ((twoR r).getD 1 0, decide ((twoR r).getD 1 0 ≠ 0)) = _
          simp [twoR, hz.2]
        · rw [if_neg f1, if_neg f2]
          have : ligR a f l = (0, false) := by
            have hne : ∀ u ∈ l, u.1 ≠ a := fun u hu e => hp.1 u hu (by rw [ha, e])
            clear hp h0 h
            induction l with
            | nil => rfl
            | cons u l ih =>
              rw [ligR, if_neg (hne u (by simp))]
              exact ih fun v hv => hne v (by simp [hv])
          rw [this, pickF, if_pos]
          show _ ∨ (2 : Int) ≤ _
          omega
    · rw [if_neg ha, if_neg ha]
      exact ligP_eq a f l hp.2 fun u hu => h0 u (by simp [hu])
theorem ligF_eq (a f : Int) : ligF a f = ligP a f ligL := (ligP_eq a f ligL (by decide +kernel) (by decide +kernel)).symm
theorem hit_two (c : Int) (r : Rg) : hitF c (twoR r) = if c = 0 then 0 else if r.2.1 = c then 1 else if r.2.2 = c then 2 else 0 := by
  by_cases h0 : c = 0
  · simp only [twoR, hitF, h0, if_true]
  · simp only [twoR, hitF, h0, if_false]
    by_cases h1 : r.2.1 = c
    · rw [if_pos h1, if_pos h1]
    · rw [if_neg h1, if_neg h1]
      by_cases h2 : r.2.2 = c
      · rw [if_pos h2]; simp [h2]
      · rw [if_neg h2]; simp [h2]
theorem parP_eq (c : Int) : ∀ l : List Rg, (∀ r ∈ l, r.2.1 ≠ 0 ∧ r.2.2 ≠ 0) → parP c l = parR c l
  | [], _ => rfl
  | r :: l, h0 => by
    have hz := h0 r (by simp)
    rw [parP, parR, hit_two, parP_eq c l fun u hu => h0 u (by simp [hu])]
    by_cases h : c = 0
    · subst h
      rw [if_pos rfl, if_pos rfl, if_neg hz.1, if_neg hz.2]
    · rw [if_neg h]
      by_cases h1 : r.2.1 = c
      · rw [if_pos h1, if_pos h1, if_neg (by omega)]; rfl
      · rw [if_neg h1, if_neg h1]
        by_cases h2 : r.2.2 = c
        · rw [if_pos h2, if_pos h2, if_neg (by omega)]; rfl
        · rw [if_neg h2, if_neg h2, if_pos rfl]
theorem parF_eq (c : Int) : parF c = parP c ligL := (parP_eq c ligL (by decide +kernel)).symm
theorem accP_eq (m : Int) (d : Bool) : ∀ l : List Rg, (∀ r ∈ l, r.2.1 ≠ 0) → accP m d l = accR m d l
  | [], _ => rfl
  | r :: l, h0 => by
    rw [accP, accR, accP_eq m d l fun u hu => h0 u (by simp [hu])]
    simp [h0 r (by simp)]
theorem accF_eq (m : Int) (d : Bool) : accF m d = accP m d accL := (accP_eq m d accL (by decide +kernel)).symm
theorem marP_eq (c : Int) : ∀ l : List Rg, (∀ r ∈ l, r.2.1 ≠ 0) → marP c l = marR c l
  | [], _ => rfl
  | r :: l, h0 => by
    have hz := h0 r (by simp)
    rw [marP, marR, hit_two, marP_eq c l fun u hu => h0 u (by simp [hu])]
    by_cases h : c = 0
    · subst h
      rw [if_pos rfl, if_pos rfl, if_neg hz, if_neg (fun e => e.1 rfl)]
    · rw [if_neg h]
      by_cases h1 : r.2.1 = c
      · rw [if_pos h1, if_pos h1, if_neg (by omega)]; rfl
      · rw [if_neg h1, if_neg h1]
        by_cases h2 : r.2.2 = c
        · rw [if_pos h2, if_neg (show ¬ (2 = 0) by omega), if_pos ⟨h, h2⟩]; rfl
        · rw [if_neg h2, if_pos rfl, if_neg (fun e => h2 e.2)]
theorem marF_eq (c : Int) : marF c = marP c accL := (marP_eq c accL (by decide +kernel)).symm

/-- A form is its letter's. -/
theorem formR_mem {b f a : Int} {l : List Lt} (h : formR b f l = (a, true)) : ∃ t ∈ l, t.1 = b ∧ 1 ≤ f ∧ f ≤ 4 ∧ (formsOf t).getD (f - 1).toNat 0 = a ∧ a ≠ 0 := by
  induction l with
  | nil => cases h
  | cons t l ih =>
    rw [formR] at h
    by_cases hc : t.1 = b ∧ 1 ≤ f ∧ f ≤ 4 ∧ (formsOf t).getD (f - 1).toNat 0 ≠ 0
    · rw [if_pos hc] at h
      injection h with h _
      exact ⟨t, by simp, hc.1, hc.2.1, hc.2.2.1, h, h ▸ hc.2.2.2⟩
    · rw [if_neg hc] at h
      obtain ⟨u, hu, r⟩ := ih h
      exact ⟨u, by simp [hu], r⟩
theorem form_back {b f a : Int} (h : formF b f = (a, true)) : baseF a = (b, f, true) ∧ preF a = true := by
  obtain ⟨t, ht, hb, h1, h2, ha, h0⟩ := formR_mem h
  have hall : (letL.all fun t => [1, 2, 3, 4].all fun f => decide ((formsOf t).getD (f - 1) 0 = 0 ∨ baseF ((formsOf t).getD (f - 1) 0) = (t.1, (f : Int), true))) = true := by decide +kernel
  have h3 := List.all_eq_true.1 hall t ht
  have hf : f.toNat = 1 ∨ f.toNat = 2 ∨ f.toNat = 3 ∨ f.toNat = 4 := by omega
  have h4 := List.all_eq_true.1 h3 f.toNat (by rcases hf with e | e | e | e <;> simp [e])
  rw [show f.toNat - 1 = (f - 1).toNat by omega, ha] at h4
  simp only [decide_eq_true_eq] at h4
  rcases h4 with h4 | h4
  · exact absurd h4 h0
  · have hbf : baseF a = (b, f, true) := by rw [h4, hb, show ((f.toNat : Nat) : Int) = f by omega]
    exact ⟨hbf, by rw [preF, hbf]; rfl⟩
theorem ligR_mem {b f a : Int} {l : List Rg} (h : ligR b f l = (a, true)) : ∃ r ∈ l, r.1 = b ∧ ((f = 1 ∧ r.2.1 = a) ∨ (f = 2 ∧ r.2.2 = a)) := by
  induction l with
  | nil => cases h
  | cons r l ih =>
    have hi : ligR b f l = (a, true) → ∃ u ∈ r :: l, u.1 = b ∧ ((f = 1 ∧ u.2.1 = a) ∨ (f = 2 ∧ u.2.2 = a)) := fun h => by
      obtain ⟨u, hu, r⟩ := ih h
      exact ⟨u, by simp [hu], r⟩
    rw [ligR] at h
    by_cases h1 : r.1 = b
    · rw [if_pos h1] at h
      by_cases f1 : f = 1
      · rw [if_pos f1] at h
        injection h with h _
        exact ⟨r, by simp, h1, .inl ⟨f1, h⟩⟩
      · rw [if_neg f1] at h
        by_cases f2 : f = 2
        · rw [if_pos f2] at h
          injection h with h _
          exact ⟨r, by simp, h1, .inr ⟨f2, h⟩⟩
        · rw [if_neg f2] at h
          exact hi h
    · rw [if_neg h1] at h
      exact hi h
theorem lig_back {b f a : Int} (h : ligF b f = (a, true)) : parF a = (b, f, true) := by
  obtain ⟨r, hr, hb, hc⟩ := ligR_mem h
  have hall : (ligL.all fun r => decide (parF r.2.1 = (r.1, 1, true) ∧ parF r.2.2 = (r.1, 2, true))) = true := by decide +kernel
  have h3 := List.all_eq_true.1 hall r hr
  simp only [decide_eq_true_eq] at h3
  rcases hc with ⟨rfl, rfl⟩ | ⟨rfl, rfl⟩
  · rw [h3.1, hb]
  · rw [h3.2, hb]

/-- No code is of two kinds: of how many a code is. -/
def one01 (b : Bool) : Nat := if b = true then 1 else 0
def kindsF (c : Int) : Nat := one01 (baseF c).2.2 + one01 (parF c).2.2 + one01 (marF c).2.2 + one01 (unpF c).2
def allForms : List Int := letL.flatMap formsOf ++ ligL.flatMap twoR ++ accL.flatMap twoR ++ pilL.map (·.2)
theorem parR_none {c : Int} {l : List Rg} (h : ∀ r ∈ l, c ∉ twoR r) : parR c l = (0, 0, false) := by
  induction l with
  | nil => rfl
  | cons r l ih =>
    have h1 := h r (by simp)
    simp only [twoR, List.mem_cons, List.not_mem_nil, or_false, not_or] at h1
    rw [parR, if_neg (fun e => h1.1 e.symm), if_neg (fun e => h1.2 e.symm)]
    exact ih fun u hu => h u (by simp [hu])
theorem marR_none {c : Int} {l : List Rg} (h : ∀ r ∈ l, c ∉ twoR r) : marR c l = (0, false, false) := by
  induction l with
  | nil => rfl
  | cons r l ih =>
    have h1 := h r (by simp)
    simp only [twoR, List.mem_cons, List.not_mem_nil, or_false, not_or] at h1
    rw [marR, if_neg (fun e => h1.1 e.symm), if_neg (fun e => h1.2 e.2.symm)]
    exact ih fun u hu => h u (by simp [hu])
theorem unpR_none {c : Int} {l : List Sp} (h : ∀ s ∈ l, c ≠ s.2) : unpR c l = (0, false) := by
  induction l with
  | nil => rfl
  | cons s l ih =>
    rw [unpR, if_neg (fun e => h s (by simp) e.symm)]
    exact ih fun u hu => h u (by simp [hu])
theorem kinds_le (c : Int) : kindsF c ≤ 1 := by
  by_cases h : c ∈ allForms
  · have hall : (allForms.all fun c => decide (kindsF c ≤ 1)) = true := by decide +kernel
    simpa using List.all_eq_true.1 hall c h
  · simp only [allForms, List.mem_append, List.mem_flatMap, List.mem_map, not_or, not_exists, not_and] at h
    obtain ⟨⟨⟨h1, h2⟩, h3⟩, h4⟩ := h
    have e1 : baseF c = (0, 0, false) := baseR_none fun t ht => hitF_none (.inr (h1 t ht))
    have e2 : parF c = (0, 0, false) := parR_none h2
    have e3 : marF c = (0, false, false) := marR_none h3
    have e4 : unpF c = (0, false) := unpR_none fun s hs e => h4 s hs e.symm
    rw [kindsF, e1, e2, e3, e4]
    decide
end Go.Proofs.YtcbiaeeifclieaaGreatDoor
/- Tails of letters, as plain mathematics. No function of the program. -/
namespace Go.Proofs.YtcbiaeeifclieaaGreatDoor
open Go.RowKit

def seenB (c : Int) : Bool := decide (1587 ≤ c) && decide (c ≤ 1590)
theorem seenB_iff (c : Int) : seenB c = true ↔ 1587 ≤ c ∧ c ≤ 1590 := by simp [seenB]
def goesF (f : Int) : Int := if f = 1 then 3 else if f = 2 then 4 else 0
def bareF (f : Int) : Int × Bool := if f = 1 then (65263, true) else if f = 2 then (65264, true) else (0, false)
def withF (c : Int × Bool) (t : Int) : List Int × Bool := if c.2 = true then ([c.1, t], true) else ([], false)
/-- A letter at the end, and its tail. -/
def tailF (b f : Int) (s y : Bool) : List Int × Bool :=
  if s = true ∧ seenB b = true then withF (formF b (goesF f)) 65139 else if y = true ∧ b = 1574 then withF (bareF f) 65152 else ([], false)
def uncutF (a : Int) : Int × Bool := if seenB (baseF a).1 = true ∧ ((baseF a).2.1 = 3 ∨ (baseF a).2.1 = 4) then ((baseF a).1, true) else (0, false)
/-- The letter that became two codes. -/
def backF (a b : Int) (s y : Bool) : Int × Bool :=
  if s = true ∧ b = 65139 then uncutF a else if y = true ∧ b = 65152 ∧ (a = 65263 ∨ a = 65264) then (1574, true) else (0, false)
theorem seen_four {b : Int} (h : seenB b = true) : b = 1587 ∨ b = 1588 ∨ b = 1589 ∨ b = 1590 := by
  rw [seenB_iff] at h
  omega
theorem seen_form {b : Int} (h : seenB b = true) : (formF b 3).2 = true ∧ (formF b 4).2 = true := by
  rcases seen_four h with rfl | rfl | rfl | rfl <;> exact ⟨by decide +kernel, by decide +kernel⟩
theorem form_none (b : Int) : formF b 0 = (0, false) := by
  unfold formF
  generalize letL = l
  induction l with
  | nil => rfl
  | cons t l ih => rw [formR, if_neg (by omega)]; exact ih
theorem base_no {a x q : Int} (h : baseF a = (x, q, false)) : x = 0 ∧ q = 0 := by
  have key : ∀ l : List Lt, baseR a l = (x, q, false) → x = 0 ∧ q = 0 := fun l => by
    induction l with
    | nil => intro h; simp [baseR] at h; omega
    | cons t l ih =>
      intro h
      rw [baseR] at h
      split at h
      · exact ih h
      · simp at h
  exact key _ h
/-- Of an ending letter alone there is something. -/
theorem tailF_form (b f : Int) (s y : Bool) (h : f ≠ 1) (h2 : f ≠ 2) : tailF b f s y = ([], false) := by
  unfold tailF goesF bareF withF
  rw [if_neg h, if_neg h2, if_neg h, if_neg h2, form_none]
  simp
theorem tailF_seen {b f : Int} {s : Bool} (y : Bool) (hs : s = true ∧ seenB b = true) (h : f = 1 ∨ f = 2) : tailF b f s y = ([(formF b (goesF f)).1, 65139], true) := by
  unfold tailF withF
  rw [if_pos hs]
  have h9 := seen_form hs.2
  have : (formF b (goesF f)).2 = true := by
    rcases h with rfl | rfl
    · exact h9.1
    · exact h9.2
  rw [if_pos this]
theorem tailF_yeh {b f : Int} {s y : Bool} (hs : ¬ (s = true ∧ seenB b = true)) (hy : y = true ∧ b = 1574) (h : f = 1 ∨ f = 2) : tailF b f s y = ([(bareF f).1, 65152], true) := by
  unfold tailF
  rw [if_neg hs, if_pos hy]
  rcases h with rfl | rfl <;> rfl
theorem tailF_no {b : Int} (f : Int) {s y : Bool} (hs : ¬ (s = true ∧ seenB b = true)) (hy : ¬ (y = true ∧ b = 1574)) : tailF b f s y = ([], false) := by
  unfold tailF
  rw [if_neg hs, if_neg hy]
theorem form_base {b f : Int} (h : (formF b f).2 = true) : baseF (formF b f).1 = (b, f, true) := (form_back (a := (formF b f).1) (Prod.ext rfl h)).1
/-- A letter with its tail is the letter. -/
theorem tail_back {b f : Int} {s y : Bool} (h : (tailF b f s y).2 = true) : ∃ c t, (tailF b f s y).1 = [c, t] ∧ backF c t s y = (b, true) := by
  by_cases hf : f = 1 ∨ f = 2
  · by_cases hs : s = true ∧ seenB b = true
    · rw [tailF_seen y hs hf]
      refine ⟨_, _, rfl, ?_⟩
      have h9 := seen_form hs.2
      unfold backF
      rw [if_pos ⟨hs.1, rfl⟩]
      unfold uncutF
      rcases hf with rfl | rfl
      · rw [show goesF 1 = 3 from rfl, form_base h9.1, if_pos ⟨hs.2, .inl rfl⟩]
      · rw [show goesF 2 = 4 from rfl, form_base h9.2, if_pos ⟨hs.2, .inr rfl⟩]
    · by_cases hy : y = true ∧ b = 1574
      · rw [tailF_yeh hs hy hf]
        refine ⟨_, _, rfl, ?_⟩
        unfold backF
        rw [if_neg (by omega), if_pos ⟨hy.1, rfl, by rcases hf with rfl | rfl <;> simp [bareF]⟩, hy.2]
      · rw [tailF_no f hs hy] at h
        cases h
  · rw [tailF_form b f s y (fun e => hf (.inl e)) (fun e => hf (.inr e))] at h
    cases h
theorem tailF_len (b f : Int) (s y : Bool) (h : (tailF b f s y).2 = false) : (tailF b f s y).1 = [] := by
  revert h
  unfold tailF withF
  repeat' split
  all_goals simp
end Go.Proofs.YtcbiaeeifclieaaGreatDoor
/- Forms taken back, as mathematics: what each code is made of, and what of cells becomes of a text. -/
namespace Go.Proofs.YtcbiaeeifclieaaGreatDoor
open Go.RowKit

def partF (c : Int) : Option (List Int) :=
  if (baseF c).2.2 = true then some [(baseF c).1] else if (parF c).2.2 = true then some [1604, (parF c).1] else if (marF c).2.2 = true then some [(marF c).1] else if (unpF c).2 = true then some [1617, (unpF c).1] else none
def backL (c : Int) : List Int := (partF c).getD [c]
def ligB (c : Int) : Bool := (parF c).2.2
def becL (lt : Bool) (la c : Int) : List Int := if lt = false then [c] else if la = 0 ∧ ligB c = true then [c] else backL c
theorem part_len {c : Int} {l : List Int} (h : partF c = some l) : 1 ≤ l.length ∧ l.length ≤ 2 := by
  unfold partF at h
  repeat' split at h
  all_goals first | (obtain rfl := Option.some.inj h; simp) | cases h
theorem back_len (c : Int) : 1 ≤ (backL c).length ∧ (backL c).length ≤ 2 := by
  unfold backL
  cases h : partF c with
  | none => simp
  | some l => exact part_len h
theorem bec_len (lt : Bool) (la c : Int) : 1 ≤ (becL lt la c).length ∧ (becL lt la c).length ≤ 2 := by
  unfold becL
  repeat' split
  · simp
  · simp
  · exact back_len c
theorem part_none {c : Int} (h : c ∉ allForms) : baseF c = (0, 0, false) ∧ parF c = (0, 0, false) ∧ marF c = (0, false, false) ∧ unpF c = (0, false) := by
  simp only [allForms, List.mem_append, List.mem_flatMap, List.mem_map, not_or, not_exists, not_and] at h
  obtain ⟨⟨⟨h1, h2⟩, h3⟩, h4⟩ := h
  exact ⟨baseR_none fun t ht => hitF_none (.inr (h1 t ht)), parR_none h2, marR_none h3, unpR_none fun s hs e => h4 s hs e.symm⟩
theorem forms_back : (allForms.all fun c => (backL c).all fun d => !preF d || decide (d = 65139)) = true := by decide +kernel
/-- No form is left but the tail. -/
theorem back_pre {c d : Int} (hd : d ∈ backL c) (hp : preF d = true) : d = 65139 := by
  by_cases h : c ∈ allForms
  · have h1 := List.all_eq_true.1 forms_back c h
    have h2 := List.all_eq_true.1 h1 d hd
    rw [hp] at h2
    simpa using h2
  · obtain ⟨e1, e2, e3, e4⟩ := part_none h
    have hb : backL c = [c] := by unfold backL partF; rw [e1, e2, e3, e4]; rfl
    rw [hb, List.mem_singleton] at hd
    subst hd
    unfold preF at hp
    rw [e1, e2, e3, e4] at hp
    simpa using hp
theorem tail_back_self : backL 65139 = [65139] := by decide +kernel
theorem part_pre {c : Int} (h : preF c = false) : backL c = [c] ∧ ligB c = false := by
  unfold preF at h
  simp only [Bool.or_eq_false_iff] at h
  obtain ⟨⟨⟨⟨h1, h2⟩, h3⟩, h4⟩, _⟩ := h
  refine ⟨?_, h2⟩
  unfold backL partF
  rw [h1, h2, h3, h4]
  rfl
/-- What was taken back is taken back to itself. -/
theorem back_again {c d : Int} (hd : d ∈ backL c) : backL d = [d] := by
  cases h : preF d with
  | false => exact (part_pre h).1
  | true => rw [back_pre hd h]; exact tail_back_self

/-- Cells: where the farthest span from each ends, and its codes. -/
abbrev St := List (Int × List Int)
def sSet (S : St) (i : Nat) (l : List Int) : St := S.set i ((S.getD i (0, [])).1, l)
def sJoin (S : St) (i : Nat) (hi : Int) : St := S.set i (max (S.getD i (0, [])).1 hi, (S.getD i (0, [])).2)
def sShare (S : St) (a b : Nat) (l m : List Int) : St := sJoin (sSet (sSet S a l) b m) a ((b : Int) + 1)
theorem sSet_len (S : St) (i : Nat) (l : List Int) : (sSet S i l).length = S.length := by simp [sSet]
theorem sShare_len (S : St) (a b : Nat) (l m : List Int) : (sShare S a b l m).length = S.length := by simp [sShare, sJoin, sSet]
def tlS (s y : Bool) : List Int → Nat → St → St
  | a :: b :: xs, k, S => if (backF a b s y).2 = true then tlS s y xs (k + 2) (sShare S k (k + 1) [(backF a b s y).1] []) else tlS s y (b :: xs) (k + 1) S
  | _, _, S => S
/-- The place behind k and the codes passed over. -/
def nearK (mk : Int → Bool) (xs : List Int) (k : Nat) : Nat := k + ((xs.drop k).takeWhile mk).length
def spNear (mk : Int → Bool) (xs : List Int) : List Nat → St → Option St
  | [], S => some S
  | a :: l, S => if xs[nearK mk xs (a + 1)]? = some 32 then spNear mk xs l (sShare S a (nearK mk xs (a + 1)) [1604] [(parF (xs.getD a 0)).1]) else none
def spClear (xs : List Int) : Nat → Nat → St → Option St
  | 0, _, S => some S
  | n + 1, f, S => if xs[f]? = some 32 then spClear xs n (f + 1) (sSet S f []) else none
def ligsTo (xs : List Int) (k : Nat) : List Nat := (List.range k).filter fun i => ligB (xs.getD i 0)
def ligsL (xs : List Int) : List Nat := ligsTo xs xs.length
def spacesS (mk : Int → Bool) (xs : List Int) (la : Int) (S : St) : Option St :=
  if la = 2 then spNear mk xs (ligsL xs) S else if la = 4 then spClear xs (ligsL xs).length (xs.length - (ligsL xs).length) S else if la = 3 then spClear xs (ligsL xs).length 0 S else some S
def stOf (f : Int → List Int) (xs : List Int) : St := xs.map fun c => (0, f c)
def codesS (S : St) : List Int := S.flatMap (·.2)
/-- Small cells: no more than two codes each, and spans within. -/
def Small (n : Nat) (S : St) : Prop := S.length = n ∧ ∀ s ∈ S, s.2.length ≤ 2 ∧ s.1 ≤ n
theorem Small.at_ {n : Nat} {S : St} (h : Small n S) {i : Nat} (hi : i < n) : (S.getD i (0, [])).2.length ≤ 2 ∧ (S.getD i (0, [])).1 ≤ n := by
  have hl : i < S.length := by rw [h.1]; exact hi
  rw [List.getD_eq_getElem?_getD, List.getElem?_eq_getElem hl, Option.getD_some]
  exact h.2 _ (List.getElem_mem hl)
theorem Small.put {n : Nat} {S : St} (h : Small n S) (i : Nat) (s : Int × List Int) (h1 : s.2.length ≤ 2) (h2 : s.1 ≤ n) : Small n (S.set i s) :=
  ⟨by simp [h.1], fun t ht => by
    rcases List.mem_or_eq_of_mem_set ht with ht | rfl
    · exact h.2 t ht
    · exact ⟨h1, h2⟩⟩
theorem Small.set {n : Nat} {S : St} (h : Small n S) {i : Nat} (hi : i < n) {l : List Int} (hl : l.length ≤ 2) : Small n (sSet S i l) := h.put i _ hl (h.at_ hi).2
theorem Small.join {n : Nat} {S : St} (h : Small n S) {i : Nat} (hi : i < n) {e : Int} (he : e ≤ n) : Small n (sJoin S i e) := h.put i _ (h.at_ hi).1 (by have := (h.at_ hi).2; simp only; omega)
theorem Small.share {n : Nat} {S : St} (h : Small n S) {a b : Nat} (ha : a < n) (hb : b < n) {l m : List Int} (hl : l.length ≤ 2) (hm : m.length ≤ 2) : Small n (sShare S a b l m) :=
  ((h.set ha hl).set hb hm).join ha (by omega)
theorem Small.of (f : Int → List Int) (xs : List Int) (hf : ∀ c, (f c).length ≤ 2) : Small xs.length (stOf f xs) :=
  ⟨by simp [stOf], fun s hs => by
    obtain ⟨c, _, rfl⟩ := List.mem_map.1 hs
    exact ⟨hf c, by simp⟩⟩
theorem codes_le {S : St} {n : Nat} (h : Small n S) : (codesS S).length ≤ 2 * n := by
  rw [← h.1]
  have : ∀ S : St, (∀ s ∈ S, s.2.length ≤ 2) → (codesS S).length ≤ 2 * S.length := fun S => by
    induction S with
    | nil => intro _; simp [codesS]
    | cons s S ih =>
      intro h
      have h1 := h s (by simp)
      have h2 := ih fun t ht => h t (by simp [ht])
      simp only [codesS, List.flatMap_cons, List.length_append, List.length_cons] at h2 ⊢
      omega
  exact this S fun s hs => (h.2 s hs).1
theorem ligs_lt {xs : List Int} {a : Nat} (h : a ∈ ligsL xs) : a < xs.length := by
  unfold ligsL ligsTo at h
  exact List.mem_range.1 (List.mem_filter.1 h).1
theorem ligs_le (xs : List Int) (k : Nat) : (ligsTo xs k).length ≤ k := by
  have := List.length_filter_le (fun i => ligB (xs.getD i 0)) (List.range k)
  simpa [ligsTo] using this
theorem ligs_step {xs : List Int} {k : Nat} {x : Int} (h : xs[k]? = some x) : ligsTo xs (k + 1) = if ligB x = true then ligsTo xs k ++ [k] else ligsTo xs k := by
  unfold ligsTo
  rw [List.range_succ, List.filter_append]
  cases hb : ligB x
  · simp [h, hb]
  · simp [h, hb]
end Go.Proofs.YtcbiaeeifclieaaGreatDoor
/- The given ligatures in memory. -/
namespace Go.Proofs.YtcbiaeeifclieaaGreatDoor
open Go.RowKit
theorem rd_newG (w : World) (l : List Rg) (T : TypeId) : Rd (w.alloc (.cells (cellsG l).toArray T)) 3 (some ⟨w.heap.size, 0, none⟩) l.length (cellsG l) :=
  ⟨cellsG_len l, fun _ => ⟨_, rfl, by simp, cells_new w _ T⟩⟩
set_option maxRecDepth 1000000 in
set_option maxHeartbeats 4000000 in
theorem ligatures_any (w : World) : Calls Tryz.prog 80 #[] w fun e w' => (∃ A, e = .returned (.slice A 4 4) ∧ Rd w' 3 A 4 (cellsG ligL)) ∧ Below w.heap.size w w' := by
  go_enter Tryz.func80, Tryz.ntmps80
  go_wp2
  go_ret
  exact ⟨⟨_, rfl, rd_newG w ligL _⟩, below_new _ _⟩
end Go.Proofs.YtcbiaeeifclieaaGreatDoor
/- Two numbers in memory. -/
namespace Go.Proofs.YtcbiaeeifclieaaGreatDoor
open Go.RowKit
theorem rdNew2 (w : World) (a b : Int) (t : TypeId) : Rd (w.alloc (.cells #[.int .i64 a, .int .i64 b] t)) 1 (some ⟨w.heap.size, 0, none⟩) 2 (([a, b] : List Int).map (Value.int .i64)) := Rd.new_ w [.int .i64 a, .int .i64 b] t
theorem rdNew2b (w : World) (o : Obj) (a b : Int) (t : TypeId) : Rd ((w.alloc o).alloc (.cells #[.int .i64 a, .int .i64 b] t)) 1 (some ⟨w.heap.size + 1, 0, none⟩) 2 (([a, b] : List Int).map (Value.int .i64)) := by
  have h := rdNew2 (w.alloc o) a b t
  rwa [show (w.alloc o).heap.size = w.heap.size + 1 by simp] at h
theorem pick_min (xs : List Int) (h : xs.length ≤ 1000) : pickF 9223372036854775807 xs = (0, false) ∧ pickF (-9223372036854775808 - 1) xs = (0, false) :=
  ⟨if_pos (.inr (by omega)), if_pos (.inl (by omega))⟩
end Go.Proofs.YtcbiaeeifclieaaGreatDoor
/- More words for memory: make with a length and a capacity; values in an aggregate. -/
namespace Go.Proofs.YtcbiaeeifclieaaGreatDoor
open Go.RowKit

/-- make([]T, l, c), T of one cell. -/
theorem wpList_mkN {P : Program} {w : World} {ops : Array Oper} {rest : List Oper} {o : Oper} {a : Act} {Q : Exit → Act → World → Prop}
    (hg : o.guard = none) (lo co : Operand) (t : TypeId) (hop : o.op = Op.makeSlice t lo co)
    {base : Nat} {e : TypeId} {bytes : Nat} {z : Value} (ht : P.underlying t = some (.slice e)) (hin : (P.info? e).map (fun i => (i.zero, i.size, i.bytes)) = some (some z, 1, bytes)) (hz : z.cells = #[z])
    {kl kc : IntKind} (L C : Int) (l c : Nat) (hl : a.eval lo = .int kl L) (hc : a.eval co = .int kc C) (hL : L = (l : Int)) (hC : C = (c : Int)) (hlc : l ≤ c) (b2 : bytes * c ≤ 281474976710656) (b3 : c ≤ maxLen) (b4 : base ≤ w.heap.size)
    (hK : ∀ w', w'.ownsRow base e 1 (.slice (some ⟨w.heap.size, 0, none⟩) l c) l (List.replicate l z) → w.grownBy w' none → wpList P ops Q rest (a.put o.dst (.slice (some ⟨w.heap.size, 0, none⟩) l c)) w') :
    wpList P ops Q (o :: rest) a w := by
  obtain ⟨i, h1, h2, h3, h4⟩ := info_parts hin
  subst hL hC
  have h63 : ((c : Nat) : Int) ≤ 9223372036854775807 := by unfold maxLen at b3; omega
  have hb' : (i.bytes : Int) * (c : Int) ≤ 281474976710656 := by
    have h : ((i.bytes * c : Nat) : Int) ≤ 281474976710656 := by rw [h4]; omega
    rwa [Int.natCast_mul] at h
  have hr := run_make (P := P) w t e i z ht h1 h2 kl kc l c (by omega) (by omega) hb' h63
  simp only [Int.toNat_natCast, h3, Nat.mul_one, hz] at hr
  have hown : (w.alloc (.cells (madeCells #[z] c) e)).ownsRow base e 1 (.slice (some ⟨w.heap.size, 0, none⟩) l c) l (List.replicate l z) := by
    refine ⟨by simp, .inr ⟨w.heap.size, c, madeCells #[z] c, rfl, b4, heap_alloc_new w _, hlc, b3, by rw [size_madeCells]; omega, ?_⟩⟩
    rw [toList_madeCells_one, Nat.mul_one, List.take_replicate]
    congr 1
    omega
  refine wpList_plain hg fun K hK' => ?_
  unfold Oper.wp
  simp [execOp, hop, hl, hc, hr, Result.andThen]
  exact hK' _ _ (hK _ hown (World.grownBy_alloc w _ none))

/-- A row of the call's own with at least one element: where it lies. -/
theorem own_at {w : World} {base : Nat} {e : TypeId} {v : Value} {n : Nat} {xs : List Value} (h : w.ownsRow base e 1 v n xs) (hn : 0 < n) :
    ∃ g c, v = .slice (some ⟨g, 0, none⟩) n c ∧ n ≤ c ∧ g < w.heap.size ∧ base ≤ g ∧ ∀ j u, xs[j]? = some u → w.cell? ⟨g, j, none⟩ = some u := by
  obtain ⟨g, c, hv, hbg, hlt⟩ := h.form hn
  obtain ⟨_, _, e, hnc⟩ := own_form h
  subst hv
  injection e with _ _ e
  subst e
  refine ⟨g, c, rfl, hnc, hlt, hbg, fun j u hj => ?_⟩
  have := h.cells (g := g) rfl j u hj
  rwa [addNew] at this
/-- What is owned from a later block on is owned from an earlier one on. -/
theorem own_base {w : World} {base b' : Nat} {e : TypeId} {size : Nat} {v : Value} {n : Nat} {xs : List Value} (h : w.ownsRow base e size v n xs) (hb : b' ≤ base) : w.ownsRow b' e size v n xs := by
  obtain ⟨h1, h2⟩ := h
  refine ⟨h1, ?_⟩
  rcases h2 with h2 | ⟨g, cap, cur, hv, hg, r⟩
  · exact .inl h2
  · exact .inr ⟨g, cap, cur, hv, Nat.le_trans hb hg, r⟩
/-- A block of the call's own that no row is, behind an append or a make. -/
theorem blk_grown {w w' : World} {b : Nat} {o : Obj} {row : Option Nat} (h : w.heap[b]? = some o) (hg : w.grownBy w' row) (hne : row ≠ some b) : w'.heap[b]? = some o :=
  (hg.block b (by
    rcases Nat.lt_or_ge b w.heap.size with h' | h'
    · exact h'
    · simp [Array.getElem?_eq_none h'] at h) (fun e => hne e.symm)).trans h
theorem blk_alloc {w : World} {b : Nat} {o : Obj} (h : w.heap[b]? = some o) (o' : Obj) : (w.alloc o').heap[b]? = some o :=
  blk_grown h (World.grownBy_alloc w _ none) (by simp)
/-- A callee that leaves the world alone, inside a quiet region. -/
theorem quiet_eq {P : Program} {f : FuncId} {args : Array Value} {w : World} {n : Nat} {v : Value}
    (h : Calls P f args (w.drewN n) fun e w' => e = .returned v ∧ w.drewN n = w') : Calls P f args (w.drewN n) fun e w'' => e = .returned v ∧ ∃ m, w'' = w.drewN m :=
  Calls.quiet_of_same (h.mono fun _ _ ⟨a, b⟩ => ⟨a, b.symm⟩)
theorem toList_madeSame (z : Array Value) (z0 : Value) (h0 : 0 < z.size) (hz : ∀ j, j < z.size → z[j]! = z0) (n : Nat) : (madeCells z n).toList = List.replicate n z0 := by
  rw [List.eq_replicate_iff]
  refine ⟨by simp [madeCells], fun b hb => ?_⟩
  simp only [madeCells, Array.toList_map, List.mem_map] at hb
  obtain ⟨j, _, rfl⟩ := hb
  exact hz _ (Nat.mod_lt _ h0)
/-- make([]T, n), T a struct whose cells are all the same at zero. -/
theorem wpList_mkZ {P : Program} {w : World} {ops : Array Oper} {rest : List Oper} {o : Oper} {a : Act} {Q : Exit → Act → World → Prop}
    (hg : o.guard = none) (l c : Operand) (t : TypeId) (hop : o.op = Op.makeSlice t l c)
    {base : Nat} {e : TypeId} {size bytes : Nat} {z z0 : Value} (ht : P.underlying t = some (.slice e)) (hin : (P.info? e).map (fun i => (i.zero, i.size, i.bytes)) = some (some z, size, bytes)) (h0 : 0 < z.cells.size) (hz : ∀ j, j < z.cells.size → z.cells[j]! = z0)
    {kl kc : IntKind} (L C : Int) (n : Nat) (hl : a.eval l = .int kl L) (hc : a.eval c = .int kc C) (hL : L = (n : Int)) (hC : C = (n : Int)) (b2 : bytes * n ≤ 281474976710656) (b3 : n ≤ maxLen) (b4 : base ≤ w.heap.size)
    (hK : ∀ w', w'.ownsRow base e size (.slice (some ⟨w.heap.size, 0, none⟩) n n) n (List.replicate (n * size) z0) → w.grownBy w' none → wpList P ops Q rest (a.put o.dst (.slice (some ⟨w.heap.size, 0, none⟩) n n)) w') :
    wpList P ops Q (o :: rest) a w := by
  obtain ⟨i, h1, h2, h3, h4⟩ := info_parts hin
  refine wpList_make_full w hg l c t hop base e i z size ht h1 h2 h3 kl kc L C n hl hc hL hC (by rw [h4]; exact b2) b3 b4 (fun w' a1 a2 => hK w' ?_ a2)
  rwa [toList_madeSame _ z0 h0 hz] at a1
/-- Two cells next to each other, stored into a row of the call's own. -/
theorem own_store2 {w : World} {base : Nat} {e : TypeId} {size g n cap : Nat} {xs : List Value} (h : w.ownsRow base e size (.slice (some ⟨g, 0, none⟩) n cap) n xs) (j : Nat) (u v : Value) :
    ((w.setCell ⟨g, j, none⟩ u).setCell ⟨g, j + 1, none⟩ v).ownsRow base e size (.slice (some ⟨g, 0, none⟩) n cap) n ((xs.set j u).set (j + 1) v) :=
  ((h.stored j u).1.stored (j + 1) v).1
/-- A cell of a row of the call's own is there and may be written. -/
theorem own_slot {w : World} {base : Nat} {e : TypeId} {size g n cap : Nat} {xs : List Value} (h : w.ownsRow base e size (.slice (some ⟨g, 0, none⟩) n cap) n xs) {j : Nat} (hj : j < n * size) :
    (∃ u, w.cell? ⟨g, j, none⟩ = some u) ∧ w.frozen? ⟨g, j, none⟩ = false :=
  ⟨⟨xs[j]'(by rw [h.1]; exact hj), by rw [h.cellAt j hj, List.getElem?_eq_getElem]⟩, h.frozenAt j⟩
end Go.Proofs.YtcbiaeeifclieaaGreatDoor
/- Blocks of memory by their cells: what lies in one, what a store leaves of others. -/
namespace Go.Proofs.YtcbiaeeifclieaaGreatDoor
open Go.RowKit

def intsZ (l : List Int) : List Value := l.map (Value.int .i64)
theorem intsZ_set (l : List Int) (i : Nat) (x : Int) : intsZ (l.set i x) = (intsZ l).set i (.int .i64 x) := by simp [intsZ, List.map_set]
theorem hp_lt {w : World} {g : Nat} {o : Obj} (h : w.heap[g]? = some o) : g < w.heap.size := by
  by_cases c : g < w.heap.size
  · exact c
  · rw [Array.getElem?_eq_none (by omega)] at h; exact absurd h (by simp)
theorem hp_cell {w : World} {g : Nat} {cs : Array Value} {t : TypeId} (h : w.heap[g]? = some (.cells cs t (0, 0))) {j : Nat} {v : Value} (hj : cs[j]? = some v) : w.cell? ⟨g, j, none⟩ = some v := by
  unfold World.cell?
  rw [show w.heap[(⟨g, j, none⟩ : Addr).block]? = _ from h]
  simpa using hj
theorem hp_froz {w : World} {g : Nat} {cs : Array Value} {t : TypeId} (h : w.heap[g]? = some (.cells cs t (0, 0))) (j : Nat) : w.frozen? ⟨g, j, none⟩ = false := by
  unfold World.frozen?
  rw [show w.heap[(⟨g, j, none⟩ : Addr).block]? = _ from h]
  rfl
theorem hp_far {w : World} {g k : Nat} (h : k ≠ g) (j : Nat) (u : Value) : (w.setCell ⟨g, j, none⟩ u).heap[k]? = w.heap[k]? := Below.heap_setCell w ⟨g, j, none⟩ u k h
theorem hp_row {w : World} {g : Nat} {l : List Int} {t : TypeId} (h : w.heap[g]? = some (.cells (intsZ l).toArray t (0, 0))) (i : Nat) (x : Int) : (w.setCell ⟨g, i, none⟩ (.int .i64 x)).heap[g]? = some (.cells (intsZ (l.set i x)).toArray t (0, 0)) := by
  rw [heap_setCell_same w g i _ t _ h]
  congr 2
  rw [intsZ_set, List.setIfInBounds_toArray]
theorem Rd.belowS {w w' : World} {size n s : Nat} {A : Option Addr} {xs : List Value} (h : Rd w size A n xs) (hA : 0 < n → ∀ ad, A = some ad → ad.block < s) (hb : Below s w w') : Rd w' size A n xs :=
  ⟨h.1, fun hn => by
    obtain ⟨ad, e, hlt, hc⟩ := h.2 hn
    exact ⟨ad, e, Nat.lt_of_lt_of_le hlt hb.size, fun j u hu => (hb.cell (by rw [blockAdd]; exact hA hn ad e)).trans (hc j u hu)⟩⟩
end Go.Proofs.YtcbiaeeifclieaaGreatDoor
/- Which blocks a call may write. -/
namespace Go.Proofs.YtcbiaeeifclieaaGreatDoor
open Go.RowKit

/-- w' is w with new blocks, and with writes to the blocks of S alone. -/
structure Kept (w w' : World) (S : List Nat) : Prop where
  os : w'.os = w.os
  tape : w'.tape = w.tape
  output : w'.output = w.output
  size : w.heap.size ≤ w'.heap.size
  block : ∀ i, i < w.heap.size → i ∉ S → w'.heap[i]? = w.heap[i]?
theorem Kept.refl (w : World) (S : List Nat) : Kept w w S := ⟨rfl, rfl, rfl, Nat.le_refl _, fun _ _ _ => rfl⟩
theorem Kept.trans {a b c : World} {S : List Nat} (h : Kept a b S) (k : Kept b c S) : Kept a c S :=
  ⟨k.os.trans h.os, k.tape.trans h.tape, k.output.trans h.output, Nat.le_trans h.size k.size, fun i hi hs => (k.block i (Nat.lt_of_lt_of_le hi h.size) hs).trans (h.block i hi hs)⟩
theorem Kept.of_grown {a b : World} {g : Nat} {S : List Nat} (h : a.grownBy b (some g)) (hg : g ∈ S) : Kept a b S :=
  ⟨h.os, h.tape, h.output, h.size, fun i hi hs => h.block i hi (fun e => hs (by obtain rfl := Option.some.inj e; exact hg))⟩
theorem Kept.of_below {a b : World} (h : Below a.heap.size a b) (S : List Nat) : Kept a b S := ⟨h.os, h.tape, h.output, h.size, fun i hi _ => h.block i hi⟩
theorem Kept.drew {a b : World} {S : List Nat} (h : Kept a b S) : Kept a b.drew S := ⟨h.os, h.tape, h.output, h.size, h.block⟩
theorem Kept.set {a b : World} {S : List Nat} (h : Kept a b S) {g : Nat} (hg : g ∈ S ∨ a.heap.size ≤ g) (j : Nat) (u : Value) : Kept a (b.setCell ⟨g, j, none⟩ u) S :=
  ⟨h.os, h.tape, h.output, by simpa [World.setCell] using h.size, fun i hi hs => (Below.heap_setCell b ⟨g, j, none⟩ u i (by
    show i ≠ g
    rintro rfl
    rcases hg with hg | hg
    · exact hs hg
    · omega)).trans (h.block i hi hs)⟩
theorem Kept.heap {w w' : World} {S : List Nat} (h : Kept w w' S) {g : Nat} {o : Obj} (hg : w.heap[g]? = some o) (hs : g ∉ S) : w'.heap[g]? = some o := by
  have hlt : g < w.heap.size := by
    rcases Nat.lt_or_ge g w.heap.size with h' | h'
    · exact h'
    · rw [Array.getElem?_eq_none h'] at hg
      cases hg
  exact (h.block g hlt hs).trans hg
theorem Kept.cell {w w' : World} {S : List Nat} (h : Kept w w' S) {g j : Nat} {v : Value} (hc : w.cell? ⟨g, j, none⟩ = some v) (hs : g ∉ S) : w'.cell? ⟨g, j, none⟩ = some v := by
  have hlt : g < w.heap.size := cell_lt hc
  unfold World.cell? at hc ⊢
  rw [show w'.heap[(⟨g, j, none⟩ : Addr).block]? = w.heap[(⟨g, j, none⟩ : Addr).block]? from h.block g hlt hs]
  exact hc
theorem heap_lt {w : World} {g : Nat} {o : Obj} (h : w.heap[g]? = some o) : g < w.heap.size := by
  rcases Nat.lt_or_ge g w.heap.size with h' | h'
  · exact h'
  · rw [Array.getElem?_eq_none h'] at h
    cases h
theorem frozen_of_heap {w : World} {g : Nat} {cs : Array Value} {t : TypeId} (h : w.heap[g]? = some (.cells cs t (0, 0))) (j : Nat) : w.frozen? ⟨g, j, none⟩ = false := by
  unfold World.frozen?
  rw [show w.heap[(⟨g, j, none⟩ : Addr).block]? = _ from h]
  rfl
theorem heap_setCell_far {w : World} {g k : Nat} (h : k ≠ g) (j : Nat) (u : Value) : (w.setCell ⟨g, j, none⟩ u).heap[k]? = w.heap[k]? := Below.heap_setCell w ⟨g, j, none⟩ u k h
end Go.Proofs.YtcbiaeeifclieaaGreatDoor
/- What writes to some blocks alone leaves: rows, what lies below. -/
namespace Go.Proofs.YtcbiaeeifclieaaGreatDoor
open Go.RowKit

theorem own_kept {w w' : World} {base : Nat} {e : TypeId} {size n : Nat} {v : Value} {xs : List Value} {S : List Nat} (h : w.ownsRow base e size v n xs) (hk : Kept w w' S) (hs : ∀ x ∈ S, x < base) : w'.ownsRow base e size v n xs :=
  ⟨h.1, h.2.imp id fun ⟨g, cap, cur, e1, hb, hg, r⟩ => ⟨g, cap, cur, e1, hb, hk.heap hg (fun hm => by have := hs g hm; omega), r⟩⟩
theorem own_keptG {w w' : World} {base : Nat} {e : TypeId} {size n g c : Nat} {xs : List Value} {S : List Nat} (h : w.ownsRow base e size (.slice (some ⟨g, 0, none⟩) n c) n xs) (hk : Kept w w' S) (hs : g ∉ S) : w'.ownsRow base e size (.slice (some ⟨g, 0, none⟩) n c) n xs := by
  refine ⟨h.1, h.2.imp id fun ⟨g', cap, cur, e1, hb, hg, r⟩ => ⟨g', cap, cur, e1, hb, hk.heap hg (fun hm => ?_), r⟩⟩
  simp only [Value.slice.injEq, Option.some.injEq, Addr.mk.injEq, and_true] at e1
  obtain ⟨rfl, _⟩ := e1
  exact hs hm
theorem Kept.lower {a b w : World} {S : List Nat} {B : Nat} (h : Kept a b S) (hb : Below B w a) (hB : B ≤ a.heap.size) (hs : ∀ x ∈ S, B ≤ x) : Below B w b :=
  ⟨h.os.trans hb.os, h.tape.trans hb.tape, h.output.trans hb.output, Nat.le_trans hb.size h.size, fun k hk => (h.block k (Nat.lt_of_lt_of_le hk hB) (fun hm => by have := hs k hm; omega)).trans (hb.block k hk)⟩
theorem Kept.belowE {w b : World} (h : Kept w b []) : Below w.heap.size w b := h.lower (Below.refl _ _) (Nat.le_refl _) (by simp)
theorem Kept.moreS {a b : World} {S T : List Nat} (h : Kept a b S) (hs : ∀ x ∈ S, x ∈ T) : Kept a b T := ⟨h.os, h.tape, h.output, h.size, fun i hi hn => h.block i hi (fun hm => hn (hs i hm))⟩
/-- Writes to new blocks are no writes. -/
theorem Kept.less {a b : World} {S T : List Nat} (h : Kept a b S) (hs : ∀ x ∈ S, x ∈ T ∨ a.heap.size ≤ x) : Kept a b T := ⟨h.os, h.tape, h.output, h.size, fun i hi hn => h.block i hi (fun hm => by
  rcases hs i hm with h' | h'
  · exact hn h'
  · omega)⟩
end Go.Proofs.YtcbiaeeifclieaaGreatDoor
/- The finest map: which places are together; the list of clusters that says so is the only one. No program in this text. -/
namespace Go.Proofs.YtcbiaeeifclieaaGreatDoor

/-- A place: its side (true: what comes out), its number. -/
abbrev Pl := Bool × Nat
/-- A link, or a cluster, in natural numbers: In's ends, Out's ends. -/
structure NC where
  a : Nat
  b : Nat
  c : Nat
  d : Nat
deriving DecidableEq
def NC.has (x : NC) (q : Pl) : Prop := if q.1 = true then x.c ≤ q.2 ∧ q.2 < x.d else x.a ≤ q.2 ∧ q.2 < x.b
/-- Places that belong together: the least relation that has each link's places together, and all between. -/
inductive Tog (L : List NC) : Pl → Pl → Prop
  | refl (p : Pl) : Tog L p p
  | link (x : NC) (p q : Pl) : x ∈ L → x.has p → x.has q → Tog L p q
  | symm (p q : Pl) : Tog L p q → Tog L q p
  | trans (p q r : Pl) : Tog L p q → Tog L q r → Tog L p r
  | between (s : Bool) (i k j : Nat) : i ≤ k → k ≤ j → Tog L (s, i) (s, j) → Tog L (s, i) (s, k)
theorem Tog.sub {L M : List NC} (h : ∀ x ∈ L, x ∈ M) {p q : Pl} (t : Tog L p q) : Tog M p q := by
  induction t with
  | refl p => exact .refl p
  | link x p q hx hp hq => exact .link x p q (h x hx) hp hq
  | symm p q _ ih => exact .symm _ _ ih
  | trans p q r _ _ ih1 ih2 => exact .trans _ _ _ ih1 ih2
  | between s i k j h1 h2 _ ih => exact .between s i k j h1 h2 ih
/-- A relation that is closed has all that is together. -/
theorem Tog.least {L : List NC} {S : Pl → Pl → Prop} (hr : ∀ p, S p p) (hs : ∀ p q, S p q → S q p) (ht : ∀ p q r, S p q → S q r → S p r) (hl : ∀ x ∈ L, ∀ p q, x.has p → x.has q → S p q)
    (hb : ∀ s i k j, i ≤ k → k ≤ j → S (s, i) (s, j) → S (s, i) (s, k)) {p q : Pl} (t : Tog L p q) : S p q := by
  induction t with
  | refl p => exact hr p
  | link x p q hx hp hq => exact hl x hx p q hp hq
  | symm p q _ ih => exact hs _ _ ih
  | trans p q r _ _ ih1 ih2 => exact ht _ _ _ ih1 ih2
  | between s i k j h1 h2 _ ih => exact hb s i k j h1 h2 ih
/-- The In spans lie one behind the other, from s to n. -/
def Tiles : Nat → List NC → Nat → Prop
  | s, [], n => s = n
  | s, x :: l, n => x.a = s ∧ x.a < x.b ∧ Tiles x.b l n
theorem Tiles.le : ∀ {l : List NC} {s n : Nat}, Tiles s l n → s ≤ n
  | [], _, _, h => Nat.le_of_eq h
  | x :: l, s, n, ⟨h1, h2, h3⟩ => by have := Tiles.le h3; omega
theorem Tiles.from_ : ∀ {l : List NC} {s n : Nat}, Tiles s l n → ∀ x ∈ l, s ≤ x.a ∧ x.a < x.b ∧ x.b ≤ n
  | x :: l, s, n, ⟨h1, h2, h3⟩, y, hy => by
    rcases List.mem_cons.1 hy with rfl | hy
    · have := Tiles.le h3; omega
    · have := Tiles.from_ h3 y hy; omega
/-- The finest map of n to m by links: In tiles, no Out is empty, and places are together just where they lie in one cluster. -/
structure Finest (L : List NC) (s n m : Nat) (l : List NC) : Prop where
  tiles : Tiles s l n
  out : ∀ x ∈ l, x.c < x.d ∧ x.d ≤ m
  tog : ∀ i, s ≤ i → i < n → ∀ q : Pl, (if q.1 = true then q.2 < m else s ≤ q.2 ∧ q.2 < n) → (Tog L (false, i) q ↔ ∃ x ∈ l, x.has (false, i) ∧ x.has q)
theorem span_eq {a b c d : Nat} (h1 : a < b) (h2 : c < d) (h : ∀ k, (a ≤ k ∧ k < b) ↔ (c ≤ k ∧ k < d)) : a = c ∧ b = d := by
  have e1 := (h a).1 ⟨Nat.le_refl _, h1⟩
  have e2 := (h c).2 ⟨Nat.le_refl _, h2⟩
  have e3 := (h (b - 1)).1 ⟨by omega, by omega⟩
  have e4 := (h (d - 1)).2 ⟨by omega, by omega⟩
  omega
theorem Finest.head {L : List NC} {s n m : Nat} {x : NC} {l : List NC} (h : Finest L s n m (x :: l)) {q : Pl} (hq : if q.1 = true then q.2 < m else s ≤ q.2 ∧ q.2 < n) : Tog L (false, s) q ↔ x.has q := by
  obtain ⟨e1, e2, e3⟩ := h.tiles
  have hle := Tiles.le e3
  rw [h.tog s (Nat.le_refl _) (by omega) q hq]
  constructor
  · rintro ⟨y, hy, hs, hyq⟩
    rcases List.mem_cons.1 hy with rfl | hy
    · exact hyq
    · have := Tiles.from_ e3 y hy
      have hs' : y.a ≤ s ∧ s < y.b := hs
      omega
  · intro hx
    exact ⟨x, List.mem_cons_self .., (show x.a ≤ s ∧ s < x.b by omega), hx⟩
theorem Finest.tail {L : List NC} {s n m : Nat} {x : NC} {l : List NC} (h : Finest L s n m (x :: l)) : Finest L x.b n m l := by
  obtain ⟨e1, e2, e3⟩ := h.tiles
  refine ⟨e3, fun y hy => h.out y (List.mem_cons_of_mem _ hy), fun i hi hin q hq => ?_⟩
  rw [h.tog i (by omega) hin q (by
    split at hq
    · rw [if_pos (by assumption)]; exact hq
    · rw [if_neg (by assumption)]; omega)]
  constructor
  · rintro ⟨y, hy, h1, h2⟩
    rcases List.mem_cons.1 hy with rfl | hy
    · have : y.a ≤ i ∧ i < y.b := h1
      omega
    · exact ⟨y, hy, h1, h2⟩
  · rintro ⟨y, hy, h1, h2⟩
    exact ⟨y, List.mem_cons_of_mem _ hy, h1, h2⟩
/-- There is one such list at most. -/
theorem Finest.only {L : List NC} {m : Nat} : ∀ {l k : List NC} {s n : Nat}, Finest L s n m l → Finest L s n m k → l = k
  | [], [], _, _, _, _ => rfl
  | [], y :: k, s, n, h, h' => by
    have e : s = n := h.tiles
    obtain ⟨e1, e2, e3⟩ := h'.tiles
    have := Tiles.le e3
    omega
  | x :: l, [], s, n, h, h' => by
    have e : s = n := h'.tiles
    obtain ⟨e1, e2, e3⟩ := h.tiles
    have := Tiles.le e3
    omega
  | x :: l, y :: k, s, n, h, h' => by
    obtain ⟨e1, e2, e3⟩ := h.tiles
    obtain ⟨f1, f2, f3⟩ := h'.tiles
    have hx := h.out x (List.mem_cons_self ..)
    have hy := h'.out y (List.mem_cons_self ..)
    have hle := Tiles.le e3
    have hle' := Tiles.le f3
    have hin : ∀ k, (x.a ≤ k ∧ k < x.b) ↔ (y.a ≤ k ∧ k < y.b) := fun k => by
      by_cases hk : s ≤ k ∧ k < n
      · have a1 := h.head (q := (false, k)) hk
        have a2 := h'.head (q := (false, k)) hk
        exact a1.symm.trans a2
      · omega
    have hout : ∀ k, (x.c ≤ k ∧ k < x.d) ↔ (y.c ≤ k ∧ k < y.d) := fun k => by
      by_cases hk : k < m
      · have a1 := h.head (q := (true, k)) hk
        have a2 := h'.head (q := (true, k)) hk
        exact a1.symm.trans a2
      · omega
    obtain ⟨g1, g2⟩ := span_eq e2 f2 hin
    obtain ⟨g3, g4⟩ := span_eq hx.1 hy.1 hout
    have hxy : x = y := by
      obtain ⟨xa, xb, xc, xd⟩ := x
      obtain ⟨ya, yb, yc, yd⟩ := y
      simp only at g1 g2 g3 g4
      rw [g1, g2, g3, g4]
    subst hxy
    rw [Finest.only h.tail h'.tail]
end Go.Proofs.YtcbiaeeifclieaaGreatDoor
