/- Texts of one claim, one behind the other. -/
import Derived.Test.YtbnjflkafdkcpaaRows
import Derived.WalkKit
import Derived.WalkSpells
import Derived.WalkLawsBesides
import Derived.Handy
import Derived.Below
import Derived.Laws.OwnMore
import Derived.Deep.AppendLies
import Derived.Deep.Draws
import Derived.Laws.Rows
import Derived.Maps.AppendAt
import Derived.RegionTactic
import Derived.OwnWalk
import Derived.Deep.QuietTactic
import Derived.BigQuiet
import Derived.Lib.Hide
import Derived.Deep.LoopGhost
/- Words for memory that all later texts share: a slice that reads as a list, blocks, appends (after the guide's own page of words), and small facts on endings. -/
namespace Go.Proofs.Ytbnjflkafdkcpaa
open Go.RowKit

theorem blockAdd (a : Addr) (n : Nat) : (a.add n).block = a.block := by unfold Addr.add; split <;> rfl
theorem addAdd (a : Addr) (i j : Nat) : (a.add i).add j = a.add (i + j) := by
  unfold Addr.add
  by_cases hi : i = 0 <;> by_cases hj : j = 0 <;> simp [hi, hj, Nat.add_assoc]

/-- In world w the slice value with address A and length n reads as the cells xs ('size' cells an element), all in memory that is there. -/
def Rd (w : World) (size : Nat) (A : Option Addr) (n : Nat) (xs : List Value) : Prop :=
  xs.length = n * size ∧ (0 < n → ∃ ad, A = some ad ∧ ad.block < w.heap.size ∧ ∀ j u, xs[j]? = some u → w.cell? (ad.add j) = some u)

section
variable {w w' : World} {size n : Nat} {A : Option Addr} {xs : List Value}
theorem Rd.nil_ : Rd w size A 0 [] := ⟨by simp, fun h => absurd h (by omega)⟩
theorem Rd.len1 (h : Rd w 1 A n xs) : xs.length = n := by have := h.1; omega
theorem Rd.at_ {k : Nat} (h : Rd w 1 A n xs) (hk : k < n) : ∃ ad, A = some ad ∧ ad.block < w.heap.size ∧ ∀ u, xs[k]? = some u → w.cell? (ad.add k) = some u := by
  obtain ⟨ad, e, hb, hc⟩ := h.2 (by omega)
  exact ⟨ad, e, hb, fun u hu => hc k u hu⟩
theorem Rd.below (h : Rd w size A n xs) (hb : Below w.heap.size w w') : Rd w' size A n xs :=
  ⟨h.1, fun hn => by
    obtain ⟨ad, e, hlt, hc⟩ := h.2 hn
    exact ⟨ad, e, Nat.lt_of_lt_of_le hlt hb.size, fun j u hu => (hb.cell (by rw [blockAdd]; exact hlt)).trans (hc j u hu)⟩⟩
theorem Rd.drewN (h : Rd w size A n xs) (k : Nat) : Rd (w.drewN k) size A n xs := h
theorem Rd.alloc (h : Rd w size A n xs) (o : Obj) : Rd (w.alloc o) size A n xs := h.below ((Below.refl _ _).alloc (Nat.le_refl _) o)
/-- A cut 's[k:]'. -/
theorem Rd.cut (h : Rd w size A n xs) {k cap : Nat} (hk : k ≤ n) (hc : n ≤ cap) :
    Rd w size (if cap = k then A else A.map (·.add (k * size))) (n - k) (xs.drop (k * size)) := by
  refine ⟨by rw [List.length_drop, h.1, Nat.sub_mul], fun hn => ?_⟩
  obtain ⟨ad, rfl, hb, hcell⟩ := h.2 (by omega)
  rw [if_neg (by omega)]
  refine ⟨ad.add (k * size), rfl, by rw [blockAdd]; exact hb, fun j u hu => ?_⟩
  rw [addAdd]
  exact hcell _ u (by rw [← hu, List.getElem?_drop])
theorem Rd.of_own {base : Nat} {e : TypeId} {c : Nat} (h : w.ownsRow base e size (.slice A n c) n xs) : Rd w size A n xs := by
  refine ⟨h.1, fun hn => ?_⟩
  obtain ⟨g, cap, hv, _, hlt⟩ := h.form hn
  have hA : A = some ⟨g, 0, none⟩ := by injection hv
  subst hA
  exact ⟨_, rfl, hlt, h.cells (g := g) rfl⟩
end

theorem Rd.news {w : World} {size n : Nat} {ad : Addr} {xs : List Value} (h : Rd w size (some ad) n xs) : ∀ j u, xs[j]? = some u → w.cell? (ad.add j) = some u := by
  intro j u hu
  rcases Nat.eq_zero_or_pos n with h0 | h0
  · subst h0
    have hn : xs = [] := List.eq_nil_of_length_eq_zero (by simpa using h.1)
    subst hn
    simp at hu
  · obtain ⟨ad', e, _, hc⟩ := h.2 h0
    injection e with e
    subst e
    exact hc j u hu
/-- What a row of the call's own looks like as a value: a slice of that length. -/
theorem own_form {w : World} {base : Nat} {e : TypeId} {size : Nat} {v : Value} {n : Nat} {xs : List Value} (h : w.ownsRow base e size v n xs) : ∃ A c, v = .slice A n c ∧ n ≤ c := by
  rcases h.2 with ⟨rfl, rfl⟩ | ⟨g, cap, cur, rfl, _, _, hnc, _⟩
  · exact ⟨none, 0, rfl, Nat.le_refl _⟩
  · exact ⟨_, _, rfl, hnc⟩

/-- The slice type T has elements of type E, of so many cells and bytes. -/
def SliceOf (P : Program) (T E : TypeId) (size bytes : Nat) : Prop :=
  P.underlying T = some (.slice E) ∧ ∃ i z, P.info? E = some i ∧ i.zero = some z ∧ i.size = size ∧ i.bytes = bytes ∧ z.cells.size = size
theorem SliceOf.mk_ {P : Program} {T E : TypeId} {size bytes : Nat} {z : Value} (h : P.underlying T = some (.slice E)) (hi : (P.info? E).map (fun i => (i.zero, i.size, i.bytes)) = some (some z, size, bytes)) (hz : z.cells.size = size) : SliceOf P T E size bytes := by
  obtain ⟨i, h1, h2, h3, h4⟩ := info_parts hi
  exact ⟨h, i, z, h1, h2, h3, h4, hz⟩

/-- append onto a row of the call's own, the source at an address. -/
theorem wpList_app {P : Program} {w : World} {ops : Array Oper} {rest : List Oper} {o : Oper} {a : Act} {Q : Exit → Act → World → Prop} (hgd : o.guard = none) (s x : Operand) (t : TypeId)
    (ho : o.op = .call { callee := .builtin .append, args := #[s, x], argTypes := #[t, t] })
    {base : Nat} {e : TypeId} {size bytes : Nat} (S : SliceOf P t e size bytes) (hsz : 0 < size)
    (v : Value) (n : Nat) (xs : List Value) (hs : a.eval s = v) (hown : w.ownsRow base e size v n xs)
    (ad : Addr) (m c : Nat) (news : List Value) (hx : a.eval x = .slice (some ad) m c) (hl : news.length = m * size) (hnews : ∀ j u, news[j]? = some u → w.cell? (ad.add j) = some u) (h1 : ∀ u ∈ news, u.oneCell' = true)
    (hbytes : (n + m) * bytes ≤ 140737488355328) (h63 : n + m ≤ maxLen) (hbase : base ≤ w.heap.size)
    (h : ∀ v' w', w'.ownsRow base e size v' (n + m) (xs ++ news) → w.grownBy w' v.ownBlock → (v'.ownBlock = v.ownBlock ∨ v'.ownBlock = some w.heap.size) → wpList P ops Q rest (a.put o.dst v') w') :
    wpList P ops Q (o :: rest) a w := by
  obtain ⟨ht, i, z, hi, hz, hs1, hb1, hzs⟩ := S
  exact wpList_append_own_at w hgd s x t ho base e i z size bytes ht hi hz hs1 hb1 hzs hsz v n xs hs hown ad m c news hx hl hnews h1 h63 hbytes hbase (fun v' w' a1 a2 _ a4 => h v' w' a1 a2 a4)

theorem run_app_nil {P : Program} (w : World) (base : Nat) (t ty e : TypeId) (size bytes : Nat) (S : SliceOf P t e size bytes)
    (v : Value) (n : Nat) (xs : List Value) (hown : w.ownsRow base e size v n xs) (c : Nat) : (Builtin.append_ #[t, t] ty #[v, .slice none 0 c]).run P w = .ok v w := by
  obtain ⟨ht, i, z, hi, hz, hs1, hb1, hzs⟩ := S
  rcases hown.2 with ⟨rfl, rfl⟩ | ⟨g, cap, cur, rfl, _, _, hnc, _⟩
  · simp [Builtin.append_, run_underlying ht, sizeOf, typeInfo, hi, Builtin.lenOf, Builtin.firstCells]
  · simp [Builtin.append_, run_underlying ht, sizeOf, typeInfo, hi, Builtin.lenOf, Builtin.firstCells, hnc, storeCells]

/-- append onto a row of the call's own, the source any slice that reads as 'news', nil too. -/
theorem wpList_appR {P : Program} {w : World} {ops : Array Oper} {rest : List Oper} {o : Oper} {a : Act} {Q : Exit → Act → World → Prop} (hgd : o.guard = none) (s x : Operand) (t : TypeId)
    (ho : o.op = .call { callee := .builtin .append, args := #[s, x], argTypes := #[t, t] })
    {base : Nat} {e : TypeId} {size bytes : Nat} (S : SliceOf P t e size bytes) (hsz : 0 < size)
    (v : Value) (n : Nat) (xs : List Value) (hs : a.eval s = v) (hown : w.ownsRow base e size v n xs)
    (A : Option Addr) (m c : Nat) (news : List Value) (hx : a.eval x = .slice A m c) (hr : Rd w size A m news) (h1 : ∀ u ∈ news, u.oneCell' = true)
    (hbytes : (n + m) * bytes ≤ 140737488355328) (h63 : n + m ≤ maxLen) (hbase : base ≤ w.heap.size)
    (h : ∀ v' w', w'.ownsRow base e size v' (n + m) (xs ++ news) → w.grownBy w' v.ownBlock → (v'.ownBlock = v.ownBlock ∨ v'.ownBlock = some w.heap.size) → wpList P ops Q rest (a.put o.dst v') w') :
    wpList P ops Q (o :: rest) a w := by
  rcases A with _ | ad
  · have hm : m = 0 := by
      rcases Nat.eq_zero_or_pos m with h0 | h0
      · exact h0
      · obtain ⟨_, e, _⟩ := hr.2 h0
        cases e
    subst hm
    have hn : news = [] := List.eq_nil_of_length_eq_zero (by simpa using hr.1)
    subst hn
    have hrun := run_app_nil (P := P) w base t o.type e size bytes S v n xs hown c
    refine wpList_plain hgd fun K hK => ?_
    unfold Oper.wp execOp
    simp only [ho, resolve, invoke, builtin, Sem.run_bind, Sem.run_pure, Result.andThen_ok, List.map_toArray, List.map_cons, List.map_nil, hs, hx, hrun]
    exact hK _ _ (h v w (by simpa using hown) (World.grownBy.refl w _) (.inl rfl))
  · exact wpList_app hgd s x t ho S hsz v n xs hs hown ad m c news hx hr.1 hr.news h1 hbytes h63 hbase h

/-- make([]T, 0, n). -/
theorem wpList_mk {P : Program} {w : World} {ops : Array Oper} {rest : List Oper} {o : Oper} {a : Act} {Q : Exit → Act → World → Prop}
    (hg : o.guard = none) (l c : Operand) (t : TypeId) (hop : o.op = Op.makeSlice t l c)
    {base : Nat} {e : TypeId} {size bytes : Nat} (S : SliceOf P t e size bytes)
    {kl kc : IntKind} (C : Int) (n : Nat) (hl : a.eval l = .int kl 0) (hc : a.eval c = .int kc C) (hC : C = (n : Int)) (b2 : bytes * n ≤ 281474976710656) (b3 : n ≤ maxLen) (b4 : base ≤ w.heap.size)
    (hK : ∀ v' w', w'.ownsRow base e size v' 0 [] → w.grownBy w' none → wpList P ops Q rest (a.put o.dst v') w') :
    wpList P ops Q (o :: rest) a w := by
  obtain ⟨ht, i, z, hi, hz, hs1, hb1, hzs⟩ := S
  exact wpList_make_own w hg l c t hop base e i z size ht hi hz hs1 kl kc C n hl hc hC (by rw [hb1]; exact b2) b3 b4 (fun w' a1 a2 => hK _ w' a1 a2)

/-- make([]T, n), T of one cell. -/
theorem wpList_mkFull {P : Program} {w : World} {ops : Array Oper} {rest : List Oper} {o : Oper} {a : Act} {Q : Exit → Act → World → Prop}
    (hg : o.guard = none) (l c : Operand) (t : TypeId) (hop : o.op = Op.makeSlice t l c)
    {base : Nat} {e : TypeId} {bytes : Nat} {z : Value} (ht : P.underlying t = some (.slice e)) (hin : (P.info? e).map (fun i => (i.zero, i.size, i.bytes)) = some (some z, 1, bytes)) (hz : z.cells = #[z])
    {kl kc : IntKind} (L C : Int) (n : Nat) (hl : a.eval l = .int kl L) (hc : a.eval c = .int kc C) (hL : L = (n : Int)) (hC : C = (n : Int)) (b2 : bytes * n ≤ 281474976710656) (b3 : n ≤ maxLen) (b4 : base ≤ w.heap.size)
    (hK : ∀ w', w'.ownsRow base e 1 (.slice (some ⟨w.heap.size, 0, none⟩) n n) n (List.replicate n z) → w.grownBy w' none → wpList P ops Q rest (a.put o.dst (.slice (some ⟨w.heap.size, 0, none⟩) n n)) w') :
    wpList P ops Q (o :: rest) a w := by
  obtain ⟨i, h1, h2, h3, h4⟩ := info_parts hin
  refine wpList_make_full w hg l c t hop base e i z 1 ht h1 h2 h3 kl kc L C n hl hc hL hC (by rw [h4]; exact b2) b3 b4 (fun w' a1 a2 => hK w' ?_ a2)
  rw [hz, Nat.mul_one, toList_madeCells_one] at a1
  exact a1

theorem addNew (g j : Nat) : (⟨g, 0, none⟩ : Addr).add j = ⟨g, j, none⟩ := by
  unfold Addr.add
  split
  · rename_i h; subst h; rfl
  · simp
/-- The cells of a new block. -/
theorem cells_new (w : World) (cs : List Value) (t : TypeId) : ∀ j u, cs[j]? = some u → (w.alloc (.cells cs.toArray t)).cell? ((⟨w.heap.size, 0, none⟩ : Addr).add j) = some u := by
  intro j u hj
  rw [addNew, World.cell?_alloc_at _ _ _ _ rfl]
  simpa using hj

theorem Rd.new_ (w : World) (cs : List Value) (t : TypeId) : Rd (w.alloc (.cells cs.toArray t)) 1 (some ⟨w.heap.size, 0, none⟩) cs.length cs :=
  ⟨by simp, fun _ => ⟨_, rfl, by simp, cells_new w cs t⟩⟩
theorem cell_lt {w : World} {a : Addr} {v : Value} (h : w.cell? a = some v) : a.block < w.heap.size := by
  unfold World.cell? at h
  rcases Nat.lt_or_ge a.block w.heap.size with hlt | hge
  · exact hlt
  · rw [Array.getElem?_eq_none hge] at h; cases h
theorem cell_below {w w' : World} {a : Addr} {v : Value} (hb : Below w.heap.size w w') (h : w.cell? a = some v) : w'.cell? a = some v := (hb.cell (cell_lt h)).trans h
theorem below_self {w a b : World} (h : Below w.heap.size w a) (k : Below a.heap.size a b) : Below w.heap.size w b := h.trans (k.mono h.size)
theorem below_new (w : World) (o : Obj) : Below w.heap.size w (w.alloc o) := (Below.refl _ _).alloc (Nat.le_refl _) o
theorem below_drew {w a : World} (h : Below w.heap.size w a) (n : Nat) : Below w.heap.size w (a.drewN n) := ⟨h.os, h.tape, h.output, h.size, h.block⟩
theorem oneInt (k : IntKind) (x : Int) : ∀ u ∈ [Value.int k x], u.oneCell' = true := by
  intro u hu
  simp at hu
  subst hu
  rfl
theorem oneInt2 (k : IntKind) (x y : Int) : ∀ u ∈ [Value.int k x, .int k y], u.oneCell' = true := by
  intro u hu
  simp at hu
  rcases hu with rfl | rfl <;> rfl
theorem oneInts (k : IntKind) (xs : List Int) : ∀ u ∈ xs.map (Value.int k), u.oneCell' = true := by
  intro u hu
  simp at hu
  obtain ⟨x, _, rfl⟩ := hu
  rfl
/-- A row below which all stood is told of what it was of. -/
theorem ownBlock_slice (A : Option Addr) (n c k : Nat) (h : (Value.slice A n c).ownBlock = some k) : ∃ a, A = some a ∧ a.block = k := by
  rcases A with _ | a
  · cases h
  · exact ⟨a, rfl, by injection h⟩
theorem below_app {B : Nat} {w0 w w' : World} {e : TypeId} {size n : Nat} {v : Value} {xs : List Value} (h : Below B w0 w) (hg : w.grownBy w' v.ownBlock) (hown : w.ownsRow B e size v n xs) (hB : B ≤ w.heap.size) : Below B w0 w' :=
  h.grown hg hB (fun k hk => (hown.lt k hk).1)

theorem retB {a b : Bool} (h : a = true ↔ b = true) : Ending.returned (.bool a) = .returned (.bool b) := by rw [Bool.eq_iff_iff.2 h]
theorem retI {a b : Int} (h : a = b) : Ending.returned (.int .i64 a) = .returned (.int .i64 b) := by rw [h]
theorem drewBelow {w : World} (n : Nat) : Below w.heap.size w (w.drewN n) := ⟨rfl, rfl, rfl, Nat.le_refl _, fun _ _ => rfl⟩
theorem below_drewN {B : Nat} {a w : World} (h : Below B a w) (n : Nat) : Below B a (w.drewN n) := ⟨h.os, h.tape, h.output, h.size, h.block⟩
end Go.Proofs.Ytbnjflkafdkcpaa
/- Spans as data: what a span is, the cells of a slice of spans; no function of the program. -/
namespace Go.Proofs.Ytbnjflkafdkcpaa
open Go.RowKit

abbrev Sp := Int × Int
def rightB (s : Sp) : Bool := decide (0 ≤ s.1 ∧ s.1 < s.2)
def sizeS (s : Sp) : Int := if rightB s = true then s.2 - s.1 else 0
def hasB (s : Sp) (at_ : Int) : Bool := decide (s.1 ≤ at_ ∧ at_ < s.2)
def encS (s : Sp) : List Value := [.int .i64 s.1, .int .i64 s.2]
def cellsS (l : List Sp) : List Value := l.flatMap encS
def valS (s : Sp) : Value := .agg #[.int .i64 s.1, .int .i64 s.2]
def Fit (x : Int) : Prop := -9223372036854775808 ≤ x ∧ x ≤ 9223372036854775807

theorem cellsS_len (l : List Sp) : (cellsS l).length = l.length * 2 := by
  induction l with
  | nil => rfl
  | cons s l ih =>
    show (encS s ++ cellsS l).length = _
    rw [List.length_append, ih, List.length_cons]
    simp only [encS, List.length_cons, List.length_nil]
    omega
theorem cellsS_at {l : List Sp} {k : Nat} {s : Sp} (h : l[k]? = some s) : (cellsS l)[k * 2]? = some (.int .i64 s.1) ∧ (cellsS l)[k * 2 + 1]? = some (.int .i64 s.2) := by
  induction l generalizing k with
  | nil => simp at h
  | cons t l ih =>
    have hc : cellsS (t :: l) = .int .i64 t.1 :: .int .i64 t.2 :: cellsS l := rfl
    cases k with
    | zero =>
      simp at h
      subst h
      exact ⟨rfl, rfl⟩
    | succ k =>
      have := ih (k := k) (by simpa using h)
      rw [hc]
      have e1 : (k + 1) * 2 = k * 2 + 1 + 1 := by omega
      have e2 : (k + 1) * 2 + 1 = (k * 2 + 1) + 1 + 1 := by omega
      rw [e2, e1]
      simpa using this

theorem addNext (a : Addr) (j i : Nat) : a.add (j + (i + 1)) = ⟨(a.add j).block, (a.add j).off + (i + 1), none⟩ := by
  unfold Addr.add
  by_cases hj : j = 0
  · subst hj; simp
  · simp [hj]; omega
/-- The two cells of a span in a slice, as the walk spells them. -/
theorem Rd.span {w : World} {A : Option Addr} {n k : Nat} {l : List Sp} {s : Sp} (hr : Rd w 2 A n (cellsS l)) (h : l[k]? = some s) : ∃ ad, A = some ad ∧ ad.block < w.heap.size ∧ w.cell? (ad.add (k * 2)) = some (.int .i64 s.1) ∧ w.cell? ⟨(ad.add (k * 2)).block, (ad.add (k * 2)).off + 1, none⟩ = some (.int .i64 s.2) := by
  have hlen : l.length * 2 = n * 2 := by rw [← cellsS_len]; exact hr.1
  have hk := (List.getElem?_eq_some_iff.1 h).1
  obtain ⟨ad, rfl, hb, hc⟩ := hr.2 (by omega)
  obtain ⟨e1, e2⟩ := cellsS_at h
  refine ⟨ad, rfl, hb, hc _ _ e1, ?_⟩
  have := hc _ _ e2
  rwa [addNext ad (k * 2) 0] at this

end Go.Proofs.Ytbnjflkafdkcpaa
/- A base with its marks: groups; an order in which each that falls is turned. No function of the program. -/
namespace Go.Proofs.Ytbnjflkafdkcpaa
open Go.RowKit

/-- How far marks of a level go on. -/
def extA (ls : List Int) (ms : List Bool) (x : Int) : Nat → Nat → Nat
  | 0, j => j
  | f + 1, j => if j < ls.length ∧ ms.getD j false = true ∧ ls.getD j 0 = x then extA ls ms x f (j + 1) else j
def hiA (ls : List Int) (ms : List Bool) (i : Nat) : Nat := extA ls ms (ls.getD i 0) ls.length (i + 1)
/-- Whether a base with marks begins at a place, and goes from the right. -/
def isG (ls : List Int) (ms : List Bool) (i : Nat) : Bool := decide (ms.getD i false = false ∧ ls.getD i 0 % 2 ≠ 0 ∧ i + 1 < hiA ls ms i)
/-- The groups of the first places. -/
def grpA (ls : List Int) (ms : List Bool) : Nat → List Sp
  | 0 => []
  | i + 1 => if isG ls ms i = true then grpA ls ms i ++ [((i : Int), ((hiA ls ms i : Nat) : Int))] else grpA ls ms i
def grpF (ls : List Int) (ms : List Bool) : List Sp := if ls.length = ms.length then grpA ls ms ls.length else []
theorem ext_spec {ls : List Int} {ms : List Bool} {x : Int} : ∀ (f j : Nat), ls.length ≤ f + j → j ≤ ls.length →
    j ≤ extA ls ms x f j ∧ extA ls ms x f j ≤ ls.length ∧ (∀ k, j ≤ k → k < extA ls ms x f j → ms.getD k false = true ∧ ls.getD k 0 = x) ∧
    (extA ls ms x f j < ls.length → ¬ (ms.getD (extA ls ms x f j) false = true ∧ ls.getD (extA ls ms x f j) 0 = x))
  | 0, j, h, hj => by
    have : j = ls.length := by omega
    exact ⟨Nat.le_refl _, hj, fun k h1 h2 => by simp only [extA] at h2; omega, fun h1 => by simp only [extA] at h1; omega⟩
  | f + 1, j, h, hj => by
    rw [extA]
    by_cases hc : j < ls.length ∧ ms.getD j false = true ∧ ls.getD j 0 = x
    · rw [if_pos hc]
      obtain ⟨a, b, c, d⟩ := ext_spec (ls := ls) (ms := ms) (x := x) f (j + 1) (by omega) (by omega)
      refine ⟨by omega, b, fun k h1 h2 => ?_, d⟩
      by_cases e : k = j
      · subst e
        exact hc.2
      · exact c k (by omega) h2
    · rw [if_neg hc]
      exact ⟨Nat.le_refl _, hj, fun k h1 h2 => by omega, fun h1 h2 => hc ⟨h1, h2⟩⟩
/-- A group. -/
structure GrpOk (ls : List Int) (ms : List Bool) (a b : Nat) : Prop where
  lt : a + 1 < b
  le : b ≤ ls.length
  base : ms.getD a false = false
  odd : ls.getD a 0 % 2 ≠ 0
  marks : ∀ k, a < k → k < b → ms.getD k false = true ∧ ls.getD k 0 = ls.getD a 0
theorem isG_ok {ls : List Int} {ms : List Bool} {i : Nat} (hi : i < ls.length) (h : isG ls ms i = true) : GrpOk ls ms i (hiA ls ms i) := by
  have h := of_decide_eq_true h
  obtain ⟨a, b, c, _⟩ := ext_spec (ls := ls) (ms := ms) (x := ls.getD i 0) ls.length (i + 1) (by omega) hi
  exact ⟨h.2.2, b, h.1, h.2.1, fun k h1 h2 => c k h1 h2⟩
theorem grpA_mem {ls : List Int} {ms : List Bool} {s : Sp} : ∀ {i : Nat}, i ≤ ls.length → s ∈ grpA ls ms i → ∃ a, a < i ∧ s = ((a : Int), ((hiA ls ms a : Nat) : Int)) ∧ isG ls ms a = true
  | 0, _, h => by cases h
  | i + 1, hi, h => by
    rw [grpA] at h
    split at h
    · rename_i hg
      rcases List.mem_append.1 h with h | h
      · obtain ⟨a, h1, h2⟩ := grpA_mem (by omega) h
        exact ⟨a, by omega, h2⟩
      · rw [List.mem_singleton] at h
        exact ⟨i, by omega, h, hg⟩
    · obtain ⟨a, h1, h2⟩ := grpA_mem (by omega) h
      exact ⟨a, by omega, h2⟩
theorem grp_mem {ls : List Int} {ms : List Bool} {s : Sp} (h : s ∈ grpF ls ms) : ∃ a b : Nat, s = ((a : Int), (b : Int)) ∧ GrpOk ls ms a b := by
  unfold grpF at h
  split at h
  · obtain ⟨a, h1, h2, h3⟩ := grpA_mem (Nat.le_refl _) h
    exact ⟨a, _, h2, isG_ok h1 h3⟩
  · cases h
/-- Two groups that share a place are one. -/
theorem grp_one {ls : List Int} {ms : List Bool} {a b c d k : Nat} (h1 : GrpOk ls ms a b) (h2 : GrpOk ls ms c d) (ha : a ≤ k ∧ k < b) (hc : c ≤ k ∧ k < d) : a = c := by
  have hb1 := h1.base
  have hb2 := h2.base
  rcases Nat.lt_trichotomy a c with h | h | h
  · have := (h1.marks c h (by omega)).1
    rw [hb2] at this
    cases this
  · exact h
  · have := (h2.marks a h (by omega)).1
    rw [hb1] at this
    cases this
theorem grp_same {ls : List Int} {ms : List Bool} {s t : Sp} {v : Int} (hs : s ∈ grpF ls ms) (ht : t ∈ grpF ls ms) (h1 : s.1 ≤ v ∧ v < s.2) (h2 : t.1 ≤ v ∧ v < t.2) : s = t := by
  unfold grpF at hs ht
  split at hs
  · rename_i hl
    rw [if_pos hl] at ht
    obtain ⟨a, a1, rfl, a3⟩ := grpA_mem (Nat.le_refl _) hs
    obtain ⟨c, c1, rfl, c3⟩ := grpA_mem (Nat.le_refl _) ht
    simp only at h1 h2
    have := grp_one (k := v.toNat) (isG_ok a1 a3) (isG_ok c1 c3) (by omega) (by omega)
    subst this
    rfl
  · cases hs
/-- No marks: no groups. -/
theorem grpA_none {ls : List Int} {ms : List Bool} (h : ∀ k, ms.getD k false = false) : ∀ i, grpA ls ms i = []
  | 0 => rfl
  | i + 1 => by
    have hh : hiA ls ms i = i + 1 := by
      unfold hiA
      have : ∀ f j x, extA ls ms x f j = j := by
        intro f
        induction f with
        | zero => intro j x; rfl
        | succ f ih => intro j x; rw [extA, if_neg (by rw [h j]; simp)]
      exact this _ _ _
    rw [grpA, if_neg, grpA_none h i]
    unfold isG
    rw [hh]
    simp
theorem grp_none {ls : List Int} {ms : List Bool} (h : ∀ k, ms.getD k false = false) : grpF ls ms = [] := by
  unfold grpF
  split
  · exact grpA_none h _
  · rfl

/-- How long a group is. -/
def lenG (s : Sp) : Nat := (s.2 - s.1).toNat
/-- Whether a group's places stand from a place on, falling. -/
def fallB (o : List Int) (i : Nat) (s : Sp) : Bool := decide (i + lenG s ≤ o.length ∧ ∀ k, k < lenG s → o.getD (i + k) 0 = s.2 - 1 - (k : Int))
/-- They are put there, rising. -/
def riseS (o : List Int) (i : Nat) (lo : Int) : Nat → List Int
  | 0 => o
  | k + 1 => (riseS o i lo k).set (i + k) (lo + (k : Int))
theorem riseS_len (o : List Int) (i : Nat) (lo : Int) : ∀ k, (riseS o i lo k).length = o.length
  | 0 => rfl
  | k + 1 => by rw [riseS, List.length_set, riseS_len o i lo k]
theorem riseS_out {o : List Int} {i : Nat} {lo : Int} {j : Nat} : ∀ {k : Nat}, ¬ (i ≤ j ∧ j < i + k) → (riseS o i lo k)[j]? = o[j]?
  | 0, _ => rfl
  | k + 1, h => by rw [riseS, List.getElem?_set_ne (by omega), riseS_out (by omega)]
theorem riseS_in {o : List Int} {i : Nat} {lo : Int} {j : Nat} : ∀ {k : Nat}, i ≤ j → j < i + k → j < o.length → (riseS o i lo k)[j]? = some (lo + ((j - i : Nat) : Int))
  | 0, h1, h2, _ => by omega
  | k + 1, h1, h2, h3 => by
    rw [riseS]
    by_cases e : i + k = j
    · subst e
      rw [List.getElem?_set_self (by rw [riseS_len]; exact h3), Nat.add_sub_cancel_left]
    · rw [List.getElem?_set_ne e, riseS_in h1 (by omega) h3]
/-- One group, looked for from the first place on. -/
def accS (o : List Int) (s : Sp) : Nat → List Int → List Int
  | 0, out => out
  | i + 1, out => if fallB o i s = true then riseS (accS o s i out) i s.1 (lenG s) else accS o s i out
theorem accS_len (o : List Int) (s : Sp) (out : List Int) : ∀ i, (accS o s i out).length = out.length
  | 0 => rfl
  | i + 1 => by
    rw [accS]
    split
    · rw [riseS_len, accS_len o s out i]
    · exact accS_len o s out i
def accF (o : List Int) (G : List Sp) : List Int := G.foldl (fun out s => accS o s o.length out) o
/-- Whether a number is of a group that falls. -/
def hitA (o : List Int) (s : Sp) (v : Int) : Bool := decide (s.1 ≤ v ∧ v < s.2) && (List.range o.length).any fun i => fallB o i s
/-- What becomes of a number. -/
def turV (o : List Int) (G : List Sp) (v : Int) : Int := G.foldl (fun r s => if hitA o s v = true then s.1 + s.2 - 1 - v else r) v
theorem fall_at {o : List Int} {i k : Nat} {s : Sp} (h : fallB o i s = true) (hk : k < lenG s) : o[i + k]? = some (s.2 - 1 - (k : Int)) := by
  obtain ⟨h1, h2⟩ := of_decide_eq_true h
  have := h2 k hk
  rw [List.getD_eq_getElem?_getD, List.getElem?_eq_getElem (by omega)] at this
  rw [List.getElem?_eq_getElem (by omega)]
  exact congrArg some this
theorem nodup_at {o : List Int} (hn : o.Nodup) {i j : Nat} {v : Int} (h1 : o[i]? = some v) (h2 : o[j]? = some v) : i = j := by
  have hi := (List.getElem?_eq_some_iff.1 h1)
  have hj := (List.getElem?_eq_some_iff.1 h2)
  obtain ⟨a, b⟩ := hi
  obtain ⟨c, d⟩ := hj
  exact (List.getElem_inj hn).1 (b.trans d.symm)
/-- A group that falls, put up to place m. -/
theorem accS_at {o : List Int} (hn : o.Nodup) {s : Sp} {out : List Int} (hl : out.length = o.length) {j : Nat} {v : Int} (hv : o[j]? = some v) : ∀ m, m ≤ o.length → (accS o s m out)[j]? = if s.1 ≤ v ∧ v < s.2 ∧ (∃ i, i < m ∧ fallB o i s = true) then some (s.1 + s.2 - 1 - v) else out[j]?
  | 0, _ => by
    rw [if_neg (by rintro ⟨_, _, i, hi, _⟩; omega)]
    rfl
  | m + 1, hm => by
    have ih := accS_at hn (s := s) hl hv m (by omega)
    have hj := (List.getElem?_eq_some_iff.1 hv).1
    rw [accS]
    by_cases hf : fallB o m s = true
    · rw [if_pos hf]
      by_cases hin : s.1 ≤ v ∧ v < s.2
      · rw [if_pos ⟨hin.1, hin.2, m, by omega, hf⟩]
        have hk : (s.2 - 1 - v).toNat < lenG s := by unfold lenG; omega
        have h1 := fall_at hf hk
        have h2 : s.2 - 1 - (((s.2 - 1 - v).toNat : Nat) : Int) = v := by omega
        rw [h2] at h1
        have h3 := nodup_at hn hv h1
        rw [riseS_in (by omega) (by omega) (by rw [accS_len]; omega)]
        congr 1
        omega
      · rw [if_neg (by rintro ⟨a, b, _⟩; exact hin ⟨a, b⟩)]
        have hno : ¬ (m ≤ j ∧ j < m + lenG s) := by
          rintro ⟨a, b⟩
          have h1 := fall_at hf (k := j - m) (by omega)
          rw [show m + (j - m) = j by omega, hv] at h1
          have h2 := Option.some.inj h1
          apply hin
          unfold lenG at b
          omega
        rw [riseS_out hno, ih, if_neg (by rintro ⟨a, b, _⟩; exact hin ⟨a, b⟩)]
    · rw [if_neg hf, ih]
      congr 1
      apply propext
      constructor
      · rintro ⟨a, b, i, c, d⟩; exact ⟨a, b, i, by omega, d⟩
      · rintro ⟨a, b, i, c, d⟩
        refine ⟨a, b, i, ?_, d⟩
        rcases Nat.lt_or_ge i m with h | h
        · exact h
        · rw [show i = m by omega] at d
          exact absurd d hf
theorem accS_hit {o : List Int} (hn : o.Nodup) {s : Sp} {out : List Int} (hl : out.length = o.length) {j : Nat} {v : Int} (hv : o[j]? = some v) : (accS o s o.length out)[j]? = if hitA o s v = true then some (s.1 + s.2 - 1 - v) else out[j]? := by
  rw [accS_at hn hl hv o.length (Nat.le_refl _)]
  congr 1
  apply propext
  unfold hitA
  rw [Bool.and_eq_true, decide_eq_true_eq, List.any_eq_true]
  constructor
  · rintro ⟨a, b, i, c, d⟩; exact ⟨⟨a, b⟩, i, by simpa using c, d⟩
  · rintro ⟨⟨a, b⟩, i, c, d⟩; exact ⟨a, b, i, by simpa using c, d⟩
theorem acc_at {o : List Int} (hn : o.Nodup) {j : Nat} {v : Int} (hv : o[j]? = some v) : ∀ (G : List Sp) (out : List Int) (r : Int), out.length = o.length → out[j]? = some r → (G.foldl (fun out s => accS o s o.length out) out)[j]? = some (G.foldl (fun r s => if hitA o s v = true then s.1 + s.2 - 1 - v else r) r)
  | [], _, _, _, h => h
  | s :: G, out, r, hl, h => by
    rw [List.foldl_cons, List.foldl_cons]
    refine acc_at hn hv G _ _ (by rw [accS_len]; exact hl) ?_
    rw [accS_hit hn hl hv]
    split
    · rfl
    · exact h
theorem acc_len (o : List Int) : ∀ (G : List Sp) (out : List Int), out.length = o.length → (G.foldl (fun out s => accS o s o.length out) out).length = o.length
  | [], _, h => h
  | s :: G, out, h => by rw [List.foldl_cons]; exact acc_len o G _ (by rw [accS_len]; exact h)
/-- All groups are turned: number by number. -/
theorem acc_map {o : List Int} (hn : o.Nodup) (G : List Sp) : accF o G = o.map (turV o G) := by
  apply List.ext_getElem?
  intro j
  by_cases hj : j < o.length
  · have hv : o[j]? = some o[j] := List.getElem?_eq_getElem hj
    rw [List.getElem?_map, hv, Option.map_some]
    exact acc_at hn hv G o _ rfl hv
  · rw [List.getElem?_eq_none (by unfold accF; rw [acc_len o G o rfl]; omega), List.getElem?_eq_none (by simpa using hj)]
theorem tur_none {o : List Int} {v : Int} : ∀ (G : List Sp) (r : Int), (∀ s ∈ G, hitA o s v = false) → G.foldl (fun r s => if hitA o s v = true then s.1 + s.2 - 1 - v else r) r = r
  | [], _, _ => rfl
  | s :: G, r, h => by
    rw [List.foldl_cons, if_neg (by rw [h s (by simp)]; decide)]
    exact tur_none G r fun t ht => h t (by simp [ht])
theorem tur_some {o : List Int} {v : Int} {s : Sp} (hs : hitA o s v = true) : ∀ (G : List Sp) (r : Int), (∀ t ∈ G, hitA o t v = true → t = s) → (s ∈ G ∨ r = s.1 + s.2 - 1 - v) → G.foldl (fun r s => if hitA o s v = true then s.1 + s.2 - 1 - v else r) r = s.1 + s.2 - 1 - v
  | [], r, _, h => by
    rcases h with h | h
    · cases h
    · exact h
  | t :: G, r, hall, h => by
    rw [List.foldl_cons]
    by_cases ht : hitA o t v = true
    · rw [if_pos ht]
      have := hall t (by simp) ht
      subst this
      exact tur_some hs G _ (fun u hu => hall u (by simp [hu])) (.inr rfl)
    · rw [if_neg ht]
      refine tur_some hs G r (fun u hu => hall u (by simp [hu])) (h.imp (fun hm => ?_) id)
      rcases List.mem_cons.1 hm with e | hm
      · subst e
        exact absurd hs ht
      · exact hm
end Go.Proofs.Ytbnjflkafdkcpaa
/- Orders as mathematics: parts turned round, level by level; what each place's inverse is. No function of the program. -/
namespace Go.Proofs.Ytbnjflkafdkcpaa
open Go.RowKit

/-- Each longest part whose places are so, turned round: what stands ahead is kept, the last one first. -/
def revR {α : Type} (p : α → Bool) : List α → List α → List α
  | acc, [] => acc
  | acc, x :: l => if p x = true then revR p (x :: acc) l else acc ++ x :: revR p [] l
theorem revR_perm {α : Type} (p : α → Bool) : ∀ (l acc : List α), (revR p acc l).Perm (acc ++ l)
  | [], acc => by simp [revR]
  | x :: l, acc => by
    rw [revR]
    split
    · exact (revR_perm p l (x :: acc)).trans (by simpa using (List.perm_middle (a := x) (l₁ := acc) (l₂ := l)).symm)
    · exact List.Perm.append_left acc ((revR_perm p l []).cons x)
theorem revR_all {α : Type} {p : α → Bool} : ∀ (l acc : List α), (∀ x ∈ l, p x = true) → revR p acc l = l.reverse ++ acc
  | [], acc, _ => rfl
  | x :: l, acc, h => by
    rw [revR, if_pos (h x (by simp)), revR_all l (x :: acc) fun y hy => h y (by simp [hy])]
    simp
theorem revR_none {α : Type} {p : α → Bool} : ∀ (l : List α), (∀ x ∈ l, p x = false) → revR p [] l = l
  | [], _ => rfl
  | x :: l, h => by
    rw [revR, if_neg (by rw [h x (by simp)]; decide), revR_none l fun y hy => h y (by simp [hy])]
    rfl
def heldF (x : Int) : Int := min (max x 0) 126
/-- Whether an odd level is at most a level. -/
def oddB (ls : List Int) (v : Int) : Bool := ls.any fun x => decide (x % 2 = 1 ∧ x ≤ v)
def visA (ls : List Int) : Nat → List Nat → List Nat
  | 0, o => o
  | v + 1, o => visA ls v (if oddB ls ((v + 1 : Nat) : Int) = true then revR (fun i => decide (((v + 1 : Nat) : Int) ≤ ls.getD i 0)) [] o else o)
def mostF : List Int → Int
  | [] => 0
  | x :: l => max x (mostF l)
/-- In which order places are seen. -/
def visF (ls : List Int) : List Nat := visA (ls.map heldF) (mostF (ls.map heldF)).toNat (List.range ls.length)
theorem visA_perm (ls : List Int) : ∀ (v : Nat) (o : List Nat), (visA ls v o).Perm o
  | 0, o => .refl o
  | v + 1, o => by
    rw [visA]
    refine (visA_perm ls v _).trans ?_
    split
    · exact revR_perm _ o []
    · exact .refl o
theorem vis_perm (ls : List Int) : (visF ls).Perm (List.range ls.length) := visA_perm _ _ _
theorem vis_len (ls : List Int) : (visF ls).length = ls.length := by rw [(vis_perm ls).length_eq, List.length_range]
theorem visA_stay {ls : List Int} : ∀ (v : Nat) (o : List Nat), oddB ls v = false → visA ls v o = o
  | 0, o, _ => rfl
  | v + 1, o, h => by
    rw [visA, if_neg (by rw [h]; decide), visA_stay v o]
    rw [Bool.eq_false_iff] at h ⊢
    intro h2
    apply h
    unfold oddB at h2 ⊢
    rw [List.any_eq_true] at h2 ⊢
    obtain ⟨x, hx, hd⟩ := h2
    have hd := of_decide_eq_true hd
    exact ⟨x, hx, decide_eq_true ⟨hd.1, by omega⟩⟩
/-- Where no level is odd nothing is turned. -/
theorem vis_even {ls : List Int} (h : ∀ x ∈ ls, heldF x % 2 = 0) : visF ls = List.range ls.length := by
  unfold visF
  rw [visA_stay]
  rw [Bool.eq_false_iff]
  intro h2
  unfold oddB at h2
  rw [List.any_eq_true] at h2
  obtain ⟨x, hx, hd⟩ := h2
  have hd := of_decide_eq_true hd
  obtain ⟨y, hy, rfl⟩ := List.mem_map.1 hx
  have := h y hy
  omega
theorem most_same {v : Int} (hv : 0 ≤ v) : ∀ n : Nat, mostF (List.replicate (n + 1) v) = v
  | 0 => by simp [mostF]; omega
  | n + 1 => by
    rw [List.replicate_succ, mostF, most_same hv n]
    omega
/-- Where all are odd, and the same, all is turned. -/
theorem vis_odd {v : Int} (hv : v % 2 = 1) (h0 : 0 ≤ v) (h1 : v ≤ 126) (n : Nat) : visF (List.replicate n v) = (List.range n).reverse := by
  cases n with
  | zero => rfl
  | succ n =>
    have hh : (List.replicate (n + 1) v).map heldF = List.replicate (n + 1) v := by
      rw [List.map_replicate]
      congr 1
      unfold heldF
      omega
    unfold visF
    rw [hh, most_same h0, List.length_replicate]
    obtain ⟨k, hk⟩ : ∃ k : Nat, v.toNat = k + 1 := ⟨v.toNat - 1, by omega⟩
    have hkv : ((k + 1 : Nat) : Int) = v := by omega
    have ho : oddB (List.replicate (n + 1) v) ((k + 1 : Nat) : Int) = true := by
      unfold oddB
      rw [List.any_eq_true]
      exact ⟨v, by simp, decide_eq_true ⟨hv, by omega⟩⟩
    have hno : oddB (List.replicate (n + 1) v) (k : Int) = false := by
      rw [Bool.eq_false_iff]
      intro h2
      unfold oddB at h2
      rw [List.any_eq_true] at h2
      obtain ⟨x, hx, hd⟩ := h2
      have hd := of_decide_eq_true hd
      have := (List.mem_replicate.1 hx).2
      omega
    rw [hk, visA, if_pos ho, visA_stay _ _ hno, revR_all, List.append_nil]
    intro x hx
    rw [List.mem_range] at hx
    apply decide_eq_true
    rw [List.getD_eq_getElem?_getD, List.getElem?_replicate, if_pos hx]
    simp
    omega
/-- Where a place stands. -/
def posF (x : Nat) : List Nat → Nat
  | [] => 0
  | y :: l => if y = x then 0 else posF x l + 1
theorem posF_mem {x : Nat} : ∀ {o : List Nat}, x ∈ o → o[posF x o]? = some x
  | [], h => by cases h
  | y :: l, h => by
    rw [posF]
    by_cases hy : y = x
    · rw [if_pos hy, hy]; rfl
    · rw [if_neg hy, List.getElem?_cons_succ]
      exact posF_mem ((List.mem_cons.1 h).resolve_left fun e => hy e.symm)
theorem posF_at {x : Nat} : ∀ {o : List Nat} {i : Nat}, o.Nodup → o[i]? = some x → posF x o = i
  | [], _, _, h => by simp at h
  | y :: l, 0, _, h => by
    obtain rfl := Option.some.inj h
    rw [posF, if_pos rfl]
  | y :: l, i + 1, hn, h => by
    rw [List.nodup_cons] at hn
    rw [List.getElem?_cons_succ] at h
    have hxl := List.mem_of_getElem? h
    rw [posF, if_neg (fun e => hn.1 (by rw [e]; exact hxl)), posF_at hn.2 h]
def invF (o : List Nat) : List Nat := (List.range o.length).map fun i => posF i o
theorem invF_len (o : List Nat) : (invF o).length = o.length := by simp [invF]
section
variable {o : List Nat} {n : Nat} (h : o.Perm (List.range n))
include h
theorem perm_len : o.length = n := by rw [h.length_eq, List.length_range]
theorem perm_nodup : o.Nodup := h.nodup_iff.2 List.nodup_range
theorem perm_mem {x : Nat} : x ∈ o ↔ x < n := by rw [h.mem_iff, List.mem_range]
theorem inv_at {i x : Nat} (hi : o[i]? = some x) : (invF o)[x]? = some i := by
  have hx : x < o.length := by rw [perm_len h]; exact (perm_mem h).1 (List.mem_of_getElem? hi)
  unfold invF
  rw [List.getElem?_map, List.getElem?_range hx]
  simp only [Option.map_some]
  rw [posF_at (perm_nodup h) hi]
theorem at_inv {i x : Nat} (hi : (invF o)[i]? = some x) : o[x]? = some i := by
  have hl : i < o.length := by rw [← invF_len]; exact (List.getElem?_eq_some_iff.1 hi).1
  unfold invF at hi
  rw [List.getElem?_map, List.getElem?_range hl] at hi
  simp only [Option.map_some] at hi
  obtain rfl := Option.some.inj hi
  exact posF_mem ((perm_mem h).2 (by rw [← perm_len h]; exact hl))
theorem inv_perm : (invF o).Perm (List.range n) := by
  have hl := perm_len h
  have hnd : (invF o).Nodup := by
    unfold invF
    rw [List.Nodup, List.pairwise_map]
    refine List.Pairwise.imp_of_mem (fun {a b} ha hb hlt => ?_) (List.pairwise_lt_range (n := o.length))
    intro e
    rw [List.mem_range] at ha hb
    have e1 := posF_mem (o := o) ((perm_mem h).2 (show a < n by omega))
    have e2 := posF_mem (o := o) ((perm_mem h).2 (show b < n by omega))
    rw [e, e2] at e1
    have := Option.some.inj e1
    omega
  refine (List.perm_ext_iff_of_nodup hnd List.nodup_range).2 fun x => ?_
  rw [List.mem_range]
  constructor
  · intro hx
    obtain ⟨i, hi⟩ := List.getElem?_of_mem hx
    have := (List.getElem?_eq_some_iff.1 (at_inv h hi)).1
    omega
  · intro hx
    have hx2 : x < o.length := by omega
    exact List.mem_of_getElem? (inv_at h (List.getElem?_eq_getElem hx2))
theorem inv_inv : invF (invF o) = o := by
  apply List.ext_getElem?
  intro i
  by_cases hi : i < o.length
  · rw [List.getElem?_eq_getElem hi]
    exact inv_at (inv_perm h) (inv_at h (List.getElem?_eq_getElem hi))
  · rw [List.getElem?_eq_none (by rw [invF_len, invF_len]; omega), List.getElem?_eq_none (by omega)]
/-- What is seen by an order, and by its inverse again. -/
theorem app_inv {l : List Int} (hl : l.length = n) : (invF o).map (fun i => (o.map fun i => l.getD i 0).getD i 0) = l := by
  apply List.ext_getElem?
  intro i
  by_cases hi : i < n
  · have hi2 : i < (invF o).length := by rw [invF_len, perm_len h]; exact hi
    obtain ⟨x, hx⟩ : ∃ x, (invF o)[i]? = some x := ⟨_, List.getElem?_eq_getElem hi2⟩
    have e := at_inv h hx
    rw [List.getElem?_map, hx]
    simp only [Option.map_some]
    rw [List.getD_eq_getElem?_getD, List.getElem?_map, e]
    simp only [Option.map_some, Option.getD_some]
    rw [List.getD_eq_getElem?_getD, List.getElem?_eq_getElem (by omega)]
    rfl
  · rw [List.getElem?_eq_none (by rw [List.length_map, invF_len, perm_len h]; omega), List.getElem?_eq_none (by omega)]
end
end Go.Proofs.Ytbnjflkafdkcpaa
/- More words for memory: make with a length and a capacity; values in an aggregate. -/
namespace Go.Proofs.Ytbnjflkafdkcpaa
open Go.RowKit

/-- make([]T, l, c), T of one cell. -/
theorem wpList_mkN {P : Program} {w : World} {ops : Array Oper} {rest : List Oper} {o : Oper} {a : Act} {Q : Exit → Act → World → Prop}
    (hg : o.guard = none) (lo co : Operand) (t : TypeId) (hop : o.op = Op.makeSlice t lo co)
    {base : Nat} {e : TypeId} {bytes : Nat} {z : Value} (ht : P.underlying t = some (.slice e)) (hin : (P.info? e).map (fun i => (i.zero, i.size, i.bytes)) = some (some z, 1, bytes)) (hz : z.cells = #[z])
    {kl kc : IntKind} (L C : Int) (l c : Nat) (hl : a.eval lo = .int kl L) (hc : a.eval co = .int kc C) (hL : L = (l : Int)) (hC : C = (c : Int)) (hlc : l ≤ c) (b2 : bytes * c ≤ 281474976710656) (b3 : c ≤ maxLen) (b4 : base ≤ w.heap.size)
    (hK : ∀ w', w'.ownsRow base e 1 (.slice (some ⟨w.heap.size, 0, none⟩) l c) l (List.replicate l z) → w.grownBy w' none → wpList P ops Q rest (a.put o.dst (.slice (some ⟨w.heap.size, 0, none⟩) l c)) w') :
    wpList P ops Q (o :: rest) a w := by
  obtain ⟨i, h1, h2, h3, h4⟩ := info_parts hin
  subst hL hC
  have h63 : ((c : Nat) : Int) ≤ 9223372036854775807 := by unfold maxLen at b3; omega
  have hb' : (i.bytes : Int) * (c : Int) ≤ 281474976710656 := by
    have h : ((i.bytes * c : Nat) : Int) ≤ 281474976710656 := by rw [h4]; omega
    rwa [Int.natCast_mul] at h
  have hr := run_make (P := P) w t e i z ht h1 h2 kl kc l c (by omega) (by omega) hb' h63
  simp only [Int.toNat_natCast, h3, Nat.mul_one, hz] at hr
  have hown : (w.alloc (.cells (madeCells #[z] c) e)).ownsRow base e 1 (.slice (some ⟨w.heap.size, 0, none⟩) l c) l (List.replicate l z) := by
    refine ⟨by simp, .inr ⟨w.heap.size, c, madeCells #[z] c, rfl, b4, heap_alloc_new w _, hlc, b3, by rw [size_madeCells]; omega, ?_⟩⟩
    rw [toList_madeCells_one, Nat.mul_one, List.take_replicate]
    congr 1
    omega
  refine wpList_plain hg fun K hK' => ?_
  unfold Oper.wp
  simp [execOp, hop, hl, hc, hr, Result.andThen]
  exact hK' _ _ (hK _ hown (World.grownBy_alloc w _ none))

/-- A row of the call's own with at least one element: where it lies. -/
theorem own_at {w : World} {base : Nat} {e : TypeId} {v : Value} {n : Nat} {xs : List Value} (h : w.ownsRow base e 1 v n xs) (hn : 0 < n) :
    ∃ g c, v = .slice (some ⟨g, 0, none⟩) n c ∧ n ≤ c ∧ g < w.heap.size ∧ base ≤ g ∧ ∀ j u, xs[j]? = some u → w.cell? ⟨g, j, none⟩ = some u := by
  obtain ⟨g, c, hv, hbg, hlt⟩ := h.form hn
  obtain ⟨_, _, e, hnc⟩ := own_form h
  subst hv
  injection e with _ _ e
  subst e
  refine ⟨g, c, rfl, hnc, hlt, hbg, fun j u hj => ?_⟩
  have := h.cells (g := g) rfl j u hj
  rwa [addNew] at this
/-- What is owned from a later block on is owned from an earlier one on. -/
theorem own_base {w : World} {base b' : Nat} {e : TypeId} {size : Nat} {v : Value} {n : Nat} {xs : List Value} (h : w.ownsRow base e size v n xs) (hb : b' ≤ base) : w.ownsRow b' e size v n xs := by
  obtain ⟨h1, h2⟩ := h
  refine ⟨h1, ?_⟩
  rcases h2 with h2 | ⟨g, cap, cur, hv, hg, r⟩
  · exact .inl h2
  · exact .inr ⟨g, cap, cur, hv, Nat.le_trans hb hg, r⟩
/-- A block of the call's own that no row is, behind an append or a make. -/
theorem blk_grown {w w' : World} {b : Nat} {o : Obj} {row : Option Nat} (h : w.heap[b]? = some o) (hg : w.grownBy w' row) (hne : row ≠ some b) : w'.heap[b]? = some o :=
  (hg.block b (by
    rcases Nat.lt_or_ge b w.heap.size with h' | h'
    · exact h'
    · simp [Array.getElem?_eq_none h'] at h) (fun e => hne e.symm)).trans h
theorem blk_alloc {w : World} {b : Nat} {o : Obj} (h : w.heap[b]? = some o) (o' : Obj) : (w.alloc o').heap[b]? = some o :=
  blk_grown h (World.grownBy_alloc w _ none) (by simp)
/-- A callee that leaves the world alone, inside a quiet region. -/
theorem quiet_eq {P : Program} {f : FuncId} {args : Array Value} {w : World} {n : Nat} {v : Value}
    (h : Calls P f args (w.drewN n) fun e w' => e = .returned v ∧ w.drewN n = w') : Calls P f args (w.drewN n) fun e w'' => e = .returned v ∧ ∃ m, w'' = w.drewN m :=
  Calls.quiet_of_same (h.mono fun _ _ ⟨a, b⟩ => ⟨a, b.symm⟩)
theorem toList_madeSame (z : Array Value) (z0 : Value) (h0 : 0 < z.size) (hz : ∀ j, j < z.size → z[j]! = z0) (n : Nat) : (madeCells z n).toList = List.replicate n z0 := by
  rw [List.eq_replicate_iff]
  refine ⟨by simp [madeCells], fun b hb => ?_⟩
  simp only [madeCells, Array.toList_map, List.mem_map] at hb
  obtain ⟨j, _, rfl⟩ := hb
  exact hz _ (Nat.mod_lt _ h0)
/-- make([]T, n), T a struct whose cells are all the same at zero. -/
theorem wpList_mkZ {P : Program} {w : World} {ops : Array Oper} {rest : List Oper} {o : Oper} {a : Act} {Q : Exit → Act → World → Prop}
    (hg : o.guard = none) (l c : Operand) (t : TypeId) (hop : o.op = Op.makeSlice t l c)
    {base : Nat} {e : TypeId} {size bytes : Nat} {z z0 : Value} (ht : P.underlying t = some (.slice e)) (hin : (P.info? e).map (fun i => (i.zero, i.size, i.bytes)) = some (some z, size, bytes)) (h0 : 0 < z.cells.size) (hz : ∀ j, j < z.cells.size → z.cells[j]! = z0)
    {kl kc : IntKind} (L C : Int) (n : Nat) (hl : a.eval l = .int kl L) (hc : a.eval c = .int kc C) (hL : L = (n : Int)) (hC : C = (n : Int)) (b2 : bytes * n ≤ 281474976710656) (b3 : n ≤ maxLen) (b4 : base ≤ w.heap.size)
    (hK : ∀ w', w'.ownsRow base e size (.slice (some ⟨w.heap.size, 0, none⟩) n n) n (List.replicate (n * size) z0) → w.grownBy w' none → wpList P ops Q rest (a.put o.dst (.slice (some ⟨w.heap.size, 0, none⟩) n n)) w') :
    wpList P ops Q (o :: rest) a w := by
  obtain ⟨i, h1, h2, h3, h4⟩ := info_parts hin
  refine wpList_make_full w hg l c t hop base e i z size ht h1 h2 h3 kl kc L C n hl hc hL hC (by rw [h4]; exact b2) b3 b4 (fun w' a1 a2 => hK w' ?_ a2)
  rwa [toList_madeSame _ z0 h0 hz] at a1
/-- Two cells next to each other, stored into a row of the call's own. -/
theorem own_store2 {w : World} {base : Nat} {e : TypeId} {size g n cap : Nat} {xs : List Value} (h : w.ownsRow base e size (.slice (some ⟨g, 0, none⟩) n cap) n xs) (j : Nat) (u v : Value) :
    ((w.setCell ⟨g, j, none⟩ u).setCell ⟨g, j + 1, none⟩ v).ownsRow base e size (.slice (some ⟨g, 0, none⟩) n cap) n ((xs.set j u).set (j + 1) v) :=
  ((h.stored j u).1.stored (j + 1) v).1
/-- A cell of a row of the call's own is there and may be written. -/
theorem own_slot {w : World} {base : Nat} {e : TypeId} {size g n cap : Nat} {xs : List Value} (h : w.ownsRow base e size (.slice (some ⟨g, 0, none⟩) n cap) n xs) {j : Nat} (hj : j < n * size) :
    (∃ u, w.cell? ⟨g, j, none⟩ = some u) ∧ w.frozen? ⟨g, j, none⟩ = false :=
  ⟨⟨xs[j]'(by rw [h.1]; exact hj), by rw [h.cellAt j hj, List.getElem?_eq_getElem]⟩, h.frozenAt j⟩
end Go.Proofs.Ytbnjflkafdkcpaa
/- A stack of places as a row: the first one first; a row's head. No function of the program. -/
namespace Go.Proofs.Ytbnjflkafdkcpaa
open Go.RowKit

def intV (x : Int) : Value := .int .i64 x
theorem intSliceM : SliceOf Try.prog 22 3 1 8 := .mk_ (z := .int .i64 0) Try.underlying22 (by kernel_rfl) rfl
/-- The stack, as the program lays it: the first one first. -/
def stkL (s : List Nat) : List Int := s.reverse.map fun i => ((i : Nat) : Int)
theorem stkL_len (s : List Nat) : (stkL s).length = s.length := by simp [stkL]
theorem stkL_push (k : Nat) (s : List Nat) : stkL (k :: s) = stkL s ++ [((k : Nat) : Int)] := by simp [stkL]
theorem stkL_top (t : Nat) (r : List Nat) : (stkL (t :: r))[r.length]? = some ((t : Nat) : Int) := by
  rw [stkL_push, List.getElem?_append_right (by rw [stkL_len]; exact Nat.le_refl _), stkL_len, Nat.sub_self]
  rfl
theorem stkL_take (t : Nat) (r : List Nat) : (stkL (t :: r)).take r.length = stkL r := by
  rw [stkL_push, List.take_append_of_le_length (by rw [stkL_len]; exact Nat.le_refl _), ← stkL_len, List.take_length]
theorem headM {w : World} {base : Nat} {e : TypeId} {size g n m cap : Nat} {xs : List Value} (h : w.ownsRow base e size (.slice (some ⟨g, 0, none⟩) n cap) n xs) (hm : m ≤ n) : w.ownsRow base e size (.slice (some ⟨g, 0, none⟩) m cap) m (xs.take (m * size)) := by
  obtain ⟨h1, h2⟩ := h
  refine ⟨by rw [List.length_take, h1]; exact Nat.min_eq_left (Nat.mul_le_mul_right _ hm), ?_⟩
  rcases h2 with ⟨h', _⟩ | ⟨g', cap', cur, h', hb, hg, hnc, hcm, hcs, htake⟩
  · simp at h'
  · simp only [Value.slice.injEq, Option.some.injEq, Addr.mk.injEq, and_true, true_and] at h'
    obtain ⟨rfl, rfl⟩ := h'
    refine .inr ⟨g, cap, cur, rfl, hb, hg, Nat.le_trans hm hnc, hcm, hcs, ?_⟩
    rw [← htake, List.take_take, Nat.min_eq_left (Nat.mul_le_mul_right _ hm)]
end Go.Proofs.Ytbnjflkafdkcpaa
/- append of whatever reads as cells onto a row of the call's own, at a step of a region that draws its order. -/
namespace Go.Proofs.Ytbnjflkafdkcpaa
open Go.RowKit

theorem run_appR {P : Program} (w : World) (t ty : TypeId) {base : Nat} {e : TypeId} {size bytes : Nat} (S : SliceOf P t e size bytes) (hsz : 0 < size)
    (v : Value) (n : Nat) (xs : List Value) (hown : w.ownsRow base e size v n xs)
    (A : Option Addr) (m c : Nat) (news : List Value) (hr : Rd w size A m news) (h1 : ∀ u ∈ news, u.oneCell' = true)
    (hbytes : (n + m) * bytes ≤ 140737488355328) (h63 : n + m ≤ maxLen) (hbase : base ≤ w.heap.size) :
    ∃ v' w', (Builtin.append_ #[t, t] ty #[v, .slice A m c]).run P w = .ok v' w' ∧ w'.ownsRow base e size v' (n + m) (xs ++ news) ∧ w.grownBy w' v.ownBlock ∧ (v'.ownBlock = v.ownBlock ∨ v'.ownBlock = some w.heap.size) := by
  rcases A with _ | ad
  · have hm : m = 0 := by
      rcases Nat.eq_zero_or_pos m with h0 | h0
      · exact h0
      · obtain ⟨_, e, _⟩ := hr.2 h0
        cases e
    subst hm
    have hn : news = [] := List.eq_nil_of_length_eq_zero (by simpa using hr.1)
    subst hn
    exact ⟨v, w, run_app_nil w base t ty e size bytes S v n xs hown c, by simpa using hown, World.grownBy.refl w _, .inl rfl⟩
  · obtain ⟨ht, i, z, hi, hz, hs1, hb1, hzs⟩ := S
    obtain ⟨v', w', hrun, h2, h3, _, h5⟩ := run_append_own_at (P := P) w base t ty e i z size bytes ht hi hz hs1 hb1 hzs hsz v n xs hown ad m c news hr.1 hr.news h1 h63 hbytes hbase
    exact ⟨v', w', hrun, h2, h3, h5⟩

theorem step_appR {P : Program} {w : World} {ops : Array Oper} {o : Oper} {a : Act} {K : Act → World → Prop} {Q : Exit → Act → World → Prop} {E : Prop} (hgd : o.guard = none) (s x : Operand) (t : TypeId)
    (ho : o.op = .call { callee := .builtin .append, args := #[s, x], argTypes := #[t, t] })
    {base : Nat} {e : TypeId} {size bytes : Nat} (S : SliceOf P t e size bytes) (hsz : 0 < size)
    (v : Value) (n : Nat) (xs : List Value) (hs : a.eval s = v) (hown : w.ownsRow base e size v n xs)
    (A : Option Addr) (m c : Nat) (news : List Value) (hx : a.eval x = .slice A m c) (hr : Rd w size A m news) (h1 : ∀ u ∈ news, u.oneCell' = true)
    (hbytes : (n + m) * bytes ≤ 140737488355328) (h63 : n + m ≤ maxLen) (hbase : base ≤ w.heap.size) (H : Nat) (hH : w.heap.size = H)
    (h : ∀ v' w', w'.ownsRow base e size v' (n + m) (xs ++ news) → w.grownBy w' v.ownBlock → (v'.ownBlock = v.ownBlock ∨ v'.ownBlock = some H) → K (a.put o.dst v') w') :
    if Region.wanted o (yielded ops a.tmps) = true then Oper.wp P o a w K Q else E := by
  have hw : Region.wanted o (yielded ops a.tmps) = true := by simp [Region.wanted, hgd]
  rw [if_pos hw]
  obtain ⟨v', w', hrun, h2, h3, h5⟩ := run_appR (P := P) w t o.type S hsz v n xs hown A m c news hr h1 hbytes h63 hbase
  unfold Oper.wp execOp
  simp only [ho, resolve, invoke, builtin, Sem.run_bind, Sem.run_pure, Result.andThen_ok, List.map_toArray, List.map_cons, List.map_nil, hs, hx, hrun]
  exact h v' w' h2 h3 (by rw [← hH]; exact h5)
theorem own_below {w w' : World} {base : Nat} {e : TypeId} {size n : Nat} {v : Value} {xs : List Value} (h : w.ownsRow base e size v n xs) (hb : Below w.heap.size w w') : w'.ownsRow base e size v n xs := by
  rcases hv : v.ownBlock with _ | g
  · exact h.kept (row := none) ⟨hb.os, hb.tape, hb.output, hb.size, fun k hk _ => hb.block k hk⟩ (.inl hv)
  · exact h.kept (row := none) ⟨hb.os, hb.tape, hb.output, hb.size, fun k hk _ => hb.block k hk⟩ (.inr (by rw [hv]; exact fun e => by cases e))
theorem below_of_drew {w w' : World} (h : Below w.drew.heap.size w.drew w') : Below w.heap.size w w' := ⟨h.os, h.tape, h.output, h.size, h.block⟩
theorem grown_of_below' {w w' : World} (row : Option Nat) (hb : Below w.heap.size w w') : w.grownBy w' row := ⟨hb.os, hb.tape, hb.output, hb.size, fun k hk _ => hb.block k hk⟩
theorem grown_set {a w : World} {g : Nat} (h : a.grownBy w (some g)) (j : Nat) (u : Value) : a.grownBy (w.setCell ⟨g, j, none⟩ u) (some g) :=
  ⟨h.os, h.tape, h.output, by simpa [World.setCell] using h.size, fun i hi hne => (Below.heap_setCell w ⟨g, j, none⟩ u i (fun e => hne (by rw [e]))).trans (h.block i hi hne)⟩
/-- Four cells next to each other, stored into a row of the call's own. -/
theorem own_store4 {w : World} {base : Nat} {e : TypeId} {size g n cap : Nat} {xs : List Value} (h : w.ownsRow base e size (.slice (some ⟨g, 0, none⟩) n cap) n xs) (j : Nat) (a b c d : Value) :
    ((((w.setCell ⟨g, j, none⟩ a).setCell ⟨g, j + 1, none⟩ b).setCell ⟨g, j + 2, none⟩ c).setCell ⟨g, j + 3, none⟩ d).ownsRow base e size (.slice (some ⟨g, 0, none⟩) n cap) n ((((xs.set j a).set (j + 1) b).set (j + 2) c).set (j + 3) d) :=
  ((((h.stored j a).1.stored (j + 1) b).1.stored (j + 2) c).1.stored (j + 3) d).1
theorem rd_blk {w : World} {b m : Nat} {cs : List Value} {t : TypeId} (size : Nat) (h : w.heap[b]? = some (.cells cs.toArray t (0, 0))) (hl : cs.length = m * size) : Rd w size (some ⟨b, 0, none⟩) m cs :=
  ⟨hl, fun _ => ⟨_, rfl, (Array.getElem?_eq_some_iff.1 h).1, World.news_of_block (cs := cs.toArray) (fr := (0, 0)) h⟩⟩
end Go.Proofs.Ytbnjflkafdkcpaa
/- A block of one span, known whole, and what becomes of it. -/
namespace Go.Proofs.Ytbnjflkafdkcpaa
open Go.RowKit

/-- A block of one span, known whole, that may be written. -/
def SpanBlk (w : World) (b : Nat) (s : Sp) : Prop := w.cell? ⟨b, 0, none⟩ = some (.int .i64 s.1) ∧ w.cell? ⟨b, 1, none⟩ = some (.int .i64 s.2) ∧ w.frozen? ⟨b, 0, none⟩ = false ∧ w.frozen? ⟨b, 1, none⟩ = false

theorem SpanBlk.below {w w' : World} {b : Nat} {s : Sp} (h : SpanBlk w b s) (hb : Below w.heap.size w w') : SpanBlk w' b s :=
  ⟨cell_below hb h.1, cell_below hb h.2.1, (hb.frozen (cell_lt h.1)).trans h.2.2.1, (hb.frozen (cell_lt h.2.1)).trans h.2.2.2⟩
theorem SpanBlk.put {w : World} {b : Nat} {s : Sp} (h : SpanBlk w b s) (x y : Int) : SpanBlk ((w.setCell ⟨b, 0, none⟩ (.int .i64 x)).setCell ⟨b, 1, none⟩ (.int .i64 y)) b (x, y) := by
  obtain ⟨h0, h1, h2, h3⟩ := h
  have e1 : (w.setCell ⟨b, 0, none⟩ (.int .i64 x)).cell? ⟨b, 1, none⟩ = some (.int .i64 s.2) := (World.cell?_setCell_other (h := by simp) ..).trans h1
  refine ⟨?_, World.cell?_setCell_same (h := e1) .., ?_, ?_⟩
  · exact (World.cell?_setCell_other (h := by simp) ..).trans (World.cell?_setCell_same (h := h0) ..)
  · rw [World.frozen?_setCell, World.frozen?_setCell]; exact h2
  · rw [World.frozen?_setCell, World.frozen?_setCell]; exact h3
theorem SpanBlk.far {w : World} {b b' : Nat} {s : Sp} (h : SpanBlk w b s) (hne : b ≠ b') (u v : Value) : SpanBlk ((w.setCell ⟨b', 0, none⟩ u).setCell ⟨b', 1, none⟩ v) b s := by
  obtain ⟨h0, h1, h2, h3⟩ := h
  refine ⟨?_, ?_, ?_, ?_⟩
  · exact (World.cell?_setCell_other (h := by first | (simp; done) | (simp; omega)) ..).trans ((World.cell?_setCell_other (h := by first | (simp; done) | (simp; omega)) ..).trans h0)
  · exact (World.cell?_setCell_other (h := by first | (simp; done) | (simp; omega)) ..).trans ((World.cell?_setCell_other (h := by first | (simp; done) | (simp; omega)) ..).trans h1)
  · rw [World.frozen?_setCell, World.frozen?_setCell]; exact h2
  · rw [World.frozen?_setCell, World.frozen?_setCell]; exact h3

theorem only_setCell {a w : World} {g : Nat} (h : a.grownBy w (some g)) {p : Addr} (hp : p.block = g ∨ a.heap.size ≤ p.block) (u : Value) : a.grownBy (w.setCell p u) (some g) :=
  ⟨h.os, h.tape, h.output, by simpa [World.setCell] using h.size, fun i hi hne => (Below.heap_setCell w p u i (by
    rintro rfl
    rcases hp with hp | hp
    · exact hne (by rw [hp])
    · omega)).trans (h.block i hi hne)⟩
theorem SpanBlk.grown {w w' : World} {b : Nat} {s : Sp} {row : Option Nat} (h : SpanBlk w b s) (hg : w.grownBy w' row) (hne : row ≠ some b) : SpanBlk w' b s := by
  obtain ⟨h0, h1, h2, h3⟩ := h
  have hb := cell_lt h0
  have e := hg.block b hb (fun e => hne e.symm)
  have ec : ∀ i, w'.cell? ⟨b, i, none⟩ = w.cell? ⟨b, i, none⟩ := fun i => World.cell?_of_block (a := ⟨b, i, none⟩) e
  have ef : ∀ i, w'.frozen? ⟨b, i, none⟩ = w.frozen? ⟨b, i, none⟩ := fun i => by unfold World.frozen?; rw [e]
  exact ⟨(ec 0).trans h0, (ec 1).trans h1, (ef 0).trans h2, (ef 1).trans h3⟩
theorem SpanBlk.put0 {w : World} {b : Nat} {s : Sp} (h : SpanBlk w b s) (x : Int) : SpanBlk (w.setCell ⟨b, 0, none⟩ (.int .i64 x)) b (x, s.2) := by
  obtain ⟨h0, h1, h2, h3⟩ := h
  refine ⟨World.cell?_setCell_same (h := h0) .., (World.cell?_setCell_other (h := by simp) ..).trans h1, ?_, ?_⟩
  · rw [World.frozen?_setCell]; exact h2
  · rw [World.frozen?_setCell]; exact h3
theorem own_set_far {w : World} {base : Nat} {e : TypeId} {size n b i : Nat} {v u : Value} {xs : List Value} (h : w.ownsRow base e size v n xs) (hne : v.ownBlock ≠ some b) : (w.setCell ⟨b, i, none⟩ u).ownsRow base e size v n xs :=
  h.kept (row := some b) (only_setCell (World.grownBy.refl w _) (.inl rfl) u) (.inr hne)
theorem below_make {w w' : World} (hg : w.grownBy w' none) : Below w.heap.size w w' := (Below.refl _ _).grown hg (Nat.le_refl _) (fun k hk => by cases hk)
theorem SpanBlk.new_ (w : World) (x y : Int) (t : TypeId) : SpanBlk (w.alloc (.cells #[.int .i64 x, .int .i64 y] t)) w.heap.size (x, y) := by
  refine ⟨?_, ?_, ?_, ?_⟩ <;> simp [go_sem]

end Go.Proofs.Ytbnjflkafdkcpaa
/- The reference's Permutes, Inverse, Apply, walked. -/
namespace Go.Proofs.Ytbnjflkafdkcpaa
open Go.RowKit

/-- Whether numbers are an order: within range, none twice. -/
def permB (o : List Int) : Bool := decide ((∀ x ∈ o, 0 ≤ x ∧ x < o.length) ∧ o.Nodup)
def seenL (n : Nat) (o : List Int) : List Value := (List.range n).map fun i => .bool (decide (((i : Nat) : Int) ∈ o))
theorem seen_nil (n : Nat) : List.replicate n (Value.bool false) = seenL n [] := by
  apply List.ext_getElem
  · simp [seenL]
  · intro i h1 h2
    simp [seenL]
theorem seen_at {n : Nat} {o : List Int} {x : Nat} (h : x < n) : (seenL n o)[x]? = some (.bool (decide ((x : Int) ∈ o))) := by
  unfold seenL
  rw [List.getElem?_map, List.getElem?_range h]
  rfl
theorem seen_set {n : Nat} {o : List Int} {x : Nat} (h : x < n) : (seenL n o).set x (.bool true) = seenL n (o ++ [(x : Int)]) := by
  apply List.ext_getElem?
  intro i
  by_cases hi : i < n
  · rw [List.getElem?_set, seen_at hi, seen_at hi]
    by_cases e : x = i
    · subst e
      rw [if_pos rfl, if_pos (by simp [seenL]; exact h)]
      simp
    · rw [if_neg e]
      congr 2
      have : (i : Int) ≠ (x : Int) := by omega
      simp [this]
  · rw [List.getElem?_eq_none (by simp [seenL]; omega), List.getElem?_eq_none (by simp [seenL]; omega)]
/-- What holds of the first numbers while they are looked at. -/
def okTo (o : List Int) (k : Nat) : Prop := (∀ x ∈ o.take k, 0 ≤ x ∧ x < o.length) ∧ (o.take k).Nodup
theorem okTo_next {o : List Int} {k : Nat} {x : Int} (h : okTo o k) (hx : o[k]? = some x) (h0 : 0 ≤ x) (h1 : x < o.length) (hn : x ∉ o.take k) : okTo o (k + 1) := by
  unfold okTo
  rw [List.take_add_one, hx]
  refine ⟨fun y hy => ?_, ?_⟩
  · simp at hy
    rcases hy with hy | rfl
    · exact h.1 y hy
    · exact ⟨h0, h1⟩
  · simp only [Option.toList_some]
    rw [List.nodup_append]
    exact ⟨h.2, by simp, fun a ha b hb => by
      simp at hb
      subst hb
      intro e
      subst e
      exact hn ha⟩
theorem permB_no {o : List Int} {k : Nat} {x : Int} (hx : o[k]? = some x) (h : x < 0 ∨ (o.length : Int) ≤ x ∨ x ∈ o.take k) : permB o = false := by
  apply decide_eq_false
  rintro ⟨h1, h2⟩
  have := h1 x (List.mem_of_getElem? hx)
  rcases h with h | h | h
  · omega
  · omega
  · have hs : o = o.take (k + 1) ++ o.drop (k + 1) := (List.take_append_drop _ _).symm
    rw [hs, List.take_add_one, hx, List.nodup_append] at h2
    have h3 := h2.1
    simp only [Option.toList_some] at h3
    rw [List.nodup_append] at h3
    exact h3.2.2 x h x (by simp) rfl
theorem permB_yes {o : List Int} (h : okTo o o.length) : permB o = true := by
  unfold okTo at h
  rw [List.take_length] at h
  exact decide_eq_true h
set_option maxRecDepth 100000 in
set_option maxHeartbeats 2000000 in
theorem roPermutes_any (A : Option Addr) (n c : Nat) (o : List Int) (w : World) (hr : Rd w 1 A n (o.map (Value.int .i64))) (hn : n ≤ 100000) :
    Calls Try.prog 29 #[.slice A n c] w fun e w' => e = .returned (.bool (permB o)) ∧ Below w.heap.size w w' := by
  have hl : o.length = n := by simpa using hr.len1
  have HL := Lib.hid hl
  have HR := Lib.hid hr
  clear hl hr
  go_enter Try.func29, Try.ntmps29
  go_wp2_with (first
    | (refine wpList_mkFull rfl _ _ _ rfl (base := w.heap.size) (e := 4) (bytes := 1) (z := .bool false) Try.underlying23 (by kernel_rfl) rfl (n : Int) (n : Int) n rfl rfl rfl rfl (by omega) (by unfold maxLen; omega) (Nat.le_refl _) ?_; intro w1 hown1 hg1)
    | fail)
  have hgn : w.heap.size < w1.heap.size := (hown1.lt w.heap.size rfl).2
  obtain ⟨g, hg⟩ : ∃ g, w.heap.size = g := ⟨_, rfl⟩
  have HM0 : Hid (w1.ownsRow w.heap.size 4 1 (.slice (some ⟨g, 0, none⟩) n n) n (seenL n (o.take 0))) := Lib.hid (by rw [List.take_zero, ← seen_nil, ← hg]; exact hown1)
  have HB0 := Lib.hid (below_make hg1)
  rw [hg]
  clear hown1 hg1
  go_wp2_with fail
  go_loopw [4] (fun i wr => ∃ k : Nat, k ≤ n ∧ i = .int .i64 (k : Int) ∧ okTo o k ∧ wr.ownsRow w.heap.size 4 1 (.slice (some ⟨g, 0, none⟩) n n) n (seenL n (o.take k)) ∧ Below w.heap.size w wr) (fun i _ => n - (intOf i).toNat)
  case atStart => exact ⟨0, Nat.zero_le _, rfl, ⟨by simp, by simp⟩, HM0.out, HB0.out⟩
  case round =>
    obtain ⟨k, hk, rfl, hok, hO, hb⟩ := hrel
    have HOK := Lib.hid hok
    have HO := Lib.hid hO
    have HB := Lib.hid hb
    clear hok hO hb
    by_cases hlt : k < n
    · obtain ⟨x, hx⟩ : ∃ x, o[k]? = some x := ⟨_, List.getElem?_eq_getElem (by rw [HL.out]; exact hlt)⟩
      obtain ⟨ad, rfl, hab, hcell⟩ := (HR.out.below HB.out).at_ hlt
      have cx : wr.cell? (ad.add k) = some (.int .i64 x) := hcell _ (by rw [List.getElem?_map, hx]; rfl)
      have HX := Lib.hid hx
      have hkn : (k : Int) < (n : Int) := by omega
      have hk0 : (0 : Int) ≤ (k : Int) := by omega
      have hk5 : (k : Int) ≤ 100000 := by omega
      clear hx hcell
      by_cases h0 : x < 0
      · have d1 : decide (x < 0) = true := decide_eq_true h0
        have HN := Lib.hid (permB_no HX.out (.inl h0))
        clear h0
        go_wp2
        go_ret
        exact ⟨by rw [HN.out]; rfl, HB.out⟩
      · have d1 : decide (x < 0) = false := decide_eq_false h0
        by_cases h1 : (n : Int) ≤ x
        · have d2 : decide ((n : Int) ≤ x) = true := decide_eq_true h1
          have HN := Lib.hid (permB_no HX.out (.inr (.inl (by rw [HL.out]; exact h1))))
          clear h0
          go_wp2
          go_ret
          exact ⟨by rw [HN.out]; rfl, HB.out⟩
        · have d2 : decide ((n : Int) ≤ x) = false := decide_eq_false h1
          obtain ⟨y, rfl⟩ : ∃ y : Nat, x = (y : Int) := ⟨x.toNat, by omega⟩
          have hyn : y < n := by omega
          have hyn2 : (y : Int) < (n : Int) := by omega
          have hy0 : (0 : Int) ≤ (y : Int) := by omega
          obtain ⟨b, hb⟩ : ∃ b, decide ((y : Int) ∈ o.take k) = b := ⟨_, rfl⟩
          have cy : wr.cell? ⟨g, y, none⟩ = some (.bool b) := by
            rw [HO.out.cellAt y (by omega), seen_at hyn, hb]
          cases b with
          | true =>
            have HN := Lib.hid (permB_no HX.out (.inr (.inr (of_decide_eq_true hb))))
            clear hb h0 h1
            go_wp2
            go_ret
            exact ⟨by rw [HN.out]; rfl, HB.out⟩
          | false =>
            have HN := Lib.hid (okTo_next HOK.out HX.out (by omega) (by rw [HL.out]; exact hyn2) (of_decide_eq_false hb))
            have HST := Lib.hid (show seenL n (o.take (k + 1)) = (seenL n (o.take k)).set y (.bool true) by rw [seen_set hyn, List.take_add_one, HX.out]; rfl)
            have fy := (own_slot HO.out (j := y) (by omega)).2
            clear hb h0 h1
            go_wp2
            go_roundw
            case rel => exact ⟨k + 1, by omega, by go_num, HN.out, by rw [HST.out]; exact (HO.out.stored y (.bool true)).1, HB.out.setCell (p := ⟨g, y, none⟩) (HO.out.lt g rfl).1 _⟩
            case measure => simp [intOf]; omega
    · obtain rfl : k = n := by omega
      have HT := Lib.hid (permB_yes (by rw [HL.out]; exact HOK.out))
      go_wp2
      go_ret
      exact ⟨by rw [HT.out]; rfl, HB.out⟩
end Go.Proofs.Ytbnjflkafdkcpaa
/- The reference's Inverse, Apply, walked. -/
namespace Go.Proofs.Ytbnjflkafdkcpaa
open Go.RowKit

theorem nodup_small : ∀ {n : Nat} {l : List Nat}, l.Nodup → (∀ x ∈ l, x < n) → l.length ≤ n
  | 0, [], _, _ => Nat.le_refl 0
  | 0, x :: l, _, h => absurd (h x (by simp)) (by omega)
  | n + 1, l, hn, h => by
    have h1 := nodup_small (n := n) (l := l.erase n) (hn.erase n) (fun x hx => by
      have := (hn.mem_erase_iff).1 hx
      have := h x this.2
      omega)
    have : l.length ≤ (l.erase n).length + 1 := by
      rw [List.length_erase]
      split <;> omega
    omega
theorem perm_of {l : List Nat} (hn : l.Nodup) (h : ∀ x ∈ l, x < l.length) : l.Perm (List.range l.length) := by
  refine (List.perm_ext_iff_of_nodup hn List.nodup_range).2 fun x => ?_
  rw [List.mem_range]
  refine ⟨h x, fun hx => ?_⟩
  refine Decidable.byContradiction fun hc => ?_
  have := nodup_small (n := l.length) (l := x :: l) (List.nodup_cons.2 ⟨hc, hn⟩) (fun y hy => by
    rcases List.mem_cons.1 hy with rfl | hy
    · exact hx
    · exact h y hy)
  simp at this
  omega
def natL (o : List Int) : List Nat := o.map Int.toNat
theorem natL_len (o : List Int) : (natL o).length = o.length := by simp [natL]
theorem natL_perm {o : List Int} (h : permB o = true) : (natL o).Perm (List.range o.length) := by
  have h := of_decide_eq_true h
  have := perm_of (l := natL o) (by
    unfold natL
    rw [List.Nodup, List.pairwise_map]
    exact List.Pairwise.imp_of_mem (fun {a b} ha hb hne e => hne (by
      have := h.1 a ha
      have := h.1 b hb
      omega)) h.2) (fun x hx => by
    rw [natL_len]
    obtain ⟨y, hy, rfl⟩ := List.mem_map.1 hx
    have := h.1 y hy
    omega)
  rwa [natL_len] at this
theorem natL_at {o : List Int} {k : Nat} {x : Int} (h : permB o = true) (hx : o[k]? = some x) : ∃ y : Nat, x = (y : Int) ∧ y < o.length ∧ (natL o)[k]? = some y := by
  have h := (of_decide_eq_true h).1 x (List.mem_of_getElem? hx)
  exact ⟨x.toNat, by omega, by omega, by unfold natL; rw [List.getElem?_map, hx]; rfl⟩
/-- Where each place is seen; what is wrong. -/
def invE (o : List Int) : List Int × Int := if permB o = true then ((invF (natL o)).map fun i => ((i : Nat) : Int), 0) else ([], 13)
def appE (o l : List Int) : List Int × Int := if permB o = true ∧ o.length = l.length then ((natL o).map fun i => l.getD i 0, 0) else ([], 13)
theorem inv_end {o zs : List Int} (h : permB o = true) (hl : zs.length = o.length) (hz : ∀ (j x : Nat), (natL o)[j]? = some x → zs[x]? = some (j : Int)) : zs = (invF (natL o)).map fun i => ((i : Nat) : Int) := by
  have hp := natL_perm h
  apply List.ext_getElem?
  intro x
  by_cases hx : x < o.length
  · have hx2 : x < (invF (natL o)).length := by rw [invF_len, natL_len]; exact hx
    have e := at_inv hp (List.getElem?_eq_getElem hx2)
    rw [hz _ _ e, List.getElem?_map, List.getElem?_eq_getElem hx2]
    rfl
  · rw [List.getElem?_eq_none (by omega), List.getElem?_eq_none (by rw [List.length_map, invF_len, natL_len]; omega)]
set_option maxRecDepth 100000 in
set_option maxHeartbeats 2000000 in
theorem roInverse_any (A : Option Addr) (n c : Nat) (o : List Int) (w : World) (hr : Rd w 1 A n (o.map (Value.int .i64))) (hn : n ≤ 100000) :
    Calls Try.prog 17 #[.slice A n c] w fun e w' => ∃ v, e = .returned (.tuple #[v, .int .i64 (invE o).2]) ∧ w'.ownsRow w.heap.size 3 1 v (invE o).1.length ((invE o).1.map (Value.int .i64)) ∧ Below w.heap.size w w' := by
  have hl : o.length = n := by simpa using hr.len1
  have HL := Lib.hid hl
  have HR := Lib.hid hr
  have HP := Lib.hid (roPermutes_any A n c o w hr hn)
  clear hl hr
  obtain ⟨b, hb⟩ : ∃ b, permB o = b := ⟨_, rfl⟩
  rw [hb] at HP
  cases b with
  | false =>
    have HE := Lib.hid (show invE o = ([], 13) by unfold invE; rw [if_neg (by rw [hb]; decide)])
    rw [HE.out]
    clear hb HE
    go_enter Try.func17, Try.ntmps17
    go_wp2_with (first
      | (go_at_call 29; refine HP.out.mono ?_; rintro e w1 ⟨rfl, hb1⟩)
      | fail)
    go_ret2
    exact ⟨_, rfl, ⟨rfl, .inl ⟨rfl, rfl⟩⟩, hb1⟩
  | true =>
    have HPB := Lib.hid hb
    have HE := Lib.hid (show invE o = ((invF (natL o)).map fun i => ((i : Nat) : Int), 0) by unfold invE; rw [if_pos hb])
    have HLE := Lib.hid (show ((invF (natL o)).map fun i => ((i : Nat) : Int)).length = n by rw [List.length_map, invF_len, natL_len, HL.out])
    rw [HE.out]
    clear hb HE
    go_enter Try.func17, Try.ntmps17
    go_wp2_with (first
      | (go_at_call 29; refine HP.out.mono ?_; rintro e w0 ⟨rfl, hb0⟩)
      | (refine wpList_mkFull rfl _ _ _ rfl (base := w0.heap.size) (e := 3) (bytes := 8) (z := .int .i64 0) Try.underlying22 (by kernel_rfl) rfl (n : Int) (n : Int) n rfl rfl rfl rfl (by omega) (by unfold maxLen; omega) (Nat.le_refl _) ?_; intro w1 hown1 hg1)
      | fail)
    obtain ⟨g, hg⟩ : ∃ g, w0.heap.size = g := ⟨_, rfl⟩
    have HM0 : Hid (w1.ownsRow w.heap.size 3 1 (.slice (some ⟨g, 0, none⟩) n n) n ((List.replicate n (0 : Int)).map (Value.int .i64))) := Lib.hid (by rw [List.map_replicate, ← hg]; exact own_base hown1 hb0.size)
    have HB0 := Lib.hid (hb0.trans ((below_make hg1).mono hb0.size))
    rw [hg]
    clear hown1 hg1 hb0 hg
    go_wp2_with fail
    go_loopw [5] (fun i wr => ∃ (k : Nat) (zs : List Int), k ≤ n ∧ i = .int .i64 (k : Int) ∧ zs.length = n ∧ (∀ j x : Nat, j < k → (natL o)[j]? = some x → zs[x]? = some (j : Int)) ∧ wr.ownsRow w.heap.size 3 1 (.slice (some ⟨g, 0, none⟩) n n) n (zs.map (Value.int .i64)) ∧ Below w.heap.size w wr) (fun i _ => n - (intOf i).toNat)
    case atStart => exact ⟨0, _, Nat.zero_le _, rfl, List.length_replicate .., fun j x h => by omega, HM0.out, HB0.out⟩
    case round =>
      obtain ⟨k, zs, hk, rfl, hzl, hz, hO, hb⟩ := hrel
      have HZL := Lib.hid hzl
      have HZ := Lib.hid hz
      have HO := Lib.hid hO
      have HB := Lib.hid hb
      clear hzl hz hO hb
      by_cases hlt : k < n
      · obtain ⟨x, hx⟩ : ∃ x, o[k]? = some x := ⟨_, List.getElem?_eq_getElem (by rw [HL.out]; exact hlt)⟩
        obtain ⟨ad, rfl, hab, hcell⟩ := (HR.out.below HB.out).at_ hlt
        have cx : wr.cell? (ad.add k) = some (.int .i64 x) := hcell _ (by rw [List.getElem?_map, hx]; rfl)
        obtain ⟨y, rfl, hyl, hny⟩ := natL_at HPB.out hx
        rw [HL.out] at hyl
        have hkn : (k : Int) < (n : Int) := by omega
        have hk0 : (0 : Int) ≤ (k : Int) := by omega
        have hk5 : (k : Int) ≤ 100000 := by omega
        have hyn : (y : Int) < (n : Int) := by omega
        have hy0 : (0 : Int) ≤ (y : Int) := by omega
        obtain ⟨⟨u, cu⟩, fu⟩ := own_slot HO.out (j := y) (by omega)
        have HN := Lib.hid (show ∀ j x : Nat, j < k + 1 → (natL o)[j]? = some x → (zs.set y (k : Int))[x]? = some (j : Int) by
          intro j x hj hjx
          by_cases hjk : j = k
          · rw [hjk] at hjx ⊢
            rw [hny] at hjx
            obtain rfl := Option.some.inj hjx
            rw [List.getElem?_set_self (by rw [HZL.out]; exact hyl)]
          · have hne : y ≠ x := by
              intro e
              subst e
              have h1 := posF_at (perm_nodup (natL_perm HPB.out)) hjx
              have h2 := posF_at (perm_nodup (natL_perm HPB.out)) hny
              omega
            rw [List.getElem?_set_ne hne]
            exact HZ.out j x (by omega) hjx)
        have HO2 := Lib.hid ((HO.out.stored y (.int .i64 (k : Int))).1)
        have HB2 := Lib.hid (HB.out.setCell (p := ⟨g, y, none⟩) (HO.out.lt g rfl).1 (.int .i64 (k : Int)))
        clear hx hcell hny
        go_wp2
        go_roundw
        case rel => exact ⟨k + 1, zs.set y (k : Int), by omega, by go_num, by rw [List.length_set]; exact HZL.out, HN.out, by rw [List.map_set]; exact HO2.out, HB2.out⟩
        case measure => simp [intOf]; omega
      · obtain rfl : k = n := by omega
        have HT := Lib.hid (inv_end HPB.out (by rw [HZL.out, HL.out]) (fun j x hx => HZ.out j x (by have := (List.getElem?_eq_some_iff.1 hx).1; rw [natL_len, HL.out] at this; exact this) hx))
        rw [HT.out] at HO
        go_wp2
        go_ret2
        exact ⟨_, rfl, by rw [HLE.out]; exact HO.out, HB.out⟩
end Go.Proofs.Ytbnjflkafdkcpaa
