/- Texts of one claim, one behind the other. -/
import Derived.Test.YtcdogkabdhbjmaaDoorRows
import Derived.WalkKit
import Derived.WalkSpells
import Derived.WalkLawsBesides
import Derived.Handy
import Derived.Below
import Derived.Laws.OwnMore
import Derived.Deep.AppendLies
import Derived.Deep.Draws
import Derived.Laws.Rows
import Derived.Maps.AppendAt
import Derived.RegionTactic
import Derived.OwnWalk
import Derived.Deep.QuietTactic
import Derived.BigQuiet
import Derived.Lib.Hide
import Derived.Deep.LoopGhost
import Derived.Lib.FieldsP
import Derived.Lib.DecodeN
import Derived.Lib.TrimUEq
import Derived.Lib.Strings
import Derived.Lib.RuneCount
import Derived.ChangeKeysEq
import Derived.Laws.StructEq
/- Words for memory that all later texts share: a slice that reads as a list, blocks, appends (after the guide's own page of words), and small facts on endings. -/
namespace Go.Proofs.YtcdogkabdhbjmaaDoor
open Go.RowKit

theorem blockAdd (a : Addr) (n : Nat) : (a.add n).block = a.block := by unfold Addr.add; split <;> rfl
theorem addAdd (a : Addr) (i j : Nat) : (a.add i).add j = a.add (i + j) := by
  unfold Addr.add
  by_cases hi : i = 0 <;> by_cases hj : j = 0 <;> simp [hi, hj, Nat.add_assoc]

/-- In world w the slice value with address A and length n reads as the cells xs ('size' cells an element), all in memory that is there. -/
def Rd (w : World) (size : Nat) (A : Option Addr) (n : Nat) (xs : List Value) : Prop :=
  xs.length = n * size ∧ (0 < n → ∃ ad, A = some ad ∧ ad.block < w.heap.size ∧ ∀ j u, xs[j]? = some u → w.cell? (ad.add j) = some u)

section
variable {w w' : World} {size n : Nat} {A : Option Addr} {xs : List Value}
theorem Rd.nil_ : Rd w size A 0 [] := ⟨by simp, fun h => absurd h (by omega)⟩
theorem Rd.len1 (h : Rd w 1 A n xs) : xs.length = n := by have := h.1; omega
theorem Rd.at_ {k : Nat} (h : Rd w 1 A n xs) (hk : k < n) : ∃ ad, A = some ad ∧ ad.block < w.heap.size ∧ ∀ u, xs[k]? = some u → w.cell? (ad.add k) = some u := by
  obtain ⟨ad, e, hb, hc⟩ := h.2 (by omega)
  exact ⟨ad, e, hb, fun u hu => hc k u hu⟩
theorem Rd.below (h : Rd w size A n xs) (hb : Below w.heap.size w w') : Rd w' size A n xs :=
  ⟨h.1, fun hn => by
    obtain ⟨ad, e, hlt, hc⟩ := h.2 hn
    exact ⟨ad, e, Nat.lt_of_lt_of_le hlt hb.size, fun j u hu => (hb.cell (by rw [blockAdd]; exact hlt)).trans (hc j u hu)⟩⟩
theorem Rd.drewN (h : Rd w size A n xs) (k : Nat) : Rd (w.drewN k) size A n xs := h
theorem Rd.alloc (h : Rd w size A n xs) (o : Obj) : Rd (w.alloc o) size A n xs := h.below ((Below.refl _ _).alloc (Nat.le_refl _) o)
/-- A cut 's[k:]'. -/
theorem Rd.cut (h : Rd w size A n xs) {k cap : Nat} (hk : k ≤ n) (hc : n ≤ cap) :
    Rd w size (if cap = k then A else A.map (·.add (k * size))) (n - k) (xs.drop (k * size)) := by
  refine ⟨by rw [List.length_drop, h.1, Nat.sub_mul], fun hn => ?_⟩
  obtain ⟨ad, rfl, hb, hcell⟩ := h.2 (by omega)
  rw [if_neg (by omega)]
  refine ⟨ad.add (k * size), rfl, by rw [blockAdd]; exact hb, fun j u hu => ?_⟩
  rw [addAdd]
  exact hcell _ u (by rw [← hu, List.getElem?_drop])
theorem Rd.of_own {base : Nat} {e : TypeId} {c : Nat} (h : w.ownsRow base e size (.slice A n c) n xs) : Rd w size A n xs := by
  refine ⟨h.1, fun hn => ?_⟩
  obtain ⟨g, cap, hv, _, hlt⟩ := h.form hn
  have hA : A = some ⟨g, 0, none⟩ := by injection hv
  subst hA
  exact ⟨_, rfl, hlt, h.cells (g := g) rfl⟩
end

theorem Rd.news {w : World} {size n : Nat} {ad : Addr} {xs : List Value} (h : Rd w size (some ad) n xs) : ∀ j u, xs[j]? = some u → w.cell? (ad.add j) = some u := by
  intro j u hu
  rcases Nat.eq_zero_or_pos n with h0 | h0
  · subst h0
    have hn : xs = [] := List.eq_nil_of_length_eq_zero (by simpa using h.1)
    subst hn
    simp at hu
  · obtain ⟨ad', e, _, hc⟩ := h.2 h0
    injection e with e
    subst e
    exact hc j u hu
/-- What a row of the call's own looks like as a value: a slice of that length. -/
theorem own_form {w : World} {base : Nat} {e : TypeId} {size : Nat} {v : Value} {n : Nat} {xs : List Value} (h : w.ownsRow base e size v n xs) : ∃ A c, v = .slice A n c ∧ n ≤ c := by
  rcases h.2 with ⟨rfl, rfl⟩ | ⟨g, cap, cur, rfl, _, _, hnc, _⟩
  · exact ⟨none, 0, rfl, Nat.le_refl _⟩
  · exact ⟨_, _, rfl, hnc⟩

/-- The slice type T has elements of type E, of so many cells and bytes. -/
def SliceOf (P : Program) (T E : TypeId) (size bytes : Nat) : Prop :=
  P.underlying T = some (.slice E) ∧ ∃ i z, P.info? E = some i ∧ i.zero = some z ∧ i.size = size ∧ i.bytes = bytes ∧ z.cells.size = size
theorem SliceOf.mk_ {P : Program} {T E : TypeId} {size bytes : Nat} {z : Value} (h : P.underlying T = some (.slice E)) (hi : (P.info? E).map (fun i => (i.zero, i.size, i.bytes)) = some (some z, size, bytes)) (hz : z.cells.size = size) : SliceOf P T E size bytes := by
  obtain ⟨i, h1, h2, h3, h4⟩ := info_parts hi
  exact ⟨h, i, z, h1, h2, h3, h4, hz⟩

/-- append onto a row of the call's own, the source at an address. -/
theorem wpList_app {P : Program} {w : World} {ops : Array Oper} {rest : List Oper} {o : Oper} {a : Act} {Q : Exit → Act → World → Prop} (hgd : o.guard = none) (s x : Operand) (t : TypeId)
    (ho : o.op = .call { callee := .builtin .append, args := #[s, x], argTypes := #[t, t] })
    {base : Nat} {e : TypeId} {size bytes : Nat} (S : SliceOf P t e size bytes) (hsz : 0 < size)
    (v : Value) (n : Nat) (xs : List Value) (hs : a.eval s = v) (hown : w.ownsRow base e size v n xs)
    (ad : Addr) (m c : Nat) (news : List Value) (hx : a.eval x = .slice (some ad) m c) (hl : news.length = m * size) (hnews : ∀ j u, news[j]? = some u → w.cell? (ad.add j) = some u) (h1 : ∀ u ∈ news, u.oneCell' = true)
    (hbytes : (n + m) * bytes ≤ 140737488355328) (h63 : n + m ≤ maxLen) (hbase : base ≤ w.heap.size)
    (h : ∀ v' w', w'.ownsRow base e size v' (n + m) (xs ++ news) → w.grownBy w' v.ownBlock → (v'.ownBlock = v.ownBlock ∨ v'.ownBlock = some w.heap.size) → wpList P ops Q rest (a.put o.dst v') w') :
    wpList P ops Q (o :: rest) a w := by
  obtain ⟨ht, i, z, hi, hz, hs1, hb1, hzs⟩ := S
  exact wpList_append_own_at w hgd s x t ho base e i z size bytes ht hi hz hs1 hb1 hzs hsz v n xs hs hown ad m c news hx hl hnews h1 h63 hbytes hbase (fun v' w' a1 a2 _ a4 => h v' w' a1 a2 a4)

theorem run_app_nil {P : Program} (w : World) (base : Nat) (t ty e : TypeId) (size bytes : Nat) (S : SliceOf P t e size bytes)
    (v : Value) (n : Nat) (xs : List Value) (hown : w.ownsRow base e size v n xs) (c : Nat) : (Builtin.append_ #[t, t] ty #[v, .slice none 0 c]).run P w = .ok v w := by
  obtain ⟨ht, i, z, hi, hz, hs1, hb1, hzs⟩ := S
  rcases hown.2 with ⟨rfl, rfl⟩ | ⟨g, cap, cur, rfl, _, _, hnc, _⟩
  · simp [Builtin.append_, run_underlying ht, sizeOf, typeInfo, hi, Builtin.lenOf, Builtin.firstCells]
  · simp [Builtin.append_, run_underlying ht, sizeOf, typeInfo, hi, Builtin.lenOf, Builtin.firstCells, hnc, storeCells]

/-- append onto a row of the call's own, the source any slice that reads as 'news', nil too. -/
theorem wpList_appR {P : Program} {w : World} {ops : Array Oper} {rest : List Oper} {o : Oper} {a : Act} {Q : Exit → Act → World → Prop} (hgd : o.guard = none) (s x : Operand) (t : TypeId)
    (ho : o.op = .call { callee := .builtin .append, args := #[s, x], argTypes := #[t, t] })
    {base : Nat} {e : TypeId} {size bytes : Nat} (S : SliceOf P t e size bytes) (hsz : 0 < size)
    (v : Value) (n : Nat) (xs : List Value) (hs : a.eval s = v) (hown : w.ownsRow base e size v n xs)
    (A : Option Addr) (m c : Nat) (news : List Value) (hx : a.eval x = .slice A m c) (hr : Rd w size A m news) (h1 : ∀ u ∈ news, u.oneCell' = true)
    (hbytes : (n + m) * bytes ≤ 140737488355328) (h63 : n + m ≤ maxLen) (hbase : base ≤ w.heap.size)
    (h : ∀ v' w', w'.ownsRow base e size v' (n + m) (xs ++ news) → w.grownBy w' v.ownBlock → (v'.ownBlock = v.ownBlock ∨ v'.ownBlock = some w.heap.size) → wpList P ops Q rest (a.put o.dst v') w') :
    wpList P ops Q (o :: rest) a w := by
  rcases A with _ | ad
  · have hm : m = 0 := by
      rcases Nat.eq_zero_or_pos m with h0 | h0
      · exact h0
      · obtain ⟨_, e, _⟩ := hr.2 h0
        cases e
    subst hm
    have hn : news = [] := List.eq_nil_of_length_eq_zero (by simpa using hr.1)
    subst hn
    have hrun := run_app_nil (P := P) w base t o.type e size bytes S v n xs hown c
    refine wpList_plain hgd fun K hK => ?_
    unfold Oper.wp execOp
    simp only [ho, resolve, invoke, builtin, Sem.run_bind, Sem.run_pure, Result.andThen_ok, List.map_toArray, List.map_cons, List.map_nil, hs, hx, hrun]
    exact hK _ _ (h v w (by simpa using hown) (World.grownBy.refl w _) (.inl rfl))
  · exact wpList_app hgd s x t ho S hsz v n xs hs hown ad m c news hx hr.1 hr.news h1 hbytes h63 hbase h

/-- make([]T, 0, n). -/
theorem wpList_mk {P : Program} {w : World} {ops : Array Oper} {rest : List Oper} {o : Oper} {a : Act} {Q : Exit → Act → World → Prop}
    (hg : o.guard = none) (l c : Operand) (t : TypeId) (hop : o.op = Op.makeSlice t l c)
    {base : Nat} {e : TypeId} {size bytes : Nat} (S : SliceOf P t e size bytes)
    {kl kc : IntKind} (C : Int) (n : Nat) (hl : a.eval l = .int kl 0) (hc : a.eval c = .int kc C) (hC : C = (n : Int)) (b2 : bytes * n ≤ 281474976710656) (b3 : n ≤ maxLen) (b4 : base ≤ w.heap.size)
    (hK : ∀ v' w', w'.ownsRow base e size v' 0 [] → w.grownBy w' none → wpList P ops Q rest (a.put o.dst v') w') :
    wpList P ops Q (o :: rest) a w := by
  obtain ⟨ht, i, z, hi, hz, hs1, hb1, hzs⟩ := S
  exact wpList_make_own w hg l c t hop base e i z size ht hi hz hs1 kl kc C n hl hc hC (by rw [hb1]; exact b2) b3 b4 (fun w' a1 a2 => hK _ w' a1 a2)

/-- make([]T, n), T of one cell. -/
theorem wpList_mkFull {P : Program} {w : World} {ops : Array Oper} {rest : List Oper} {o : Oper} {a : Act} {Q : Exit → Act → World → Prop}
    (hg : o.guard = none) (l c : Operand) (t : TypeId) (hop : o.op = Op.makeSlice t l c)
    {base : Nat} {e : TypeId} {bytes : Nat} {z : Value} (ht : P.underlying t = some (.slice e)) (hin : (P.info? e).map (fun i => (i.zero, i.size, i.bytes)) = some (some z, 1, bytes)) (hz : z.cells = #[z])
    {kl kc : IntKind} (L C : Int) (n : Nat) (hl : a.eval l = .int kl L) (hc : a.eval c = .int kc C) (hL : L = (n : Int)) (hC : C = (n : Int)) (b2 : bytes * n ≤ 281474976710656) (b3 : n ≤ maxLen) (b4 : base ≤ w.heap.size)
    (hK : ∀ w', w'.ownsRow base e 1 (.slice (some ⟨w.heap.size, 0, none⟩) n n) n (List.replicate n z) → w.grownBy w' none → wpList P ops Q rest (a.put o.dst (.slice (some ⟨w.heap.size, 0, none⟩) n n)) w') :
    wpList P ops Q (o :: rest) a w := by
  obtain ⟨i, h1, h2, h3, h4⟩ := info_parts hin
  refine wpList_make_full w hg l c t hop base e i z 1 ht h1 h2 h3 kl kc L C n hl hc hL hC (by rw [h4]; exact b2) b3 b4 (fun w' a1 a2 => hK w' ?_ a2)
  rw [hz, Nat.mul_one, toList_madeCells_one] at a1
  exact a1

theorem addNew (g j : Nat) : (⟨g, 0, none⟩ : Addr).add j = ⟨g, j, none⟩ := by
  unfold Addr.add
  split
  · rename_i h; subst h; rfl
  · simp
/-- The cells of a new block. -/
theorem cells_new (w : World) (cs : List Value) (t : TypeId) : ∀ j u, cs[j]? = some u → (w.alloc (.cells cs.toArray t)).cell? ((⟨w.heap.size, 0, none⟩ : Addr).add j) = some u := by
  intro j u hj
  rw [addNew, World.cell?_alloc_at _ _ _ _ rfl]
  simpa using hj

theorem Rd.new_ (w : World) (cs : List Value) (t : TypeId) : Rd (w.alloc (.cells cs.toArray t)) 1 (some ⟨w.heap.size, 0, none⟩) cs.length cs :=
  ⟨by simp, fun _ => ⟨_, rfl, by simp, cells_new w cs t⟩⟩
theorem cell_lt {w : World} {a : Addr} {v : Value} (h : w.cell? a = some v) : a.block < w.heap.size := by
  unfold World.cell? at h
  rcases Nat.lt_or_ge a.block w.heap.size with hlt | hge
  · exact hlt
  · rw [Array.getElem?_eq_none hge] at h; cases h
theorem cell_below {w w' : World} {a : Addr} {v : Value} (hb : Below w.heap.size w w') (h : w.cell? a = some v) : w'.cell? a = some v := (hb.cell (cell_lt h)).trans h
theorem below_self {w a b : World} (h : Below w.heap.size w a) (k : Below a.heap.size a b) : Below w.heap.size w b := h.trans (k.mono h.size)
theorem below_new (w : World) (o : Obj) : Below w.heap.size w (w.alloc o) := (Below.refl _ _).alloc (Nat.le_refl _) o
theorem below_drew {w a : World} (h : Below w.heap.size w a) (n : Nat) : Below w.heap.size w (a.drewN n) := ⟨h.os, h.tape, h.output, h.size, h.block⟩
theorem oneInt (k : IntKind) (x : Int) : ∀ u ∈ [Value.int k x], u.oneCell' = true := by
  intro u hu
  simp at hu
  subst hu
  rfl
theorem oneInt2 (k : IntKind) (x y : Int) : ∀ u ∈ [Value.int k x, .int k y], u.oneCell' = true := by
  intro u hu
  simp at hu
  rcases hu with rfl | rfl <;> rfl
theorem oneInts (k : IntKind) (xs : List Int) : ∀ u ∈ xs.map (Value.int k), u.oneCell' = true := by
  intro u hu
  simp at hu
  obtain ⟨x, _, rfl⟩ := hu
  rfl
/-- A row below which all stood is told of what it was of. -/
theorem ownBlock_slice (A : Option Addr) (n c k : Nat) (h : (Value.slice A n c).ownBlock = some k) : ∃ a, A = some a ∧ a.block = k := by
  rcases A with _ | a
  · cases h
  · exact ⟨a, rfl, by injection h⟩
theorem below_app {B : Nat} {w0 w w' : World} {e : TypeId} {size n : Nat} {v : Value} {xs : List Value} (h : Below B w0 w) (hg : w.grownBy w' v.ownBlock) (hown : w.ownsRow B e size v n xs) (hB : B ≤ w.heap.size) : Below B w0 w' :=
  h.grown hg hB (fun k hk => (hown.lt k hk).1)

theorem retB {a b : Bool} (h : a = true ↔ b = true) : Ending.returned (.bool a) = .returned (.bool b) := by rw [Bool.eq_iff_iff.2 h]
theorem retI {a b : Int} (h : a = b) : Ending.returned (.int .i64 a) = .returned (.int .i64 b) := by rw [h]
theorem drewBelow {w : World} (n : Nat) : Below w.heap.size w (w.drewN n) := ⟨rfl, rfl, rfl, Nat.le_refl _, fun _ _ => rfl⟩
theorem below_drewN {B : Nat} {a w : World} (h : Below B a w) (n : Nat) : Below B a (w.drewN n) := ⟨h.os, h.tape, h.output, h.size, h.block⟩
end Go.Proofs.YtcdogkabdhbjmaaDoor
/- More words for memory: make with a length and a capacity; values in an aggregate. -/
namespace Go.Proofs.YtcdogkabdhbjmaaDoor
open Go.RowKit

/-- make([]T, l, c), T of one cell. -/
theorem wpList_mkN {P : Program} {w : World} {ops : Array Oper} {rest : List Oper} {o : Oper} {a : Act} {Q : Exit → Act → World → Prop}
    (hg : o.guard = none) (lo co : Operand) (t : TypeId) (hop : o.op = Op.makeSlice t lo co)
    {base : Nat} {e : TypeId} {bytes : Nat} {z : Value} (ht : P.underlying t = some (.slice e)) (hin : (P.info? e).map (fun i => (i.zero, i.size, i.bytes)) = some (some z, 1, bytes)) (hz : z.cells = #[z])
    {kl kc : IntKind} (L C : Int) (l c : Nat) (hl : a.eval lo = .int kl L) (hc : a.eval co = .int kc C) (hL : L = (l : Int)) (hC : C = (c : Int)) (hlc : l ≤ c) (b2 : bytes * c ≤ 281474976710656) (b3 : c ≤ maxLen) (b4 : base ≤ w.heap.size)
    (hK : ∀ w', w'.ownsRow base e 1 (.slice (some ⟨w.heap.size, 0, none⟩) l c) l (List.replicate l z) → w.grownBy w' none → wpList P ops Q rest (a.put o.dst (.slice (some ⟨w.heap.size, 0, none⟩) l c)) w') :
    wpList P ops Q (o :: rest) a w := by
  obtain ⟨i, h1, h2, h3, h4⟩ := info_parts hin
  subst hL hC
  have h63 : ((c : Nat) : Int) ≤ 9223372036854775807 := by unfold maxLen at b3; omega
  have hb' : (i.bytes : Int) * (c : Int) ≤ 281474976710656 := by
    have h : ((i.bytes * c : Nat) : Int) ≤ 281474976710656 := by rw [h4]; omega
    rwa [Int.natCast_mul] at h
  have hr := run_make (P := P) w t e i z ht h1 h2 kl kc l c (by omega) (by omega) hb' h63
  simp only [Int.toNat_natCast, h3, Nat.mul_one, hz] at hr
  have hown : (w.alloc (.cells (madeCells #[z] c) e)).ownsRow base e 1 (.slice (some ⟨w.heap.size, 0, none⟩) l c) l (List.replicate l z) := by
    refine ⟨by simp, .inr ⟨w.heap.size, c, madeCells #[z] c, rfl, b4, heap_alloc_new w _, hlc, b3, by rw [size_madeCells]; omega, ?_⟩⟩
    rw [toList_madeCells_one, Nat.mul_one, List.take_replicate]
    congr 1
    omega
  refine wpList_plain hg fun K hK' => ?_
  unfold Oper.wp
  simp [execOp, hop, hl, hc, hr, Result.andThen]
  exact hK' _ _ (hK _ hown (World.grownBy_alloc w _ none))

/-- A row of the call's own with at least one element: where it lies. -/
theorem own_at {w : World} {base : Nat} {e : TypeId} {v : Value} {n : Nat} {xs : List Value} (h : w.ownsRow base e 1 v n xs) (hn : 0 < n) :
    ∃ g c, v = .slice (some ⟨g, 0, none⟩) n c ∧ n ≤ c ∧ g < w.heap.size ∧ base ≤ g ∧ ∀ j u, xs[j]? = some u → w.cell? ⟨g, j, none⟩ = some u := by
  obtain ⟨g, c, hv, hbg, hlt⟩ := h.form hn
  obtain ⟨_, _, e, hnc⟩ := own_form h
  subst hv
  injection e with _ _ e
  subst e
  refine ⟨g, c, rfl, hnc, hlt, hbg, fun j u hj => ?_⟩
  have := h.cells (g := g) rfl j u hj
  rwa [addNew] at this
/-- What is owned from a later block on is owned from an earlier one on. -/
theorem own_base {w : World} {base b' : Nat} {e : TypeId} {size : Nat} {v : Value} {n : Nat} {xs : List Value} (h : w.ownsRow base e size v n xs) (hb : b' ≤ base) : w.ownsRow b' e size v n xs := by
  obtain ⟨h1, h2⟩ := h
  refine ⟨h1, ?_⟩
  rcases h2 with h2 | ⟨g, cap, cur, hv, hg, r⟩
  · exact .inl h2
  · exact .inr ⟨g, cap, cur, hv, Nat.le_trans hb hg, r⟩
/-- A block of the call's own that no row is, behind an append or a make. -/
theorem blk_grown {w w' : World} {b : Nat} {o : Obj} {row : Option Nat} (h : w.heap[b]? = some o) (hg : w.grownBy w' row) (hne : row ≠ some b) : w'.heap[b]? = some o :=
  (hg.block b (by
    rcases Nat.lt_or_ge b w.heap.size with h' | h'
    · exact h'
    · simp [Array.getElem?_eq_none h'] at h) (fun e => hne e.symm)).trans h
theorem blk_alloc {w : World} {b : Nat} {o : Obj} (h : w.heap[b]? = some o) (o' : Obj) : (w.alloc o').heap[b]? = some o :=
  blk_grown h (World.grownBy_alloc w _ none) (by simp)
/-- A callee that leaves the world alone, inside a quiet region. -/
theorem quiet_eq {P : Program} {f : FuncId} {args : Array Value} {w : World} {n : Nat} {v : Value}
    (h : Calls P f args (w.drewN n) fun e w' => e = .returned v ∧ w.drewN n = w') : Calls P f args (w.drewN n) fun e w'' => e = .returned v ∧ ∃ m, w'' = w.drewN m :=
  Calls.quiet_of_same (h.mono fun _ _ ⟨a, b⟩ => ⟨a, b.symm⟩)
theorem toList_madeSame (z : Array Value) (z0 : Value) (h0 : 0 < z.size) (hz : ∀ j, j < z.size → z[j]! = z0) (n : Nat) : (madeCells z n).toList = List.replicate n z0 := by
  rw [List.eq_replicate_iff]
  refine ⟨by simp [madeCells], fun b hb => ?_⟩
  simp only [madeCells, Array.toList_map, List.mem_map] at hb
  obtain ⟨j, _, rfl⟩ := hb
  exact hz _ (Nat.mod_lt _ h0)
/-- make([]T, n), T a struct whose cells are all the same at zero. -/
theorem wpList_mkZ {P : Program} {w : World} {ops : Array Oper} {rest : List Oper} {o : Oper} {a : Act} {Q : Exit → Act → World → Prop}
    (hg : o.guard = none) (l c : Operand) (t : TypeId) (hop : o.op = Op.makeSlice t l c)
    {base : Nat} {e : TypeId} {size bytes : Nat} {z z0 : Value} (ht : P.underlying t = some (.slice e)) (hin : (P.info? e).map (fun i => (i.zero, i.size, i.bytes)) = some (some z, size, bytes)) (h0 : 0 < z.cells.size) (hz : ∀ j, j < z.cells.size → z.cells[j]! = z0)
    {kl kc : IntKind} (L C : Int) (n : Nat) (hl : a.eval l = .int kl L) (hc : a.eval c = .int kc C) (hL : L = (n : Int)) (hC : C = (n : Int)) (b2 : bytes * n ≤ 281474976710656) (b3 : n ≤ maxLen) (b4 : base ≤ w.heap.size)
    (hK : ∀ w', w'.ownsRow base e size (.slice (some ⟨w.heap.size, 0, none⟩) n n) n (List.replicate (n * size) z0) → w.grownBy w' none → wpList P ops Q rest (a.put o.dst (.slice (some ⟨w.heap.size, 0, none⟩) n n)) w') :
    wpList P ops Q (o :: rest) a w := by
  obtain ⟨i, h1, h2, h3, h4⟩ := info_parts hin
  refine wpList_make_full w hg l c t hop base e i z size ht h1 h2 h3 kl kc L C n hl hc hL hC (by rw [h4]; exact b2) b3 b4 (fun w' a1 a2 => hK w' ?_ a2)
  rwa [toList_madeSame _ z0 h0 hz] at a1
/-- Two cells next to each other, stored into a row of the call's own. -/
theorem own_store2 {w : World} {base : Nat} {e : TypeId} {size g n cap : Nat} {xs : List Value} (h : w.ownsRow base e size (.slice (some ⟨g, 0, none⟩) n cap) n xs) (j : Nat) (u v : Value) :
    ((w.setCell ⟨g, j, none⟩ u).setCell ⟨g, j + 1, none⟩ v).ownsRow base e size (.slice (some ⟨g, 0, none⟩) n cap) n ((xs.set j u).set (j + 1) v) :=
  ((h.stored j u).1.stored (j + 1) v).1
/-- A cell of a row of the call's own is there and may be written. -/
theorem own_slot {w : World} {base : Nat} {e : TypeId} {size g n cap : Nat} {xs : List Value} (h : w.ownsRow base e size (.slice (some ⟨g, 0, none⟩) n cap) n xs) {j : Nat} (hj : j < n * size) :
    (∃ u, w.cell? ⟨g, j, none⟩ = some u) ∧ w.frozen? ⟨g, j, none⟩ = false :=
  ⟨⟨xs[j]'(by rw [h.1]; exact hj), by rw [h.cellAt j hj, List.getElem?_eq_getElem]⟩, h.frozenAt j⟩
end Go.Proofs.YtcdogkabdhbjmaaDoor
/- Options as data: whether they go together, as a number, and back. -/
namespace Go.Proofs.YtcdogkabdhbjmaaDoor
open Go.RowKit

/-- Options: four kinds, ten flags. -/
structure Opt where
  d : Int
  l : Int
  t : Int
  g : Int
  b0 : Bool
  b1 : Bool
  b2 : Bool
  b3 : Bool
  b4 : Bool
  b5 : Bool
  b6 : Bool
  b7 : Bool
  b8 : Bool
  b9 : Bool
deriving DecidableEq
namespace Opt
def cells (o : Opt) : Array Value := #[.int .i64 o.d, .int .i64 o.l, .int .i64 o.t, .int .i64 o.g, .bool o.b0, .bool o.b1, .bool o.b2, .bool o.b3, .bool o.b4, .bool o.b5, .bool o.b6, .bool o.b7, .bool o.b8, .bool o.b9]
def val (o : Opt) : Value := .agg o.cells
def zero : Opt := ⟨0, 0, 0, 0, false, false, false, false, false, false, false, false, false, false⟩
/-- Whether the kinds are such as there may be. -/
def may (o : Opt) : Bool := decide (0 ≤ o.d ∧ o.d ≤ 3 ∧ 0 ≤ o.l ∧ o.l ≤ 4 ∧ 0 ≤ o.t ∧ o.t ≤ 4 ∧ 0 ≤ o.g ∧ o.g ≤ 4)
/-- Whether they do not go together. -/
def odd (o : Opt) : Bool := (!o.b1 && (decide (o.l ≠ 0) || decide (o.t ≠ 0) || o.b3 || o.b4 || o.b5)) || (o.b2 && decide (o.l = 0)) || (o.b3 && (decide (o.t = 3) || decide (o.t = 4))) || (o.b7 && !o.b6)
def err (o : Opt) : Int := if o.may = true then (if o.odd = true then 3 else 0) else 1
def n1 (b : Bool) : Nat := if b = true then 1 else 0
def flags (o : Opt) : List Bool := [o.b0, o.b1, o.b2, o.b3, o.b4, o.b5, o.b6, o.b7, o.b8, o.b9]
/-- The flags as a number, the first one counts least. -/
def low : List Bool → Nat
  | [] => 0
  | b :: l => n1 b + 2 * low l
def fl (o : Opt) : Nat := low o.flags
def num (o : Opt) : Int := o.d + 4 * o.l + 20 * o.t + 100 * o.g + 500 * (o.fl : Nat)
/-- The options of a number. -/
def of (n : Nat) : Opt := ⟨(n % 4 : Nat), (n / 4 % 5 : Nat), (n / 20 % 5 : Nat), (n / 100 % 5 : Nat), (n / 500).testBit 0, (n / 500).testBit 1, (n / 500).testBit 2, (n / 500).testBit 3, (n / 500).testBit 4, (n / 500).testBit 5, (n / 500).testBit 6, (n / 500).testBit 7, (n / 500).testBit 8, (n / 500).testBit 9⟩
def bits (o : Opt) : Int × Int := if o.err = 0 then (o.num, 0) else (0, o.err)
def back (n : Int) : Opt × Int := if n < 0 ∨ 511999 < n then (zero, 1) else if (of n.toNat).err = 0 then (of n.toNat, 0) else (zero, (of n.toNat).err)
theorem n1_le (b : Bool) : n1 b ≤ 1 := by cases b <;> decide
theorem n1_bit (b : Bool) : decide (n1 b = 1) = b := by cases b <;> rfl
theorem low_snoc (l : List Bool) (b : Bool) : low (l ++ [b]) = low l + n1 b * 2 ^ l.length := by
  induction l with
  | nil => simp [low]
  | cons a l ih =>
    rw [List.cons_append, low, low, ih, List.length_cons, Nat.pow_succ]
    rw [Nat.mul_add]
    have : 2 * (n1 b * 2 ^ l.length) = n1 b * (2 ^ l.length * 2) := by rw [Nat.mul_comm, Nat.mul_assoc]
    omega
theorem low_lt (l : List Bool) : low l < 2 ^ l.length := by
  induction l with
  | nil => decide
  | cons a l ih =>
    rw [low, List.length_cons, Nat.pow_succ]
    have := n1_le a
    omega
theorem low_bit : ∀ (l : List Bool) (i : Nat), (low l).testBit i = l.getD i false
  | [], i => by simp [low]
  | a :: l, 0 => by
    rw [low, Nat.testBit_zero]
    cases a <;> simp [n1] <;> omega
  | a :: l, i + 1 => by
    rw [low, Nat.testBit_succ, show (n1 a + 2 * low l) / 2 = low l by have := n1_le a; omega, low_bit l i]
    rfl
theorem fl_lt (o : Opt) : o.fl < 1024 := by
  have h := low_lt o.flags
  rw [show o.flags.length = 10 from rfl, show (2 : Nat) ^ 10 = 1024 by decide] at h
  exact h
theorem fl_of (m : Nat) (h : m < 1024) : low [m.testBit 0, m.testBit 1, m.testBit 2, m.testBit 3, m.testBit 4, m.testBit 5, m.testBit 6, m.testBit 7, m.testBit 8, m.testBit 9] = m := by
  apply Nat.eq_of_testBit_eq
  intro i
  rw [low_bit]
  by_cases hi : i < 10
  · have : i = 0 ∨ i = 1 ∨ i = 2 ∨ i = 3 ∨ i = 4 ∨ i = 5 ∨ i = 6 ∨ i = 7 ∨ i = 8 ∨ i = 9 := by omega
    rcases this with rfl | rfl | rfl | rfl | rfl | rfl | rfl | rfl | rfl | rfl <;> rfl
  · rw [Nat.testBit_lt_two_pow (Nat.lt_of_lt_of_le h (Nat.pow_le_pow_right (n := 2) (by decide) (show 10 ≤ i by omega)))]
    simp [List.getD, show ¬ i < 10 from hi]
theorem err_zero {o : Opt} (h : o.err = 0) : o.may = true := by
  unfold err at h
  split at h
  · assumption
  · cases h
theorem num_of {n : Nat} (h : n < 512000) : (of n).num = n := by
  have hf : (of n).fl = n / 500 := fl_of (n / 500) (by omega)
  unfold num
  rw [hf]
  simp only [of]
  omega
theorem of_num {o : Opt} (h : o.may = true) : 0 ≤ o.num ∧ o.num ≤ 511999 ∧ of o.num.toNat = o := by
  unfold may at h
  simp only [decide_eq_true_eq] at h
  have hf := fl_lt o
  have e : o.num = o.d + 4 * o.l + 20 * o.t + 100 * o.g + 500 * (o.fl : Nat) := rfl
  have h0 : 0 ≤ o.num := by omega
  obtain ⟨m, hm⟩ : ∃ m : Nat, o.num = m := ⟨o.num.toNat, by omega⟩
  have hd : m / 500 = o.fl := by omega
  refine ⟨h0, by omega, ?_⟩
  rw [hm, Int.toNat_natCast]
  have hb : ∀ i, (m / 500).testBit i = o.flags.getD i false := fun i => by rw [hd]; exact low_bit _ _
  unfold of
  rw [hb 0, hb 1, hb 2, hb 3, hb 4, hb 5, hb 6, hb 7, hb 8, hb 9]
  have e0 : ((m % 4 : Nat) : Int) = o.d := by omega
  have e1 : ((m / 4 % 5 : Nat) : Int) = o.l := by omega
  have e2 : ((m / 20 % 5 : Nat) : Int) = o.t := by omega
  have e3 : ((m / 100 % 5 : Nat) : Int) = o.g := by omega
  rw [e0, e1, e2, e3]
  rfl
end Opt
end Go.Proofs.YtcdogkabdhbjmaaDoor
/- Words between blanks: the pieces of FieldsFunc at blanks, and the pieces that a pass over the bytes finds. -/
namespace Go.Proofs.YtcdogkabdhbjmaaDoor
open Go.Lib

def isB (r : Nat) : Bool := r == 32
/-- The words of a text. -/
def wordsF (s : ByteArray) : List ByteArray := goFieldsP isB s
/-- The spans, byte by byte. -/
def spansB (s : ByteArray) : Nat → Nat → Option Nat → List (Nat × Nat) → List (Nat × Nat) × Option Nat
  | 0, _, st, acc => (acc, st)
  | f + 1, pos, st, acc =>
    if (s.get! pos).toNat = 32 then
      (match st with
       | some a => spansB s f (pos + 1) none (acc ++ [(a, pos)])
       | none => spansB s f (pos + 1) none acc)
    else
      (match st with
       | some a => spansB s f (pos + 1) (some a) acc
       | none => spansB s f (pos + 1) (some pos) acc)
theorem spB0 (s : ByteArray) (f pos : Nat) (acc : List (Nat × Nat)) (hb : (s.get! pos).toNat = 32) : spansB s (f + 1) pos none acc = spansB s f (pos + 1) none acc := by
  conv => lhs; unfold spansB
  rw [if_pos hb]
theorem spB1 (s : ByteArray) (f pos a : Nat) (acc : List (Nat × Nat)) (hb : (s.get! pos).toNat = 32) : spansB s (f + 1) pos (some a) acc = spansB s f (pos + 1) none (acc ++ [(a, pos)]) := by
  conv => lhs; unfold spansB
  rw [if_pos hb]
theorem spB2 (s : ByteArray) (f pos : Nat) (acc : List (Nat × Nat)) (hb : ¬ (s.get! pos).toNat = 32) : spansB s (f + 1) pos none acc = spansB s f (pos + 1) (some pos) acc := by
  conv => lhs; unfold spansB
  rw [if_neg hb]
theorem spB3 (s : ByteArray) (f pos a : Nat) (acc : List (Nat × Nat)) (hb : ¬ (s.get! pos).toNat = 32) : spansB s (f + 1) pos (some a) acc = spansB s f (pos + 1) (some a) acc := by
  conv => lhs; unfold spansB
  rw [if_neg hb]
theorem byte_lt (s : ByteArray) (i : Nat) : (s.get! i).toNat < 256 := (s.get! i).toNat_lt
set_option maxHeartbeats 2000000 in
theorem decN_blank (n b0 b1 b2 b3 : Nat) (hn : 1 ≤ n) : isB (decodeN n b0 b1 b2 b3).1 = decide (b0 = 32) ∧ 1 ≤ (decodeN n b0 b1 b2 b3).2 ∧ (decodeN n b0 b1 b2 b3).2 ≤ n ∧ (b0 = 32 → (decodeN n b0 b1 b2 b3).2 = 1) ∧
    (1 < (decodeN n b0 b1 b2 b3).2 → b1 ≠ 32) ∧ (2 < (decodeN n b0 b1 b2 b3).2 → b2 ≠ 32) ∧ (3 < (decodeN n b0 b1 b2 b3).2 → b3 ≠ 32) ∧ (decodeN n b0 b1 b2 b3).2 ≤ 4 := by
  unfold isB decodeN
  by_cases hb : b0 < 128
  · rw [if_pos hb]
    refine ⟨?_, by simp only; omega, by simp only; omega, fun _ => rfl, ?_, ?_, ?_, ?_⟩
    · by_cases h : b0 = 32 <;> simp [h]
    all_goals (simp only; omega)
  · rw [if_neg hb]
    have e : decide (b0 = 32) = false := by simp; omega
    rw [e]
    repeat' split
    all_goals (refine ⟨by simp; try omega, ?_, ?_, ?_, ?_, ?_, ?_, ?_⟩ <;> simp only <;> omega)
/-- A step over the letters of a rune that is no blank. -/
theorem spansB_skip (s : ByteArray) (f a : Nat) (acc : List (Nat × Nat)) : ∀ (j pos : Nat), (∀ i, i < j → (s.get! (pos + i)).toNat ≠ 32) → spansB s (f + j) pos (some a) acc = spansB s f (pos + j) (some a) acc
  | 0, _, _ => rfl
  | j + 1, pos, h => by
    rw [show f + (j + 1) = (f + j) + 1 by omega, spB3 _ _ _ _ _ (by have := h 0 (by omega); simpa using this)]
    rw [spansB_skip s f a acc j (pos + 1) (fun i hi => by have := h (i + 1) (by omega); rwa [show pos + (i + 1) = pos + 1 + i by omega] at this), show pos + 1 + j = pos + (j + 1) by omega]
theorem spans_same (s : ByteArray) : ∀ (f pos : Nat) (st : Option Nat) (acc : List (Nat × Nat)), s.size - pos ≤ f → spansFromP isB s f pos st acc = spansB s (s.size - pos) pos st acc
  | 0, pos, st, acc, h => by
    rw [show s.size - pos = 0 by omega]
    rfl
  | f + 1, pos, st, acc, h => by
    by_cases hp : pos < s.size
    · have hd := decN_blank (s.size - pos) (s.get! pos).toNat (s.get! (pos + 1)).toNat (s.get! (pos + 2)).toNat (s.get! (pos + 3)).toNat (by omega)
      rw [← decode_at] at hd
      obtain ⟨K, hK⟩ : ∃ K, (Utf8.decode s pos).2 = K := ⟨_, rfl⟩
      rw [hK] at hd
      obtain ⟨h1, h2, h3, h4, h5, h6, h7, h8⟩ := hd
      unfold spansFromP
      rw [if_pos hp, h1, hK]
      obtain ⟨m, hm⟩ : ∃ m, s.size - pos = m + 1 := ⟨s.size - pos - 1, by omega⟩
      by_cases hb : (s.get! pos).toNat = 32
      · have hK1 := h4 hb
        subst hK1
        rw [hm, if_pos (decide_eq_true hb)]
        have e : s.size - (pos + 1) = m := by omega
        cases st with
        | none => simp only; rw [spans_same s f _ _ _ (by omega), e, spB0 _ _ _ _ hb]
        | some a => simp only; rw [spans_same s f _ _ _ (by omega), e, spB1 _ _ _ _ _ hb]
      · rw [hm, if_neg (by simpa using hb)]
        obtain ⟨j, hj⟩ : ∃ j, K = j + 1 := ⟨K - 1, by omega⟩
        have hsk : ∀ i, i < j → (s.get! (pos + 1 + i)).toNat ≠ 32 := fun i hi => by
          have hc : i = 0 ∨ i = 1 ∨ i = 2 := by omega
          rcases hc with rfl | rfl | rfl
          · exact h5 (by omega)
          · exact h6 (by omega)
          · exact h7 (by omega)
        have e : m = (s.size - (pos + K)) + j := by omega
        have e2 : pos + 1 + j = pos + K := by omega
        cases st with
        | none => simp only; rw [spans_same s f _ _ _ (by omega), spB2 _ _ _ _ hb, e, spansB_skip s _ _ _ j (pos + 1) hsk, e2]
        | some a => simp only; rw [spans_same s f _ _ _ (by omega), spB3 _ _ _ _ _ hb, e, spansB_skip s _ _ _ j (pos + 1) hsk, e2]
    · unfold spansFromP
      rw [if_neg hp, show s.size - pos = 0 by omega]
      rfl
theorem words_bytes (s : ByteArray) : wordsF s = (closeSpans s (spansB s s.size 0 none [])).map fun x => s.extract x.1 x.2 := by
  unfold wordsF goFieldsP spansOfP
  rw [spans_same s s.size 0 none [] (by omega), Nat.sub_zero]
/-- The words of a row of bytes, behind the letters of a word that is under way. -/
def splitL : List UInt8 → List UInt8 → List ByteArray
  | cur, [] => if cur = [] then [] else [⟨cur.toArray⟩]
  | cur, b :: l => if b.toNat = 32 then (if cur = [] then splitL [] l else ⟨cur.toArray⟩ :: splitL [] l) else splitL (cur ++ [b]) l
def curOf (s : ByteArray) (pos : Nat) : Option Nat → List UInt8
  | some a => pieceU s.data.toList a pos
  | none => []
theorem get_cons (s : ByteArray) {pos : Nat} (h : pos < s.size) : s.data.toList.drop pos = s.get! pos :: s.data.toList.drop (pos + 1) := by
  have hl : pos < s.data.toList.length := by simpa using h
  rw [List.drop_eq_getElem_cons hl]
  congr 1
  have h2 : pos < s.data.size := by simpa using h
  show _ = s.data[pos]!
  rw [getElem!_pos s.data pos h2, Array.getElem_toList]
theorem ext_piece (s : ByteArray) (a b : Nat) : s.extract a b = ⟨(pieceU s.data.toList a b).toArray⟩ := extract_eq s a b
theorem piece_snoc (s : ByteArray) {a pos : Nat} (ha : a ≤ pos) (h : pos < s.size) : pieceU s.data.toList a pos ++ [s.get! pos] = pieceU s.data.toList a (pos + 1) := by
  rw [← pieceU_grow _ a pos 1 ha, get_cons s h]
  rfl
theorem spans_split (s : ByteArray) : ∀ (f pos : Nat) (st : Option Nat) (acc : List (Nat × Nat)), f = s.size - pos → pos ≤ s.size → (∀ a, st = some a → a < pos) →
    (closeSpans s (spansB s f pos st acc)).map (fun x => s.extract x.1 x.2) = acc.map (fun x => s.extract x.1 x.2) ++ splitL (curOf s pos st) (s.data.toList.drop pos)
  | 0, pos, st, acc, hf, hp, hs => by
    have he : pos = s.size := by omega
    have hd : s.data.toList.drop pos = [] := List.drop_eq_nil_of_le (by rw [he]; simp)
    rw [hd, spansB]
    cases st with
    | none => simp [closeSpans, curOf, splitL]
    | some a =>
      have hne := pieceU_ne s.data.toList a pos (hs a rfl) (by simpa using hp)
      rw [splitL, if_neg (show ¬ curOf s pos (some a) = [] from hne)]
      simp only [closeSpans, curOf, List.map_append, List.map_cons, List.map_nil]
      rw [ext_piece, he]
  | f + 1, pos, st, acc, hf, hp, hs => by
    have hlt : pos < s.size := by omega
    rw [get_cons s hlt, splitL]
    by_cases hb : (s.get! pos).toNat = 32
    · rw [if_pos hb]
      cases st with
      | none =>
        rw [spB0 _ _ _ _ hb]
        simp only [curOf, if_true]
        exact spans_split s f (pos + 1) none acc (by omega) (by omega) (fun a h => by cases h)
      | some a =>
        have hne := pieceU_ne s.data.toList a pos (hs a rfl) (by simpa using hp)
        rw [spB1 _ _ _ _ _ hb, if_neg (show ¬ curOf s pos (some a) = [] from hne)]
        rw [spans_split s f (pos + 1) none (acc ++ [(a, pos)]) (by omega) (by omega) (fun a h => by cases h), List.map_append, List.append_assoc]
        simp only [List.map_cons, List.map_nil, ext_piece, curOf]
        rfl
    · rw [if_neg hb]
      cases st with
      | none =>
        rw [spB2 _ _ _ _ hb]
        simp only [curOf, List.nil_append]
        rw [spans_split s f (pos + 1) (some pos) acc (by omega) (by omega) (fun a h => by injection h with h; omega)]
        congr 2
        have := piece_snoc s (a := pos) (Nat.le_refl _) hlt
        show pieceU s.data.toList pos (pos + 1) = _
        rw [← this]
        simp [pieceU]
      | some a =>
        rw [spB3 _ _ _ _ _ hb]
        simp only [curOf]
        rw [spans_split s f (pos + 1) (some a) acc (by omega) (by omega) (fun b h => by injection h with h; have := hs a rfl; omega), piece_snoc s (by have := hs a rfl; omega) hlt]
        rfl
theorem words_split (s : ByteArray) : wordsF s = splitL [] s.data.toList := by
  unfold wordsF goFieldsP spansOfP
  rw [spans_same s s.size 0 none [] (by omega), Nat.sub_zero, spans_split s s.size 0 none [] rfl (Nat.zero_le _) (fun a h => by cases h)]
  rfl
theorem splitL_len : ∀ (l cur : List UInt8), (splitL cur l).length ≤ l.length + 1
  | [], cur => by unfold splitL; split <;> simp
  | b :: l, cur => by
    unfold splitL
    have h1 := splitL_len l []
    have h2 := splitL_len l (cur ++ [b])
    split
    · split
      · simp only [List.length_cons]; omega
      · simp only [List.length_cons]; omega
    · simp only [List.length_cons]; omega
theorem words_len (s : ByteArray) : (wordsF s).length ≤ s.size + 1 := by
  rw [words_split]
  have := splitL_len s.data.toList []
  simpa using this
/-- A word ahead of more. -/
theorem splitL_word : ∀ (w cur l : List UInt8), (∀ b ∈ w, b.toNat ≠ 32) → splitL cur (w ++ l) = splitL (cur ++ w) l
  | [], cur, l, _ => by simp
  | b :: w, cur, l, h => by
    rw [List.cons_append, splitL, if_neg (h b (by simp)), splitL_word w (cur ++ [b]) l (fun c hc => h c (by simp [hc]))]
    simp
theorem splitL_blank (cur : List UInt8) (b : UInt8) (l : List UInt8) (hb : b.toNat = 32) (hc : cur ≠ []) : splitL cur (b :: l) = ⟨cur.toArray⟩ :: splitL [] l := by
  rw [splitL, if_pos hb, if_neg hc]
theorem splitL_blanks (l : List UInt8) : ∀ n : Nat, splitL [] (List.replicate n 32 ++ l) = splitL [] l
  | 0 => rfl
  | n + 1 => by
    rw [List.replicate_succ, List.cons_append, splitL, if_pos (by decide), if_pos rfl, splitL_blanks l n]
end Go.Proofs.YtcdogkabdhbjmaaDoor
/- Options as words: the words, what they say, the options of words and the words of options. -/
namespace Go.Proofs.YtcdogkabdhbjmaaDoor
open Go.Lib

theorem ba_beq {a b : ByteArray} (h : (a == b) = true) : a = b := by
  obtain ⟨a⟩ := a
  obtain ⟨b⟩ := b
  have : (a == b) = true := h
  rw [eq_of_beq this]
theorem ba_ne {a b : ByteArray} (h : ¬ a = b) : (a.toList == b.toList) = false := by
  rw [Lib.toList_data, Lib.toList_data]
  apply Bool.eq_false_iff.2
  intro e
  apply h
  obtain ⟨⟨a⟩⟩ := a
  obtain ⟨⟨b⟩⟩ := b
  have : a = b := eq_of_beq e
  rw [this]
/-- The words, in their order: the word, its field, the field's number. -/
def termsL : List (ByteArray × Nat × Int) := [
  (⟨#[108, 116, 114]⟩, 0, 0),
  (⟨#[114, 116, 108]⟩, 0, 1),
  (⟨#[102, 105, 114, 115, 116, 45, 108, 116, 114]⟩, 0, 2),
  (⟨#[102, 105, 114, 115, 116, 45, 114, 116, 108]⟩, 0, 3),
  (⟨#[108, 97, 109, 45, 114, 101, 115, 105, 122, 101]⟩, 1, 1),
  (⟨#[108, 97, 109, 45, 110, 101, 97, 114]⟩, 1, 2),
  (⟨#[108, 97, 109, 45, 98, 101, 103, 105, 110]⟩, 1, 3),
  (⟨#[108, 97, 109, 45, 101, 110, 100]⟩, 1, 4),
  (⟨#[109, 97, 114, 107, 45, 105, 115, 111, 108, 97, 116, 101, 100]⟩, 2, 1),
  (⟨#[109, 97, 114, 107, 45, 109, 101, 100, 105, 97, 108]⟩, 2, 2),
  (⟨#[109, 97, 114, 107, 45, 114, 101, 109, 111, 118, 101]⟩, 2, 3),
  (⟨#[109, 97, 114, 107, 45, 116, 97, 116, 119, 101, 101, 108]⟩, 2, 4),
  (⟨#[116, 111, 45, 97, 114, 97, 98, 105, 99]⟩, 3, 1),
  (⟨#[116, 111, 45, 101, 117, 114, 111, 112, 101, 97, 110]⟩, 3, 2),
  (⟨#[99, 111, 110, 116, 101, 120, 116, 45, 108, 116, 114]⟩, 3, 3),
  (⟨#[99, 111, 110, 116, 101, 120, 116, 45, 97, 114, 97, 98, 105, 99]⟩, 3, 4),
  (⟨#[101, 97, 115, 116, 101, 114, 110]⟩, 4, 1),
  (⟨#[108, 101, 116, 116, 101, 114, 115]⟩, 5, 1),
  (⟨#[116, 104, 114, 111, 117, 103, 104]⟩, 6, 1),
  (⟨#[112, 105, 108, 101]⟩, 7, 1),
  (⟨#[115, 101, 101, 110]⟩, 8, 1),
  (⟨#[121, 101, 104]⟩, 9, 1),
  (⟨#[114, 101, 111, 114, 100, 101, 114]⟩, 10, 1),
  (⟨#[109, 97, 114, 107, 115]⟩, 11, 1),
  (⟨#[109, 105, 114, 114, 111, 114]⟩, 12, 1),
  (⟨#[115, 116, 114, 105, 112]⟩, 13, 1)]
theorem terms_len : termsL.length = 26 := rfl
namespace Opt
def bi (b : Bool) : Int := if b = true then 1 else 0
/-- The numbers of all fields. -/
def fields (o : Opt) : List Int := [o.d, o.l, o.t, o.g, bi o.b0, bi o.b1, bi o.b2, bi o.b3, bi o.b4, bi o.b5, bi o.b6, bi o.b7, bi o.b8, bi o.b9]
/-- Options with a field's number. -/
def put (o : Opt) (k : Nat) (n : Int) : Opt := match k with
  | 0 => { o with d := n }
  | 1 => { o with l := n }
  | 2 => { o with t := n }
  | 3 => { o with g := n }
  | 4 => { o with b0 := true }
  | 5 => { o with b1 := true }
  | 6 => { o with b2 := true }
  | 7 => { o with b3 := true }
  | 8 => { o with b4 := true }
  | 9 => { o with b5 := true }
  | 10 => { o with b6 := true }
  | 11 => { o with b7 := true }
  | 12 => { o with b8 := true }
  | 13 => { o with b9 := true }
  | _ => o
end Opt
theorem bi_eq (b : Bool) : (Opt.bi b == 1) = b := by cases b <;> rfl
theorem fields_put (o : Opt) (k : Nat) (n : Int) (hk : k < 14) (hn : 4 ≤ k → n = 1) : (o.put k n).fields = o.fields.set k n := by
  have hc : k = 0 ∨ k = 1 ∨ k = 2 ∨ k = 3 ∨ k = 4 ∨ k = 5 ∨ k = 6 ∨ k = 7 ∨ k = 8 ∨ k = 9 ∨ k = 10 ∨ k = 11 ∨ k = 12 ∨ k = 13 := by omega
  rcases hc with rfl | rfl | rfl | rfl | rfl | rfl | rfl | rfl | rfl | rfl | rfl | rfl | rfl | rfl
  · rfl
  · rfl
  · rfl
  · rfl
  all_goals (rw [hn (by omega)]; rfl)
theorem terms_ok : ∀ t ∈ termsL, t.2.1 < 14 ∧ (4 ≤ t.2.1 → t.2.2 = 1) := by decide +kernel
/-- What a word says: its field, the field's number. -/
def findT (w : ByteArray) : Option (Nat × Int) := (termsL.find? fun t => t.1 == w).map (·.2)
/-- The options of words, behind those that are through. -/
def saidL : List ByteArray → Opt → List Bool → Opt × Int
  | [], o, _ => (o, 0)
  | w :: l, o, kn => match findT w with
    | none => (Opt.zero, 11)
    | some x => if kn.getD x.1 false = true then (Opt.zero, 12) else saidL l (o.put x.1 x.2) (kn.set x.1 true)
def saidF (l : List ByteArray) : Opt × Int := saidL l Opt.zero (List.replicate 14 false)
def parseF (s : ByteArray) : Opt × Int := if 1000 < s.size then (Opt.zero, 6) else if (saidF (wordsF s)).2 = 0 then (if (saidF (wordsF s)).1.err = 0 then ((saidF (wordsF s)).1, 0) else (Opt.zero, (saidF (wordsF s)).1.err)) else (Opt.zero, (saidF (wordsF s)).2)
/-- The words of options. -/
def wordsL (o : Opt) : List ByteArray := termsL.filterMap fun t => if o.fields.getD t.2.1 0 = t.2.2 then some t.1 else none
def joinB : List ByteArray → List UInt8
  | [] => []
  | [w] => w.data.toList
  | w :: l => w.data.toList ++ 32 :: joinB l
def printF (o : Opt) : ByteArray × Int := if o.err = 0 then (⟨(joinB (wordsL o)).toArray⟩, 0) else (⟨#[]⟩, o.err)
theorem findT_ok {w : ByteArray} {x : Nat × Int} (h : findT w = some x) : x.1 < 14 ∧ (4 ≤ x.1 → x.2 = 1) := by
  unfold findT at h
  cases hf : termsL.find? fun t => t.1 == w with
  | none => rw [hf] at h; cases h
  | some t =>
    rw [hf] at h
    injection h with h
    subst h
    exact terms_ok t (List.mem_of_find?_eq_some hf)
end Go.Proofs.YtcdogkabdhbjmaaDoor
/- '==' of arrays whose elements are one cell each. -/
namespace Go.Proofs.YtcdogkabdhbjmaaDoor
open Go.RowKit

section
variable {P : Program} {α : Type} [BEq α] (mk : α → Value)
theorem eqItems_one (d : Nat) {e : TypeId} (he : P.plainKey e = true) (hc : P.cellsOf e = 1) (heq : ∀ a b w, (Op.equalIn d e (mk a) (mk b)).run P w = .ok (a == b) w) (xs ys : Array Value) (f g : Nat → α) (w : World) :
    ∀ is : List Nat, (∀ i ∈ is, xs[i]? = some (mk (f i)) ∧ ys[i]? = some (mk (g i))) → (Op.eqItems d e (P.cellsOf e) xs ys is).run P w = .ok (is.all fun i => f i == g i) w
  | [], _ => rfl
  | i :: is, h => by
    obtain ⟨h1, h2⟩ := h i (by simp)
    have ih := eqItems_one d he hc heq xs ys f g w is fun j hj => h j (by simp [hj])
    rw [hc] at ih ⊢
    have p1 := run_part_plain (P := P) w he (xs := xs) (off := i * 1) (by rw [Nat.mul_one]; exact h1)
    have p2 := run_part_plain (P := P) w he (xs := ys) (off := i * 1) (by rw [Nat.mul_one]; exact h2)
    simp only [Op.eqItems, Sem.run_bind, p1, p2, Result.andThen_ok, heq, List.all_cons]
    cases f i == g i
    · simp
    · simp [ih]
theorem equal_one (d n : Nat) {t e : TypeId} {i : TypeInfo} (hu : P.underlying t = some (.array n e)) (hi : P.info? e = some i) (he : P.plainKey e = true) (hc : P.cellsOf e = 1) (heq : ∀ a b w, (Op.equalIn d e (mk a) (mk b)).run P w = .ok (a == b) w)
    (xs ys : Array Value) (f g : Nat → α) (h : ∀ i, i < n → xs[i]? = some (mk (f i)) ∧ ys[i]? = some (mk (g i))) (w : World) :
    (Op.equalIn (d + 1) t (.agg xs) (.agg ys)).run P w = .ok ((List.range n).all fun i => f i == g i) w := by
  rw [run_equalIn_array w d xs ys hu hi]
  exact eqItems_one mk d he hc heq xs ys f g w _ fun j hj => h j (by simpa using hj)
end
end Go.Proofs.YtcdogkabdhbjmaaDoor
/- append of whatever reads as cells onto a row of the call's own, at a step of a region that draws its order. -/
namespace Go.Proofs.YtcdogkabdhbjmaaDoor
open Go.RowKit

theorem run_appR {P : Program} (w : World) (t ty : TypeId) {base : Nat} {e : TypeId} {size bytes : Nat} (S : SliceOf P t e size bytes) (hsz : 0 < size)
    (v : Value) (n : Nat) (xs : List Value) (hown : w.ownsRow base e size v n xs)
    (A : Option Addr) (m c : Nat) (news : List Value) (hr : Rd w size A m news) (h1 : ∀ u ∈ news, u.oneCell' = true)
    (hbytes : (n + m) * bytes ≤ 140737488355328) (h63 : n + m ≤ maxLen) (hbase : base ≤ w.heap.size) :
    ∃ v' w', (Builtin.append_ #[t, t] ty #[v, .slice A m c]).run P w = .ok v' w' ∧ w'.ownsRow base e size v' (n + m) (xs ++ news) ∧ w.grownBy w' v.ownBlock ∧ (v'.ownBlock = v.ownBlock ∨ v'.ownBlock = some w.heap.size) := by
  rcases A with _ | ad
  · have hm : m = 0 := by
      rcases Nat.eq_zero_or_pos m with h0 | h0
      · exact h0
      · obtain ⟨_, e, _⟩ := hr.2 h0
        cases e
    subst hm
    have hn : news = [] := List.eq_nil_of_length_eq_zero (by simpa using hr.1)
    subst hn
    exact ⟨v, w, run_app_nil w base t ty e size bytes S v n xs hown c, by simpa using hown, World.grownBy.refl w _, .inl rfl⟩
  · obtain ⟨ht, i, z, hi, hz, hs1, hb1, hzs⟩ := S
    obtain ⟨v', w', hrun, h2, h3, _, h5⟩ := run_append_own_at (P := P) w base t ty e i z size bytes ht hi hz hs1 hb1 hzs hsz v n xs hown ad m c news hr.1 hr.news h1 h63 hbytes hbase
    exact ⟨v', w', hrun, h2, h3, h5⟩

theorem step_appR {P : Program} {w : World} {ops : Array Oper} {o : Oper} {a : Act} {K : Act → World → Prop} {Q : Exit → Act → World → Prop} {E : Prop} (hgd : o.guard = none) (s x : Operand) (t : TypeId)
    (ho : o.op = .call { callee := .builtin .append, args := #[s, x], argTypes := #[t, t] })
    {base : Nat} {e : TypeId} {size bytes : Nat} (S : SliceOf P t e size bytes) (hsz : 0 < size)
    (v : Value) (n : Nat) (xs : List Value) (hs : a.eval s = v) (hown : w.ownsRow base e size v n xs)
    (A : Option Addr) (m c : Nat) (news : List Value) (hx : a.eval x = .slice A m c) (hr : Rd w size A m news) (h1 : ∀ u ∈ news, u.oneCell' = true)
    (hbytes : (n + m) * bytes ≤ 140737488355328) (h63 : n + m ≤ maxLen) (hbase : base ≤ w.heap.size) (H : Nat) (hH : w.heap.size = H)
    (h : ∀ v' w', w'.ownsRow base e size v' (n + m) (xs ++ news) → w.grownBy w' v.ownBlock → (v'.ownBlock = v.ownBlock ∨ v'.ownBlock = some H) → K (a.put o.dst v') w') :
    if Region.wanted o (yielded ops a.tmps) = true then Oper.wp P o a w K Q else E := by
  have hw : Region.wanted o (yielded ops a.tmps) = true := by simp [Region.wanted, hgd]
  rw [if_pos hw]
  obtain ⟨v', w', hrun, h2, h3, h5⟩ := run_appR (P := P) w t o.type S hsz v n xs hown A m c news hr h1 hbytes h63 hbase
  unfold Oper.wp execOp
  simp only [ho, resolve, invoke, builtin, Sem.run_bind, Sem.run_pure, Result.andThen_ok, List.map_toArray, List.map_cons, List.map_nil, hs, hx, hrun]
  exact h v' w' h2 h3 (by rw [← hH]; exact h5)
theorem own_below {w w' : World} {base : Nat} {e : TypeId} {size n : Nat} {v : Value} {xs : List Value} (h : w.ownsRow base e size v n xs) (hb : Below w.heap.size w w') : w'.ownsRow base e size v n xs := by
  rcases hv : v.ownBlock with _ | g
  · exact h.kept (row := none) ⟨hb.os, hb.tape, hb.output, hb.size, fun k hk _ => hb.block k hk⟩ (.inl hv)
  · exact h.kept (row := none) ⟨hb.os, hb.tape, hb.output, hb.size, fun k hk _ => hb.block k hk⟩ (.inr (by rw [hv]; exact fun e => by cases e))
theorem below_of_drew {w w' : World} (h : Below w.drew.heap.size w.drew w') : Below w.heap.size w w' := ⟨h.os, h.tape, h.output, h.size, h.block⟩
theorem grown_of_below' {w w' : World} (row : Option Nat) (hb : Below w.heap.size w w') : w.grownBy w' row := ⟨hb.os, hb.tape, hb.output, hb.size, fun k hk _ => hb.block k hk⟩
theorem grown_set {a w : World} {g : Nat} (h : a.grownBy w (some g)) (j : Nat) (u : Value) : a.grownBy (w.setCell ⟨g, j, none⟩ u) (some g) :=
  ⟨h.os, h.tape, h.output, by simpa [World.setCell] using h.size, fun i hi hne => (Below.heap_setCell w ⟨g, j, none⟩ u i (fun e => hne (by rw [e]))).trans (h.block i hi hne)⟩
/-- Four cells next to each other, stored into a row of the call's own. -/
theorem own_store4 {w : World} {base : Nat} {e : TypeId} {size g n cap : Nat} {xs : List Value} (h : w.ownsRow base e size (.slice (some ⟨g, 0, none⟩) n cap) n xs) (j : Nat) (a b c d : Value) :
    ((((w.setCell ⟨g, j, none⟩ a).setCell ⟨g, j + 1, none⟩ b).setCell ⟨g, j + 2, none⟩ c).setCell ⟨g, j + 3, none⟩ d).ownsRow base e size (.slice (some ⟨g, 0, none⟩) n cap) n ((((xs.set j a).set (j + 1) b).set (j + 2) c).set (j + 3) d) :=
  ((((h.stored j a).1.stored (j + 1) b).1.stored (j + 2) c).1.stored (j + 3) d).1
theorem rd_blk {w : World} {b m : Nat} {cs : List Value} {t : TypeId} (size : Nat) (h : w.heap[b]? = some (.cells cs.toArray t (0, 0))) (hl : cs.length = m * size) : Rd w size (some ⟨b, 0, none⟩) m cs :=
  ⟨hl, fun _ => ⟨_, rfl, (Array.getElem?_eq_some_iff.1 h).1, World.news_of_block (cs := cs.toArray) (fr := (0, 0)) h⟩⟩
end Go.Proofs.YtcdogkabdhbjmaaDoor
