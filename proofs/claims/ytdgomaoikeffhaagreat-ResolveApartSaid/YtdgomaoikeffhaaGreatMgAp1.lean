/- Texts of one claim, one behind the other. -/
import Derived.Test.YtdgomaoikeffhaaGreatRows
import Derived.WalkKit
import Derived.WalkSpells
import Derived.WalkLawsBesides
import Derived.Handy
import Derived.Below
import Derived.Laws.OwnMore
import Derived.Deep.AppendLies
import Derived.Deep.Draws
import Derived.Laws.Rows
import Derived.Maps.AppendAt
import Derived.RegionTactic
import Derived.OwnWalk
import Derived.Deep.QuietTactic
import Derived.BigQuiet
import Derived.Lib.Hide
import Derived.Deep.LoopGhost
/- Words for memory that all later texts share: a slice that reads as a list, blocks, appends (after the guide's own page of words), and small facts on endings. -/
namespace Go.Proofs.YtdgomaoikeffhaaGreat
open Go.RowKit

theorem blockAdd (a : Addr) (n : Nat) : (a.add n).block = a.block := by unfold Addr.add; split <;> rfl
theorem addAdd (a : Addr) (i j : Nat) : (a.add i).add j = a.add (i + j) := by
  unfold Addr.add
  by_cases hi : i = 0 <;> by_cases hj : j = 0 <;> simp [hi, hj, Nat.add_assoc]

/-- In world w the slice value with address A and length n reads as the cells xs ('size' cells an element), all in memory that is there. -/
def Rd (w : World) (size : Nat) (A : Option Addr) (n : Nat) (xs : List Value) : Prop :=
  xs.length = n * size ∧ (0 < n → ∃ ad, A = some ad ∧ ad.block < w.heap.size ∧ ∀ j u, xs[j]? = some u → w.cell? (ad.add j) = some u)

section
variable {w w' : World} {size n : Nat} {A : Option Addr} {xs : List Value}
theorem Rd.nil_ : Rd w size A 0 [] := ⟨by simp, fun h => absurd h (by omega)⟩
theorem Rd.len1 (h : Rd w 1 A n xs) : xs.length = n := by have := h.1; omega
theorem Rd.at_ {k : Nat} (h : Rd w 1 A n xs) (hk : k < n) : ∃ ad, A = some ad ∧ ad.block < w.heap.size ∧ ∀ u, xs[k]? = some u → w.cell? (ad.add k) = some u := by
  obtain ⟨ad, e, hb, hc⟩ := h.2 (by omega)
  exact ⟨ad, e, hb, fun u hu => hc k u hu⟩
theorem Rd.below (h : Rd w size A n xs) (hb : Below w.heap.size w w') : Rd w' size A n xs :=
  ⟨h.1, fun hn => by
    obtain ⟨ad, e, hlt, hc⟩ := h.2 hn
    exact ⟨ad, e, Nat.lt_of_lt_of_le hlt hb.size, fun j u hu => (hb.cell (by rw [blockAdd]; exact hlt)).trans (hc j u hu)⟩⟩
theorem Rd.drewN (h : Rd w size A n xs) (k : Nat) : Rd (w.drewN k) size A n xs := h
theorem Rd.alloc (h : Rd w size A n xs) (o : Obj) : Rd (w.alloc o) size A n xs := h.below ((Below.refl _ _).alloc (Nat.le_refl _) o)
/-- A cut 's[k:]'. -/
theorem Rd.cut (h : Rd w size A n xs) {k cap : Nat} (hk : k ≤ n) (hc : n ≤ cap) :
    Rd w size (if cap = k then A else A.map (·.add (k * size))) (n - k) (xs.drop (k * size)) := by
  refine ⟨by rw [List.length_drop, h.1, Nat.sub_mul], fun hn => ?_⟩
  obtain ⟨ad, rfl, hb, hcell⟩ := h.2 (by omega)
  rw [if_neg (by omega)]
  refine ⟨ad.add (k * size), rfl, by rw [blockAdd]; exact hb, fun j u hu => ?_⟩
  rw [addAdd]
  exact hcell _ u (by rw [← hu, List.getElem?_drop])
theorem Rd.of_own {base : Nat} {e : TypeId} {c : Nat} (h : w.ownsRow base e size (.slice A n c) n xs) : Rd w size A n xs := by
  refine ⟨h.1, fun hn => ?_⟩
  obtain ⟨g, cap, hv, _, hlt⟩ := h.form hn
  have hA : A = some ⟨g, 0, none⟩ := by injection hv
  subst hA
  exact ⟨_, rfl, hlt, h.cells (g := g) rfl⟩
end

theorem Rd.news {w : World} {size n : Nat} {ad : Addr} {xs : List Value} (h : Rd w size (some ad) n xs) : ∀ j u, xs[j]? = some u → w.cell? (ad.add j) = some u := by
  intro j u hu
  rcases Nat.eq_zero_or_pos n with h0 | h0
  · subst h0
    have hn : xs = [] := List.eq_nil_of_length_eq_zero (by simpa using h.1)
    subst hn
    simp at hu
  · obtain ⟨ad', e, _, hc⟩ := h.2 h0
    injection e with e
    subst e
    exact hc j u hu
/-- What a row of the call's own looks like as a value: a slice of that length. -/
theorem own_form {w : World} {base : Nat} {e : TypeId} {size : Nat} {v : Value} {n : Nat} {xs : List Value} (h : w.ownsRow base e size v n xs) : ∃ A c, v = .slice A n c ∧ n ≤ c := by
  rcases h.2 with ⟨rfl, rfl⟩ | ⟨g, cap, cur, rfl, _, _, hnc, _⟩
  · exact ⟨none, 0, rfl, Nat.le_refl _⟩
  · exact ⟨_, _, rfl, hnc⟩

/-- The slice type T has elements of type E, of so many cells and bytes. -/
def SliceOf (P : Program) (T E : TypeId) (size bytes : Nat) : Prop :=
  P.underlying T = some (.slice E) ∧ ∃ i z, P.info? E = some i ∧ i.zero = some z ∧ i.size = size ∧ i.bytes = bytes ∧ z.cells.size = size
theorem SliceOf.mk_ {P : Program} {T E : TypeId} {size bytes : Nat} {z : Value} (h : P.underlying T = some (.slice E)) (hi : (P.info? E).map (fun i => (i.zero, i.size, i.bytes)) = some (some z, size, bytes)) (hz : z.cells.size = size) : SliceOf P T E size bytes := by
  obtain ⟨i, h1, h2, h3, h4⟩ := info_parts hi
  exact ⟨h, i, z, h1, h2, h3, h4, hz⟩

/-- append onto a row of the call's own, the source at an address. -/
theorem wpList_app {P : Program} {w : World} {ops : Array Oper} {rest : List Oper} {o : Oper} {a : Act} {Q : Exit → Act → World → Prop} (hgd : o.guard = none) (s x : Operand) (t : TypeId)
    (ho : o.op = .call { callee := .builtin .append, args := #[s, x], argTypes := #[t, t] })
    {base : Nat} {e : TypeId} {size bytes : Nat} (S : SliceOf P t e size bytes) (hsz : 0 < size)
    (v : Value) (n : Nat) (xs : List Value) (hs : a.eval s = v) (hown : w.ownsRow base e size v n xs)
    (ad : Addr) (m c : Nat) (news : List Value) (hx : a.eval x = .slice (some ad) m c) (hl : news.length = m * size) (hnews : ∀ j u, news[j]? = some u → w.cell? (ad.add j) = some u) (h1 : ∀ u ∈ news, u.oneCell' = true)
    (hbytes : (n + m) * bytes ≤ 140737488355328) (h63 : n + m ≤ maxLen) (hbase : base ≤ w.heap.size)
    (h : ∀ v' w', w'.ownsRow base e size v' (n + m) (xs ++ news) → w.grownBy w' v.ownBlock → (v'.ownBlock = v.ownBlock ∨ v'.ownBlock = some w.heap.size) → wpList P ops Q rest (a.put o.dst v') w') :
    wpList P ops Q (o :: rest) a w := by
  obtain ⟨ht, i, z, hi, hz, hs1, hb1, hzs⟩ := S
  exact wpList_append_own_at w hgd s x t ho base e i z size bytes ht hi hz hs1 hb1 hzs hsz v n xs hs hown ad m c news hx hl hnews h1 h63 hbytes hbase (fun v' w' a1 a2 _ a4 => h v' w' a1 a2 a4)

theorem run_app_nil {P : Program} (w : World) (base : Nat) (t ty e : TypeId) (size bytes : Nat) (S : SliceOf P t e size bytes)
    (v : Value) (n : Nat) (xs : List Value) (hown : w.ownsRow base e size v n xs) (c : Nat) : (Builtin.append_ #[t, t] ty #[v, .slice none 0 c]).run P w = .ok v w := by
  obtain ⟨ht, i, z, hi, hz, hs1, hb1, hzs⟩ := S
  rcases hown.2 with ⟨rfl, rfl⟩ | ⟨g, cap, cur, rfl, _, _, hnc, _⟩
  · simp [Builtin.append_, run_underlying ht, sizeOf, typeInfo, hi, Builtin.lenOf, Builtin.firstCells]
  · simp [Builtin.append_, run_underlying ht, sizeOf, typeInfo, hi, Builtin.lenOf, Builtin.firstCells, hnc, storeCells]

/-- append onto a row of the call's own, the source any slice that reads as 'news', nil too. -/
theorem wpList_appR {P : Program} {w : World} {ops : Array Oper} {rest : List Oper} {o : Oper} {a : Act} {Q : Exit → Act → World → Prop} (hgd : o.guard = none) (s x : Operand) (t : TypeId)
    (ho : o.op = .call { callee := .builtin .append, args := #[s, x], argTypes := #[t, t] })
    {base : Nat} {e : TypeId} {size bytes : Nat} (S : SliceOf P t e size bytes) (hsz : 0 < size)
    (v : Value) (n : Nat) (xs : List Value) (hs : a.eval s = v) (hown : w.ownsRow base e size v n xs)
    (A : Option Addr) (m c : Nat) (news : List Value) (hx : a.eval x = .slice A m c) (hr : Rd w size A m news) (h1 : ∀ u ∈ news, u.oneCell' = true)
    (hbytes : (n + m) * bytes ≤ 140737488355328) (h63 : n + m ≤ maxLen) (hbase : base ≤ w.heap.size)
    (h : ∀ v' w', w'.ownsRow base e size v' (n + m) (xs ++ news) → w.grownBy w' v.ownBlock → (v'.ownBlock = v.ownBlock ∨ v'.ownBlock = some w.heap.size) → wpList P ops Q rest (a.put o.dst v') w') :
    wpList P ops Q (o :: rest) a w := by
  rcases A with _ | ad
  · have hm : m = 0 := by
      rcases Nat.eq_zero_or_pos m with h0 | h0
      · exact h0
      · obtain ⟨_, e, _⟩ := hr.2 h0
        cases e
    subst hm
    have hn : news = [] := List.eq_nil_of_length_eq_zero (by simpa using hr.1)
    subst hn
    have hrun := run_app_nil (P := P) w base t o.type e size bytes S v n xs hown c
    refine wpList_plain hgd fun K hK => ?_
    unfold Oper.wp execOp
    simp only [ho, resolve, invoke, builtin, Sem.run_bind, Sem.run_pure, Result.andThen_ok, List.map_toArray, List.map_cons, List.map_nil, hs, hx, hrun]
    exact hK _ _ (h v w (by simpa using hown) (World.grownBy.refl w _) (.inl rfl))
  · exact wpList_app hgd s x t ho S hsz v n xs hs hown ad m c news hx hr.1 hr.news h1 hbytes h63 hbase h

/-- make([]T, 0, n). -/
theorem wpList_mk {P : Program} {w : World} {ops : Array Oper} {rest : List Oper} {o : Oper} {a : Act} {Q : Exit → Act → World → Prop}
    (hg : o.guard = none) (l c : Operand) (t : TypeId) (hop : o.op = Op.makeSlice t l c)
    {base : Nat} {e : TypeId} {size bytes : Nat} (S : SliceOf P t e size bytes)
    {kl kc : IntKind} (C : Int) (n : Nat) (hl : a.eval l = .int kl 0) (hc : a.eval c = .int kc C) (hC : C = (n : Int)) (b2 : bytes * n ≤ 281474976710656) (b3 : n ≤ maxLen) (b4 : base ≤ w.heap.size)
    (hK : ∀ v' w', w'.ownsRow base e size v' 0 [] → w.grownBy w' none → wpList P ops Q rest (a.put o.dst v') w') :
    wpList P ops Q (o :: rest) a w := by
  obtain ⟨ht, i, z, hi, hz, hs1, hb1, hzs⟩ := S
  exact wpList_make_own w hg l c t hop base e i z size ht hi hz hs1 kl kc C n hl hc hC (by rw [hb1]; exact b2) b3 b4 (fun w' a1 a2 => hK _ w' a1 a2)

/-- make([]T, n), T of one cell. -/
theorem wpList_mkFull {P : Program} {w : World} {ops : Array Oper} {rest : List Oper} {o : Oper} {a : Act} {Q : Exit → Act → World → Prop}
    (hg : o.guard = none) (l c : Operand) (t : TypeId) (hop : o.op = Op.makeSlice t l c)
    {base : Nat} {e : TypeId} {bytes : Nat} {z : Value} (ht : P.underlying t = some (.slice e)) (hin : (P.info? e).map (fun i => (i.zero, i.size, i.bytes)) = some (some z, 1, bytes)) (hz : z.cells = #[z])
    {kl kc : IntKind} (L C : Int) (n : Nat) (hl : a.eval l = .int kl L) (hc : a.eval c = .int kc C) (hL : L = (n : Int)) (hC : C = (n : Int)) (b2 : bytes * n ≤ 281474976710656) (b3 : n ≤ maxLen) (b4 : base ≤ w.heap.size)
    (hK : ∀ w', w'.ownsRow base e 1 (.slice (some ⟨w.heap.size, 0, none⟩) n n) n (List.replicate n z) → w.grownBy w' none → wpList P ops Q rest (a.put o.dst (.slice (some ⟨w.heap.size, 0, none⟩) n n)) w') :
    wpList P ops Q (o :: rest) a w := by
  obtain ⟨i, h1, h2, h3, h4⟩ := info_parts hin
  refine wpList_make_full w hg l c t hop base e i z 1 ht h1 h2 h3 kl kc L C n hl hc hL hC (by rw [h4]; exact b2) b3 b4 (fun w' a1 a2 => hK w' ?_ a2)
  rw [hz, Nat.mul_one, toList_madeCells_one] at a1
  exact a1

theorem addNew (g j : Nat) : (⟨g, 0, none⟩ : Addr).add j = ⟨g, j, none⟩ := by
  unfold Addr.add
  split
  · rename_i h; subst h; rfl
  · simp
/-- The cells of a new block. -/
theorem cells_new (w : World) (cs : List Value) (t : TypeId) : ∀ j u, cs[j]? = some u → (w.alloc (.cells cs.toArray t)).cell? ((⟨w.heap.size, 0, none⟩ : Addr).add j) = some u := by
  intro j u hj
  rw [addNew, World.cell?_alloc_at _ _ _ _ rfl]
  simpa using hj

theorem Rd.new_ (w : World) (cs : List Value) (t : TypeId) : Rd (w.alloc (.cells cs.toArray t)) 1 (some ⟨w.heap.size, 0, none⟩) cs.length cs :=
  ⟨by simp, fun _ => ⟨_, rfl, by simp, cells_new w cs t⟩⟩
theorem cell_lt {w : World} {a : Addr} {v : Value} (h : w.cell? a = some v) : a.block < w.heap.size := by
  unfold World.cell? at h
  rcases Nat.lt_or_ge a.block w.heap.size with hlt | hge
  · exact hlt
  · rw [Array.getElem?_eq_none hge] at h; cases h
theorem cell_below {w w' : World} {a : Addr} {v : Value} (hb : Below w.heap.size w w') (h : w.cell? a = some v) : w'.cell? a = some v := (hb.cell (cell_lt h)).trans h
theorem below_self {w a b : World} (h : Below w.heap.size w a) (k : Below a.heap.size a b) : Below w.heap.size w b := h.trans (k.mono h.size)
theorem below_new (w : World) (o : Obj) : Below w.heap.size w (w.alloc o) := (Below.refl _ _).alloc (Nat.le_refl _) o
theorem below_drew {w a : World} (h : Below w.heap.size w a) (n : Nat) : Below w.heap.size w (a.drewN n) := ⟨h.os, h.tape, h.output, h.size, h.block⟩
theorem oneInt (k : IntKind) (x : Int) : ∀ u ∈ [Value.int k x], u.oneCell' = true := by
  intro u hu
  simp at hu
  subst hu
  rfl
theorem oneInt2 (k : IntKind) (x y : Int) : ∀ u ∈ [Value.int k x, .int k y], u.oneCell' = true := by
  intro u hu
  simp at hu
  rcases hu with rfl | rfl <;> rfl
theorem oneInts (k : IntKind) (xs : List Int) : ∀ u ∈ xs.map (Value.int k), u.oneCell' = true := by
  intro u hu
  simp at hu
  obtain ⟨x, _, rfl⟩ := hu
  rfl
/-- A row below which all stood is told of what it was of. -/
theorem ownBlock_slice (A : Option Addr) (n c k : Nat) (h : (Value.slice A n c).ownBlock = some k) : ∃ a, A = some a ∧ a.block = k := by
  rcases A with _ | a
  · cases h
  · exact ⟨a, rfl, by injection h⟩
theorem below_app {B : Nat} {w0 w w' : World} {e : TypeId} {size n : Nat} {v : Value} {xs : List Value} (h : Below B w0 w) (hg : w.grownBy w' v.ownBlock) (hown : w.ownsRow B e size v n xs) (hB : B ≤ w.heap.size) : Below B w0 w' :=
  h.grown hg hB (fun k hk => (hown.lt k hk).1)

theorem retB {a b : Bool} (h : a = true ↔ b = true) : Ending.returned (.bool a) = .returned (.bool b) := by rw [Bool.eq_iff_iff.2 h]
theorem retI {a b : Int} (h : a = b) : Ending.returned (.int .i64 a) = .returned (.int .i64 b) := by rw [h]
theorem drewBelow {w : World} (n : Nat) : Below w.heap.size w (w.drewN n) := ⟨rfl, rfl, rfl, Nat.le_refl _, fun _ _ => rfl⟩
theorem below_drewN {B : Nat} {a w : World} (h : Below B a w) (n : Nat) : Below B a (w.drewN n) := ⟨h.os, h.tape, h.output, h.size, h.block⟩
end Go.Proofs.YtdgomaoikeffhaaGreat
/- More words for memory: make with a length and a capacity; values in an aggregate. -/
namespace Go.Proofs.YtdgomaoikeffhaaGreat
open Go.RowKit

/-- make([]T, l, c), T of one cell. -/
theorem wpList_mkN {P : Program} {w : World} {ops : Array Oper} {rest : List Oper} {o : Oper} {a : Act} {Q : Exit → Act → World → Prop}
    (hg : o.guard = none) (lo co : Operand) (t : TypeId) (hop : o.op = Op.makeSlice t lo co)
    {base : Nat} {e : TypeId} {bytes : Nat} {z : Value} (ht : P.underlying t = some (.slice e)) (hin : (P.info? e).map (fun i => (i.zero, i.size, i.bytes)) = some (some z, 1, bytes)) (hz : z.cells = #[z])
    {kl kc : IntKind} (L C : Int) (l c : Nat) (hl : a.eval lo = .int kl L) (hc : a.eval co = .int kc C) (hL : L = (l : Int)) (hC : C = (c : Int)) (hlc : l ≤ c) (b2 : bytes * c ≤ 281474976710656) (b3 : c ≤ maxLen) (b4 : base ≤ w.heap.size)
    (hK : ∀ w', w'.ownsRow base e 1 (.slice (some ⟨w.heap.size, 0, none⟩) l c) l (List.replicate l z) → w.grownBy w' none → wpList P ops Q rest (a.put o.dst (.slice (some ⟨w.heap.size, 0, none⟩) l c)) w') :
    wpList P ops Q (o :: rest) a w := by
  obtain ⟨i, h1, h2, h3, h4⟩ := info_parts hin
  subst hL hC
  have h63 : ((c : Nat) : Int) ≤ 9223372036854775807 := by unfold maxLen at b3; omega
  have hb' : (i.bytes : Int) * (c : Int) ≤ 281474976710656 := by
    have h : ((i.bytes * c : Nat) : Int) ≤ 281474976710656 := by rw [h4]; omega
    rwa [Int.natCast_mul] at h
  have hr := run_make (P := P) w t e i z ht h1 h2 kl kc l c (by omega) (by omega) hb' h63
  simp only [Int.toNat_natCast, h3, Nat.mul_one, hz] at hr
  have hown : (w.alloc (.cells (madeCells #[z] c) e)).ownsRow base e 1 (.slice (some ⟨w.heap.size, 0, none⟩) l c) l (List.replicate l z) := by
    refine ⟨by simp, .inr ⟨w.heap.size, c, madeCells #[z] c, rfl, b4, heap_alloc_new w _, hlc, b3, by rw [size_madeCells]; omega, ?_⟩⟩
    rw [toList_madeCells_one, Nat.mul_one, List.take_replicate]
    congr 1
    omega
  refine wpList_plain hg fun K hK' => ?_
  unfold Oper.wp
  simp [execOp, hop, hl, hc, hr, Result.andThen]
  exact hK' _ _ (hK _ hown (World.grownBy_alloc w _ none))

/-- A row of the call's own with at least one element: where it lies. -/
theorem own_at {w : World} {base : Nat} {e : TypeId} {v : Value} {n : Nat} {xs : List Value} (h : w.ownsRow base e 1 v n xs) (hn : 0 < n) :
    ∃ g c, v = .slice (some ⟨g, 0, none⟩) n c ∧ n ≤ c ∧ g < w.heap.size ∧ base ≤ g ∧ ∀ j u, xs[j]? = some u → w.cell? ⟨g, j, none⟩ = some u := by
  obtain ⟨g, c, hv, hbg, hlt⟩ := h.form hn
  obtain ⟨_, _, e, hnc⟩ := own_form h
  subst hv
  injection e with _ _ e
  subst e
  refine ⟨g, c, rfl, hnc, hlt, hbg, fun j u hj => ?_⟩
  have := h.cells (g := g) rfl j u hj
  rwa [addNew] at this
/-- What is owned from a later block on is owned from an earlier one on. -/
theorem own_base {w : World} {base b' : Nat} {e : TypeId} {size : Nat} {v : Value} {n : Nat} {xs : List Value} (h : w.ownsRow base e size v n xs) (hb : b' ≤ base) : w.ownsRow b' e size v n xs := by
  obtain ⟨h1, h2⟩ := h
  refine ⟨h1, ?_⟩
  rcases h2 with h2 | ⟨g, cap, cur, hv, hg, r⟩
  · exact .inl h2
  · exact .inr ⟨g, cap, cur, hv, Nat.le_trans hb hg, r⟩
/-- A block of the call's own that no row is, behind an append or a make. -/
theorem blk_grown {w w' : World} {b : Nat} {o : Obj} {row : Option Nat} (h : w.heap[b]? = some o) (hg : w.grownBy w' row) (hne : row ≠ some b) : w'.heap[b]? = some o :=
  (hg.block b (by
    rcases Nat.lt_or_ge b w.heap.size with h' | h'
    · exact h'
    · simp [Array.getElem?_eq_none h'] at h) (fun e => hne e.symm)).trans h
theorem blk_alloc {w : World} {b : Nat} {o : Obj} (h : w.heap[b]? = some o) (o' : Obj) : (w.alloc o').heap[b]? = some o :=
  blk_grown h (World.grownBy_alloc w _ none) (by simp)
/-- A callee that leaves the world alone, inside a quiet region. -/
theorem quiet_eq {P : Program} {f : FuncId} {args : Array Value} {w : World} {n : Nat} {v : Value}
    (h : Calls P f args (w.drewN n) fun e w' => e = .returned v ∧ w.drewN n = w') : Calls P f args (w.drewN n) fun e w'' => e = .returned v ∧ ∃ m, w'' = w.drewN m :=
  Calls.quiet_of_same (h.mono fun _ _ ⟨a, b⟩ => ⟨a, b.symm⟩)
theorem toList_madeSame (z : Array Value) (z0 : Value) (h0 : 0 < z.size) (hz : ∀ j, j < z.size → z[j]! = z0) (n : Nat) : (madeCells z n).toList = List.replicate n z0 := by
  rw [List.eq_replicate_iff]
  refine ⟨by simp [madeCells], fun b hb => ?_⟩
  simp only [madeCells, Array.toList_map, List.mem_map] at hb
  obtain ⟨j, _, rfl⟩ := hb
  exact hz _ (Nat.mod_lt _ h0)
/-- make([]T, n), T a struct whose cells are all the same at zero. -/
theorem wpList_mkZ {P : Program} {w : World} {ops : Array Oper} {rest : List Oper} {o : Oper} {a : Act} {Q : Exit → Act → World → Prop}
    (hg : o.guard = none) (l c : Operand) (t : TypeId) (hop : o.op = Op.makeSlice t l c)
    {base : Nat} {e : TypeId} {size bytes : Nat} {z z0 : Value} (ht : P.underlying t = some (.slice e)) (hin : (P.info? e).map (fun i => (i.zero, i.size, i.bytes)) = some (some z, size, bytes)) (h0 : 0 < z.cells.size) (hz : ∀ j, j < z.cells.size → z.cells[j]! = z0)
    {kl kc : IntKind} (L C : Int) (n : Nat) (hl : a.eval l = .int kl L) (hc : a.eval c = .int kc C) (hL : L = (n : Int)) (hC : C = (n : Int)) (b2 : bytes * n ≤ 281474976710656) (b3 : n ≤ maxLen) (b4 : base ≤ w.heap.size)
    (hK : ∀ w', w'.ownsRow base e size (.slice (some ⟨w.heap.size, 0, none⟩) n n) n (List.replicate (n * size) z0) → w.grownBy w' none → wpList P ops Q rest (a.put o.dst (.slice (some ⟨w.heap.size, 0, none⟩) n n)) w') :
    wpList P ops Q (o :: rest) a w := by
  obtain ⟨i, h1, h2, h3, h4⟩ := info_parts hin
  refine wpList_make_full w hg l c t hop base e i z size ht h1 h2 h3 kl kc L C n hl hc hL hC (by rw [h4]; exact b2) b3 b4 (fun w' a1 a2 => hK w' ?_ a2)
  rwa [toList_madeSame _ z0 h0 hz] at a1
/-- Two cells next to each other, stored into a row of the call's own. -/
theorem own_store2 {w : World} {base : Nat} {e : TypeId} {size g n cap : Nat} {xs : List Value} (h : w.ownsRow base e size (.slice (some ⟨g, 0, none⟩) n cap) n xs) (j : Nat) (u v : Value) :
    ((w.setCell ⟨g, j, none⟩ u).setCell ⟨g, j + 1, none⟩ v).ownsRow base e size (.slice (some ⟨g, 0, none⟩) n cap) n ((xs.set j u).set (j + 1) v) :=
  ((h.stored j u).1.stored (j + 1) v).1
/-- A cell of a row of the call's own is there and may be written. -/
theorem own_slot {w : World} {base : Nat} {e : TypeId} {size g n cap : Nat} {xs : List Value} (h : w.ownsRow base e size (.slice (some ⟨g, 0, none⟩) n cap) n xs) {j : Nat} (hj : j < n * size) :
    (∃ u, w.cell? ⟨g, j, none⟩ = some u) ∧ w.frozen? ⟨g, j, none⟩ = false :=
  ⟨⟨xs[j]'(by rw [h.1]; exact hj), by rw [h.cellAt j hj, List.getElem?_eq_getElem]⟩, h.frozenAt j⟩
end Go.Proofs.YtdgomaoikeffhaaGreat
/- append of whatever reads as cells onto a row of the call's own, at a step of a region that draws its order. -/
namespace Go.Proofs.YtdgomaoikeffhaaGreat
open Go.RowKit

theorem run_appR {P : Program} (w : World) (t ty : TypeId) {base : Nat} {e : TypeId} {size bytes : Nat} (S : SliceOf P t e size bytes) (hsz : 0 < size)
    (v : Value) (n : Nat) (xs : List Value) (hown : w.ownsRow base e size v n xs)
    (A : Option Addr) (m c : Nat) (news : List Value) (hr : Rd w size A m news) (h1 : ∀ u ∈ news, u.oneCell' = true)
    (hbytes : (n + m) * bytes ≤ 140737488355328) (h63 : n + m ≤ maxLen) (hbase : base ≤ w.heap.size) :
    ∃ v' w', (Builtin.append_ #[t, t] ty #[v, .slice A m c]).run P w = .ok v' w' ∧ w'.ownsRow base e size v' (n + m) (xs ++ news) ∧ w.grownBy w' v.ownBlock ∧ (v'.ownBlock = v.ownBlock ∨ v'.ownBlock = some w.heap.size) := by
  rcases A with _ | ad
  · have hm : m = 0 := by
      rcases Nat.eq_zero_or_pos m with h0 | h0
      · exact h0
      · obtain ⟨_, e, _⟩ := hr.2 h0
        cases e
    subst hm
    have hn : news = [] := List.eq_nil_of_length_eq_zero (by simpa using hr.1)
    subst hn
    exact ⟨v, w, run_app_nil w base t ty e size bytes S v n xs hown c, by simpa using hown, World.grownBy.refl w _, .inl rfl⟩
  · obtain ⟨ht, i, z, hi, hz, hs1, hb1, hzs⟩ := S
    obtain ⟨v', w', hrun, h2, h3, _, h5⟩ := run_append_own_at (P := P) w base t ty e i z size bytes ht hi hz hs1 hb1 hzs hsz v n xs hown ad m c news hr.1 hr.news h1 h63 hbytes hbase
    exact ⟨v', w', hrun, h2, h3, h5⟩

theorem step_appR {P : Program} {w : World} {ops : Array Oper} {o : Oper} {a : Act} {K : Act → World → Prop} {Q : Exit → Act → World → Prop} {E : Prop} (hgd : o.guard = none) (s x : Operand) (t : TypeId)
    (ho : o.op = .call { callee := .builtin .append, args := #[s, x], argTypes := #[t, t] })
    {base : Nat} {e : TypeId} {size bytes : Nat} (S : SliceOf P t e size bytes) (hsz : 0 < size)
    (v : Value) (n : Nat) (xs : List Value) (hs : a.eval s = v) (hown : w.ownsRow base e size v n xs)
    (A : Option Addr) (m c : Nat) (news : List Value) (hx : a.eval x = .slice A m c) (hr : Rd w size A m news) (h1 : ∀ u ∈ news, u.oneCell' = true)
    (hbytes : (n + m) * bytes ≤ 140737488355328) (h63 : n + m ≤ maxLen) (hbase : base ≤ w.heap.size) (H : Nat) (hH : w.heap.size = H)
    (h : ∀ v' w', w'.ownsRow base e size v' (n + m) (xs ++ news) → w.grownBy w' v.ownBlock → (v'.ownBlock = v.ownBlock ∨ v'.ownBlock = some H) → K (a.put o.dst v') w') :
    if Region.wanted o (yielded ops a.tmps) = true then Oper.wp P o a w K Q else E := by
  have hw : Region.wanted o (yielded ops a.tmps) = true := by simp [Region.wanted, hgd]
  rw [if_pos hw]
  obtain ⟨v', w', hrun, h2, h3, h5⟩ := run_appR (P := P) w t o.type S hsz v n xs hown A m c news hr h1 hbytes h63 hbase
  unfold Oper.wp execOp
  simp only [ho, resolve, invoke, builtin, Sem.run_bind, Sem.run_pure, Result.andThen_ok, List.map_toArray, List.map_cons, List.map_nil, hs, hx, hrun]
  exact h v' w' h2 h3 (by rw [← hH]; exact h5)
theorem own_below {w w' : World} {base : Nat} {e : TypeId} {size n : Nat} {v : Value} {xs : List Value} (h : w.ownsRow base e size v n xs) (hb : Below w.heap.size w w') : w'.ownsRow base e size v n xs := by
  rcases hv : v.ownBlock with _ | g
  · exact h.kept (row := none) ⟨hb.os, hb.tape, hb.output, hb.size, fun k hk _ => hb.block k hk⟩ (.inl hv)
  · exact h.kept (row := none) ⟨hb.os, hb.tape, hb.output, hb.size, fun k hk _ => hb.block k hk⟩ (.inr (by rw [hv]; exact fun e => by cases e))
theorem below_of_drew {w w' : World} (h : Below w.drew.heap.size w.drew w') : Below w.heap.size w w' := ⟨h.os, h.tape, h.output, h.size, h.block⟩
theorem grown_of_below' {w w' : World} (row : Option Nat) (hb : Below w.heap.size w w') : w.grownBy w' row := ⟨hb.os, hb.tape, hb.output, hb.size, fun k hk _ => hb.block k hk⟩
theorem grown_set {a w : World} {g : Nat} (h : a.grownBy w (some g)) (j : Nat) (u : Value) : a.grownBy (w.setCell ⟨g, j, none⟩ u) (some g) :=
  ⟨h.os, h.tape, h.output, by simpa [World.setCell] using h.size, fun i hi hne => (Below.heap_setCell w ⟨g, j, none⟩ u i (fun e => hne (by rw [e]))).trans (h.block i hi hne)⟩
/-- Four cells next to each other, stored into a row of the call's own. -/
theorem own_store4 {w : World} {base : Nat} {e : TypeId} {size g n cap : Nat} {xs : List Value} (h : w.ownsRow base e size (.slice (some ⟨g, 0, none⟩) n cap) n xs) (j : Nat) (a b c d : Value) :
    ((((w.setCell ⟨g, j, none⟩ a).setCell ⟨g, j + 1, none⟩ b).setCell ⟨g, j + 2, none⟩ c).setCell ⟨g, j + 3, none⟩ d).ownsRow base e size (.slice (some ⟨g, 0, none⟩) n cap) n ((((xs.set j a).set (j + 1) b).set (j + 2) c).set (j + 3) d) :=
  ((((h.stored j a).1.stored (j + 1) b).1.stored (j + 2) c).1.stored (j + 3) d).1
theorem rd_blk {w : World} {b m : Nat} {cs : List Value} {t : TypeId} (size : Nat) (h : w.heap[b]? = some (.cells cs.toArray t (0, 0))) (hl : cs.length = m * size) : Rd w size (some ⟨b, 0, none⟩) m cs :=
  ⟨hl, fun _ => ⟨_, rfl, (Array.getElem?_eq_some_iff.1 h).1, World.news_of_block (cs := cs.toArray) (fr := (0, 0)) h⟩⟩
end Go.Proofs.YtdgomaoikeffhaaGreat
/- Spans as data: what a span is, the cells of a slice of spans; no function of the program. -/
namespace Go.Proofs.YtdgomaoikeffhaaGreat
open Go.RowKit

abbrev Sp := Int × Int
def rightB (s : Sp) : Bool := decide (0 ≤ s.1 ∧ s.1 < s.2)
def sizeS (s : Sp) : Int := if rightB s = true then s.2 - s.1 else 0
def hasB (s : Sp) (at_ : Int) : Bool := decide (s.1 ≤ at_ ∧ at_ < s.2)
def encS (s : Sp) : List Value := [.int .i64 s.1, .int .i64 s.2]
def cellsS (l : List Sp) : List Value := l.flatMap encS
def valS (s : Sp) : Value := .agg #[.int .i64 s.1, .int .i64 s.2]
def Fit (x : Int) : Prop := -9223372036854775808 ≤ x ∧ x ≤ 9223372036854775807

theorem cellsS_len (l : List Sp) : (cellsS l).length = l.length * 2 := by
  induction l with
  | nil => rfl
  | cons s l ih =>
    show (encS s ++ cellsS l).length = _
    rw [List.length_append, ih, List.length_cons]
    simp only [encS, List.length_cons, List.length_nil]
    omega
theorem cellsS_at {l : List Sp} {k : Nat} {s : Sp} (h : l[k]? = some s) : (cellsS l)[k * 2]? = some (.int .i64 s.1) ∧ (cellsS l)[k * 2 + 1]? = some (.int .i64 s.2) := by
  induction l generalizing k with
  | nil => simp at h
  | cons t l ih =>
    have hc : cellsS (t :: l) = .int .i64 t.1 :: .int .i64 t.2 :: cellsS l := rfl
    cases k with
    | zero =>
      simp at h
      subst h
      exact ⟨rfl, rfl⟩
    | succ k =>
      have := ih (k := k) (by simpa using h)
      rw [hc]
      have e1 : (k + 1) * 2 = k * 2 + 1 + 1 := by omega
      have e2 : (k + 1) * 2 + 1 = (k * 2 + 1) + 1 + 1 := by omega
      rw [e2, e1]
      simpa using this

theorem addNext (a : Addr) (j i : Nat) : a.add (j + (i + 1)) = ⟨(a.add j).block, (a.add j).off + (i + 1), none⟩ := by
  unfold Addr.add
  by_cases hj : j = 0
  · subst hj; simp
  · simp [hj]; omega
/-- The two cells of a span in a slice, as the walk spells them. -/
theorem Rd.span {w : World} {A : Option Addr} {n k : Nat} {l : List Sp} {s : Sp} (hr : Rd w 2 A n (cellsS l)) (h : l[k]? = some s) : ∃ ad, A = some ad ∧ ad.block < w.heap.size ∧ w.cell? (ad.add (k * 2)) = some (.int .i64 s.1) ∧ w.cell? ⟨(ad.add (k * 2)).block, (ad.add (k * 2)).off + 1, none⟩ = some (.int .i64 s.2) := by
  have hlen : l.length * 2 = n * 2 := by rw [← cellsS_len]; exact hr.1
  have hk := (List.getElem?_eq_some_iff.1 h).1
  obtain ⟨ad, rfl, hb, hc⟩ := hr.2 (by omega)
  obtain ⟨e1, e2⟩ := cellsS_at h
  refine ⟨ad, rfl, hb, hc _ _ e1, ?_⟩
  have := hc _ _ e2
  rwa [addNext ad (k * 2) 0] at this

end Go.Proofs.YtdgomaoikeffhaaGreat
/- Whether spans are parts, as plain mathematics. -/
namespace Go.Proofs.YtdgomaoikeffhaaGreat
open Go.RowKit
/-- Whether spans are parts from 'end_' on to n. -/
def partsFrom : Int → List Sp → Int → Bool
  | e, [], n => e == n
  | e, s :: l, n => rightB s && (s.1 == e) && partsFrom s.2 l n
def partsS (l : List Sp) (n : Int) : Bool := partsFrom 0 l n
theorem partsFrom_no {e n : Int} {l : List Sp} {s : Sp} (h : rightB s = false ∨ (s.1 == e) = false) : partsFrom e (s :: l) n = false := by
  unfold partsFrom
  rcases h with h | h <;> simp [h]
theorem partsFrom_yes {e n : Int} {l : List Sp} {s : Sp} (h : rightB s = true) (h' : (s.1 == e) = true) : partsFrom e (s :: l) n = partsFrom s.2 l n := by
  show (rightB s && (s.1 == e) && partsFrom s.2 l n) = _
  rw [h, h']; rfl
theorem dropCons {α : Type} {l : List α} {k : Nat} {x : α} (h : l[k]? = some x) : l.drop k = x :: l.drop (k + 1) := by
  obtain ⟨hk, rfl⟩ := List.getElem?_eq_some_iff.1 h
  exact List.drop_eq_getElem_cons hk
end Go.Proofs.YtdgomaoikeffhaaGreat
/- Lines as mathematics: paragraphs cut at breaks are parts; what the end of a line makes of levels. No function of the program. -/
namespace Go.Proofs.YtdgomaoikeffhaaGreat
open Go.RowKit

/-- A paragraph, cut at breaks. -/
def lnCut (hi : Int) : Int → List Int → List Sp
  | lo, [] => [(lo, hi)]
  | lo, b :: bs => if lo < b ∧ b < hi then (lo, b) :: lnCut hi b bs else lnCut hi lo bs
def linesF (l : List Sp) (bs : List Int) : List Sp := l.flatMap fun s => lnCut s.2 s.1 bs
theorem lnCut_parts (hi n : Int) (rest : List Sp) : ∀ (bs : List Int) (lo : Int), 0 ≤ lo → lo < hi → partsFrom lo (lnCut hi lo bs ++ rest) n = partsFrom hi rest n
  | [], lo, h0, h1 => by
    have hr : rightB (lo, hi) = true := by simp [rightB]; omega
    simp [lnCut, partsFrom, hr]
  | b :: bs, lo, h0, h1 => by
    rw [lnCut]
    split
    · rename_i hb
      have hr : rightB (lo, b) = true := by simp [rightB]; omega
      have := lnCut_parts hi n rest bs b (by omega) hb.2
      simp [partsFrom, hr, this]
    · exact lnCut_parts hi n rest bs lo h0 h1
/-- Lines of parts are parts. -/
theorem lines_from (bs : List Int) (n : Int) : ∀ (l : List Sp) (e : Int), partsFrom e l n = true → partsFrom e (linesF l bs) n = true
  | [], e, h => h
  | s :: l, e, h => by
    simp only [partsFrom, Bool.and_eq_true, beq_iff_eq] at h
    have hs : linesF (s :: l) bs = lnCut s.2 s.1 bs ++ linesF l bs := by simp [linesF]
    obtain ⟨⟨hr, he⟩, hl⟩ := h
    have hr' : 0 ≤ s.1 ∧ s.1 < s.2 := by simpa [rightB] using hr
    rw [hs, ← he, lnCut_parts s.2 n _ bs s.1 hr'.1 hr'.2]
    exact lines_from bs n l s.2 hl
/-- What goes with the end of a line. -/
def blkB (c : Int) : Bool := decide (c = 12) || (decide (19 ≤ c) && decide (c ≤ 22)) || ((decide (14 ≤ c) && decide (c ≤ 18)) || decide (c = 9))
def endsF : List Int → Bool
  | [] => true
  | c :: l => if c = 11 ∨ c = 10 then true else if blkB c = true then endsF l else false
/-- The levels of a line: classes and levels of its places. -/
def lineF (base : Int) : List Int → List Int → List Int
  | c :: cs, n :: ns => (if endsF (c :: cs) = true then base else n) :: lineF base cs ns
  | _, _ => []
theorem lineF_len (base : Int) : ∀ (cs ns : List Int), cs.length = ns.length → (lineF base cs ns).length = ns.length
  | [], [], _ => rfl
  | _ :: cs, _ :: ns, h => by simp [lineF, lineF_len base cs ns (by simpa using h)]
  | [], _ :: _, h => by simp at h
  | _ :: _, [], h => by simp at h
theorem lineF_get (base : Int) {c n : Int} : ∀ {cs ns : List Int} {i : Nat}, cs[i]? = some c → ns[i]? = some n → (lineF base cs ns)[i]? = some (if endsF (cs.drop i) = true then base else n)
  | [], _, _, h, _ => by simp at h
  | _ :: _, [], _, _, h => by simp at h
  | x :: cs, y :: ns, 0, hc, hn => by
    obtain rfl := Option.some.inj hn
    rfl
  | x :: cs, y :: ns, i + 1, hc, hn => by
    rw [lineF, List.getElem?_cons_succ, List.drop_succ_cons]
    exact lineF_get base (by simpa using hc) (by simpa using hn)
/-- A strong place, and a digit's, stays. -/
theorem ends_strong {c : Int} (hc : c = 0 ∨ c = 1 ∨ c = 2 ∨ c = 3 ∨ c = 6) (l : List Int) : endsF (c :: l) = false := by
  rcases hc with rfl | rfl | rfl | rfl | rfl <;> rfl
end Go.Proofs.YtdgomaoikeffhaaGreat
/- A line, gone through from its end: what has come, place by place, is the line. No function of the program. -/
namespace Go.Proofs.YtdgomaoikeffhaaGreat
open Go.RowKit

/-- What a class does: 2 parts, 1 yields, 0 stays. -/
def endK (c : Int) : Int := if c = 11 ∨ c = 10 then 2 else if blkB c = true then 1 else 0
def nowE (c : Int) (e : Bool) : Bool := if endK c = 2 then true else if endK c = 0 then false else e
theorem now_ends (c : Int) (l : List Int) : endsF (c :: l) = nowE c (endsF l) := by
  rw [endsF]
  unfold nowE endK
  split
  · rfl
  · split <;> simp
/-- One place: a list of levels, and whether nothing that stays has come. -/
def stepV (base : Int) (cs : List Int) (s : List Int × Bool) (k : Nat) : List Int × Bool :=
  (if nowE (cs.getD k 0) s.2 = true then s.1.set k base else s.1, nowE (cs.getD k 0) s.2)
theorem stepV_len (base : Int) (cs : List Int) (s : List Int × Bool) (k : Nat) : (stepV base cs s k).1.length = s.1.length := by
  unfold stepV
  simp only
  split <;> simp
/-- The places of a line from its end on, k of them. -/
def fromEnd (n k : Nat) : List Nat := (List.range k).map fun j => n - 1 - j
theorem fromEnd_succ (n k : Nat) : fromEnd n (k + 1) = fromEnd n k ++ [n - 1 - k] := by simp [fromEnd, List.range_succ]
theorem fromEnd_len (n k : Nat) : (fromEnd n k).length = k := by simp [fromEnd]
def foldV (base : Int) (cs ls : List Int) (ks : List Nat) : List Int × Bool := ks.foldl (stepV base cs) (ls, true)
theorem foldV_snoc (base : Int) (cs ls : List Int) (ks : List Nat) (k : Nat) : foldV base cs ls (ks ++ [k]) = stepV base cs (foldV base cs ls ks) k := by simp [foldV]
theorem foldV_len (base : Int) (cs ls : List Int) : ∀ ks : List Nat, (foldV base cs ls ks).1.length = ls.length := by
  intro ks
  have : ∀ (ks : List Nat) (s : List Int × Bool), (ks.foldl (stepV base cs) s).1.length = s.1.length := by
    intro ks
    induction ks with
    | nil => intro s; rfl
    | cons k ks ih => intro s; rw [List.foldl_cons, ih, stepV_len]
  exact this ks (ls, true)
theorem foldV_at (base : Int) {cs ls : List Int} {n : Nat} (hc : cs.length = n) (hl : ls.length = n) : ∀ k, k ≤ n → foldV base cs ls (fromEnd n k) = (ls.take (n - k) ++ lineF base (cs.drop (n - k)) (ls.drop (n - k)), endsF (cs.drop (n - k)))
  | 0, _ => by
    rw [Nat.sub_zero, List.take_of_length_le (by omega), List.drop_eq_nil_of_le (by omega), List.drop_eq_nil_of_le (by omega)]
    simp [fromEnd, foldV, lineF, endsF]
  | k + 1, hk => by
    rw [fromEnd_succ, foldV_snoc, foldV_at base hc hl k (by omega)]
    obtain ⟨j, hj⟩ : ∃ j, n - k = j + 1 := ⟨n - k - 1, by omega⟩
    rw [hj, show n - 1 - k = j by omega, show n - (k + 1) = j by omega]
    have hcj : j < cs.length := by omega
    have hlj : j < ls.length := by omega
    rw [List.drop_eq_getElem_cons hcj, List.drop_eq_getElem_cons hlj, now_ends, lineF, now_ends, List.take_add_one, List.getElem?_eq_getElem hlj]
    unfold stepV
    have hg : cs.getD j 0 = cs[j] := by rw [List.getD_eq_getElem?_getD, List.getElem?_eq_getElem hcj]; rfl
    rw [hg]
    simp only
    refine Prod.ext ?_ rfl
    simp only
    cases nowE cs[j] (endsF (cs.drop (j + 1))) with
    | false =>
      rw [if_neg (by decide), if_neg (by decide), List.append_assoc]
      rfl
    | true =>
      simp only [if_pos]
      have hlen : (ls.take j).length = j := by rw [List.length_take]; omega
      simp only [Option.toList_some, List.append_assoc, List.singleton_append]
      rw [List.set_append, if_neg (by omega), hlen, Nat.sub_self]
      rfl
theorem foldV_all (base : Int) {cs ls : List Int} {n : Nat} (hc : cs.length = n) (hl : ls.length = n) : (foldV base cs ls (fromEnd n n)).1 = lineF base cs ls := by
  rw [foldV_at base hc hl n (Nat.le_refl _), Nat.sub_self]
  simp
end Go.Proofs.YtdgomaoikeffhaaGreat
/- A block of one span, known whole, and what becomes of it. -/
namespace Go.Proofs.YtdgomaoikeffhaaGreat
open Go.RowKit

/-- A block of one span, known whole, that may be written. -/
def SpanBlk (w : World) (b : Nat) (s : Sp) : Prop := w.cell? ⟨b, 0, none⟩ = some (.int .i64 s.1) ∧ w.cell? ⟨b, 1, none⟩ = some (.int .i64 s.2) ∧ w.frozen? ⟨b, 0, none⟩ = false ∧ w.frozen? ⟨b, 1, none⟩ = false

theorem SpanBlk.below {w w' : World} {b : Nat} {s : Sp} (h : SpanBlk w b s) (hb : Below w.heap.size w w') : SpanBlk w' b s :=
  ⟨cell_below hb h.1, cell_below hb h.2.1, (hb.frozen (cell_lt h.1)).trans h.2.2.1, (hb.frozen (cell_lt h.2.1)).trans h.2.2.2⟩
theorem SpanBlk.put {w : World} {b : Nat} {s : Sp} (h : SpanBlk w b s) (x y : Int) : SpanBlk ((w.setCell ⟨b, 0, none⟩ (.int .i64 x)).setCell ⟨b, 1, none⟩ (.int .i64 y)) b (x, y) := by
  obtain ⟨h0, h1, h2, h3⟩ := h
  have e1 : (w.setCell ⟨b, 0, none⟩ (.int .i64 x)).cell? ⟨b, 1, none⟩ = some (.int .i64 s.2) := (World.cell?_setCell_other (h := by simp) ..).trans h1
  refine ⟨?_, World.cell?_setCell_same (h := e1) .., ?_, ?_⟩
  · exact (World.cell?_setCell_other (h := by simp) ..).trans (World.cell?_setCell_same (h := h0) ..)
  · rw [World.frozen?_setCell, World.frozen?_setCell]; exact h2
  · rw [World.frozen?_setCell, World.frozen?_setCell]; exact h3
theorem SpanBlk.far {w : World} {b b' : Nat} {s : Sp} (h : SpanBlk w b s) (hne : b ≠ b') (u v : Value) : SpanBlk ((w.setCell ⟨b', 0, none⟩ u).setCell ⟨b', 1, none⟩ v) b s := by
  obtain ⟨h0, h1, h2, h3⟩ := h
  refine ⟨?_, ?_, ?_, ?_⟩
  · exact (World.cell?_setCell_other (h := by first | (simp; done) | (simp; omega)) ..).trans ((World.cell?_setCell_other (h := by first | (simp; done) | (simp; omega)) ..).trans h0)
  · exact (World.cell?_setCell_other (h := by first | (simp; done) | (simp; omega)) ..).trans ((World.cell?_setCell_other (h := by first | (simp; done) | (simp; omega)) ..).trans h1)
  · rw [World.frozen?_setCell, World.frozen?_setCell]; exact h2
  · rw [World.frozen?_setCell, World.frozen?_setCell]; exact h3

theorem only_setCell {a w : World} {g : Nat} (h : a.grownBy w (some g)) {p : Addr} (hp : p.block = g ∨ a.heap.size ≤ p.block) (u : Value) : a.grownBy (w.setCell p u) (some g) :=
  ⟨h.os, h.tape, h.output, by simpa [World.setCell] using h.size, fun i hi hne => (Below.heap_setCell w p u i (by
    rintro rfl
    rcases hp with hp | hp
    · exact hne (by rw [hp])
    · omega)).trans (h.block i hi hne)⟩
theorem SpanBlk.grown {w w' : World} {b : Nat} {s : Sp} {row : Option Nat} (h : SpanBlk w b s) (hg : w.grownBy w' row) (hne : row ≠ some b) : SpanBlk w' b s := by
  obtain ⟨h0, h1, h2, h3⟩ := h
  have hb := cell_lt h0
  have e := hg.block b hb (fun e => hne e.symm)
  have ec : ∀ i, w'.cell? ⟨b, i, none⟩ = w.cell? ⟨b, i, none⟩ := fun i => World.cell?_of_block (a := ⟨b, i, none⟩) e
  have ef : ∀ i, w'.frozen? ⟨b, i, none⟩ = w.frozen? ⟨b, i, none⟩ := fun i => by unfold World.frozen?; rw [e]
  exact ⟨(ec 0).trans h0, (ec 1).trans h1, (ef 0).trans h2, (ef 1).trans h3⟩
theorem SpanBlk.put0 {w : World} {b : Nat} {s : Sp} (h : SpanBlk w b s) (x : Int) : SpanBlk (w.setCell ⟨b, 0, none⟩ (.int .i64 x)) b (x, s.2) := by
  obtain ⟨h0, h1, h2, h3⟩ := h
  refine ⟨World.cell?_setCell_same (h := h0) .., (World.cell?_setCell_other (h := by simp) ..).trans h1, ?_, ?_⟩
  · rw [World.frozen?_setCell]; exact h2
  · rw [World.frozen?_setCell]; exact h3
theorem own_set_far {w : World} {base : Nat} {e : TypeId} {size n b i : Nat} {v u : Value} {xs : List Value} (h : w.ownsRow base e size v n xs) (hne : v.ownBlock ≠ some b) : (w.setCell ⟨b, i, none⟩ u).ownsRow base e size v n xs :=
  h.kept (row := some b) (only_setCell (World.grownBy.refl w _) (.inl rfl) u) (.inr hne)
theorem below_make {w w' : World} (hg : w.grownBy w' none) : Below w.heap.size w w' := (Below.refl _ _).grown hg (Nat.le_refl _) (fun k hk => by cases hk)
theorem SpanBlk.new_ (w : World) (x y : Int) (t : TypeId) : SpanBlk (w.alloc (.cells #[.int .i64 x, .int .i64 y] t)) w.heap.size (x, y) := by
  refine ⟨?_, ?_, ?_, ?_⟩ <;> simp [go_sem]

end Go.Proofs.YtdgomaoikeffhaaGreat
/- Ranges of codes as data: the cells of a slice of ranges; which may be; the value of a code. -/
namespace Go.Proofs.YtdgomaoikeffhaaGreat
open Go.RowKit

/-- A range: Lo, Hi, Value. -/
abbrev Rg := Int × Int × Int
def encG (r : Rg) : List Value := [.int .i64 r.1, .int .i64 r.2.1, .int .i64 r.2.2]
def cellsG (l : List Rg) : List Value := l.flatMap encG
theorem cellsG_snoc (l : List Rg) (r : Rg) : cellsG (l ++ [r]) = cellsG l ++ [.int .i64 r.1, .int .i64 r.2.1, .int .i64 r.2.2] := by simp [cellsG, encG]
theorem cellsG_len (l : List Rg) : (cellsG l).length = l.length * 3 := by
  induction l with
  | nil => rfl
  | cons s l ih =>
    show (encG s ++ cellsG l).length = _
    rw [List.length_append, ih, List.length_cons]
    simp only [encG, List.length_cons, List.length_nil]
    omega
theorem cellsG_at {l : List Rg} {k : Nat} {s : Rg} (h : l[k]? = some s) : (cellsG l)[k * 3]? = some (.int .i64 s.1) ∧ (cellsG l)[k * 3 + 1]? = some (.int .i64 s.2.1) ∧ (cellsG l)[k * 3 + 2]? = some (.int .i64 s.2.2) := by
  induction l generalizing k with
  | nil => simp at h
  | cons t l ih =>
    have hc : cellsG (t :: l) = .int .i64 t.1 :: .int .i64 t.2.1 :: .int .i64 t.2.2 :: cellsG l := rfl
    cases k with
    | zero =>
      simp at h
      subst h
      exact ⟨rfl, rfl, rfl⟩
    | succ k =>
      have := ih (k := k) (by simpa using h)
      rw [hc]
      have e0 : (k + 1) * 3 = k * 3 + 1 + 1 + 1 := by omega
      have e1 : (k + 1) * 3 + 1 = (k * 3 + 1) + 1 + 1 + 1 := by omega
      have e2 : (k + 1) * 3 + 2 = (k * 3 + 2) + 1 + 1 + 1 := by omega
      rw [e2, e1, e0]
      simpa using this
/-- The three cells of a range in a slice, as the walk spells them. -/
theorem Rd.rg {w : World} {A : Option Addr} {n k : Nat} {l : List Rg} {s : Rg} (hr : Rd w 3 A n (cellsG l)) (h : l[k]? = some s) : ∃ ad, A = some ad ∧ ad.block < w.heap.size ∧ w.cell? (ad.add (k * 3)) = some (.int .i64 s.1) ∧
    w.cell? ⟨(ad.add (k * 3)).block, (ad.add (k * 3)).off + 1, none⟩ = some (.int .i64 s.2.1) ∧ w.cell? ⟨(ad.add (k * 3)).block, (ad.add (k * 3)).off + 2, none⟩ = some (.int .i64 s.2.2) := by
  have hlen : l.length * 3 = n * 3 := by rw [← cellsG_len]; exact hr.1
  have hk := (List.getElem?_eq_some_iff.1 h).1
  obtain ⟨ad, rfl, hb, hc⟩ := hr.2 (by omega)
  obtain ⟨e0, e1, e2⟩ := cellsG_at h
  have h1 := hc _ _ e1
  have h2 := hc _ _ e2
  rw [addNext ad (k * 3) 0] at h1
  rw [addNext ad (k * 3) 1] at h2
  exact ⟨ad, rfl, hb, hc _ _ e0, h1, h2⟩
theorem Rd.lenG {w : World} {A : Option Addr} {n : Nat} {l : List Rg} (hr : Rd w 3 A n (cellsG l)) : l.length = n := by
  have := hr.1
  rw [cellsG_len] at this
  omega

/-- Whether ranges rise behind 'last'. -/
def riseB (last : Int) : List Rg → Bool
  | [] => true
  | r :: l => if r.1 ≤ last ∨ r.2.1 < r.1 ∨ 1114111 < r.2.1 then false else riseB r.2.1 l
theorem riseB_no {last : Int} {l : List Rg} {r : Rg} (h : r.1 ≤ last ∨ r.2.1 < r.1 ∨ 1114111 < r.2.1) : riseB last (r :: l) = false := if_pos h
theorem riseB_yes {last : Int} {l : List Rg} {r : Rg} (h : ¬ (r.1 ≤ last ∨ r.2.1 < r.1 ∨ 1114111 < r.2.1)) : riseB last (r :: l) = riseB r.2.1 l := if_neg h
/-- The value of a code: the first range's that has it. -/
def getG (l : List Rg) (none_ c : Int) : Int :=
  match l with
  | [] => none_
  | r :: l => if r.1 ≤ c ∧ c ≤ r.2.1 then r.2.2 else getG l none_ c
/-- What Build tells of ranges. -/
def errG (l : List Rg) : Int := if 4096 < l.length then 6 else if riseB (-1) l = true then 0 else 10
end Go.Proofs.YtdgomaoikeffhaaGreat
/- The given ranges of classes and of joining, as lists. -/
namespace Go.Proofs.YtdgomaoikeffhaaGreat

def bidiL : List Rg := [(0, 8, 9), (9, 9, 11), (10, 10, 10), (11, 11, 11), (12, 12, 12), (13, 13, 10), (14, 27, 9), (28, 30, 10), (31, 31, 11), (32, 32, 12), (33, 34, 13), (35, 37, 5), (38, 42, 13), (43, 43, 4), (44, 44, 7), (45, 45, 4), (46, 47, 7), (48, 57, 3), (58, 58, 7), (59, 64, 13), (91, 96, 13), (123, 126, 13), (127, 132, 9), (133, 133, 10), (134, 159, 9), (160, 160, 7), (161, 161, 13), (162, 165, 5), (166, 169, 13), (171, 172, 13), (173, 173, 9), (174, 175, 13), (176, 177, 5), (178, 179, 3), (180, 180, 13), (182, 184, 13), (185, 185, 3), (187, 191, 13), (215, 215, 13), (247, 247, 13), (697, 698, 13), (706, 719, 13), (722, 735, 13), (768, 879, 8), (1424, 1424, 1), (1425, 1469, 8), (1470, 1470, 1), (1471, 1471, 8), (1472, 1472, 1), (1473, 1474, 8), (1475, 1475, 1), (1476, 1477, 8), (1478, 1478, 1), (1479, 1479, 8), (1480, 1535, 1), (1536, 1541, 6), (1542, 1543, 13), (1544, 1544, 2), (1545, 1546, 5), (1547, 1547, 2), (1548, 1548, 7), (1549, 1549, 2), (1550, 1551, 13), (1552, 1562, 8), (1563, 1610, 2), (1611, 1631, 8), (1632, 1641, 6), (1642, 1642, 5), (1643, 1644, 6), (1645, 1647, 2), (1648, 1648, 8), (1649, 1749, 2), (1750, 1756, 8), (1757, 1757, 6), (1758, 1758, 13), (1759, 1764, 8), (1765, 1766, 2), (1767, 1768, 8), (1769, 1769, 13), (1770, 1773, 8), (1774, 1775, 2), (1776, 1785, 3), (1786, 1808, 2), (1809, 1809, 8), (1810, 1839, 2), (1840, 1866, 8), (1867, 1957, 2), (1958, 1968, 8), (1969, 1983, 2), (1984, 2026, 1), (2027, 2035, 8), (2036, 2037, 1), (2038, 2041, 13), (2042, 2044, 1), (2045, 2045, 8), (2046, 2069, 1), (2070, 2073, 8), (2074, 2074, 1), (2075, 2083, 8), (2084, 2084, 1), (2085, 2087, 8), (2088, 2088, 1), (2089, 2093, 8), (2094, 2136, 1), (2137, 2139, 8), (2140, 2143, 1), (2144, 2191, 2), (2192, 2193, 6), (2194, 2199, 2), (2200, 2207, 8), (2208, 2249, 2), (2250, 2273, 8), (2274, 2274, 6), (2275, 2306, 8), (8192, 8202, 12), (8203, 8205, 9), (8207, 8207, 1), (8208, 8231, 13), (8232, 8232, 12), (8233, 8233, 10), (8234, 8234, 14), (8235, 8235, 16), (8236, 8236, 18), (8237, 8237, 15), (8238, 8238, 17), (8239, 8239, 7), (8240, 8244, 5), (8245, 8259, 13), (8260, 8260, 7), (8261, 8286, 13), (8287, 8287, 12), (8288, 8293, 9), (8294, 8294, 19), (8295, 8295, 20), (8296, 8296, 21), (8297, 8297, 22), (8298, 8303, 9), (8304, 8304, 3), (8308, 8313, 3), (8314, 8315, 4), (8316, 8318, 13), (8320, 8329, 3), (8330, 8331, 4), (8332, 8334, 13), (8352, 8399, 5), (8400, 8432, 8), (8592, 8721, 13), (8722, 8722, 4), (8723, 8723, 5), (8724, 9013, 13), (9083, 9108, 13), (9110, 9254, 13), (9280, 9290, 13), (9312, 9351, 13), (9352, 9371, 3), (9450, 9899, 13), (9901, 10239, 13), (10496, 11123, 13), (11776, 11869, 13), (12288, 12288, 12), (12289, 12292, 13), (12296, 12320, 13), (12330, 12333, 8), (12336, 12336, 13), (64285, 64285, 1), (64286, 64286, 8), (64287, 64296, 1), (64297, 64297, 4), (64298, 64335, 1), (64336, 64829, 2), (64830, 64847, 13), (64848, 64974, 2), (64975, 64975, 13), (64976, 65007, 9), (65008, 65020, 2), (65021, 65023, 13), (65024, 65039, 8), (65040, 65049, 13), (65056, 65071, 8), (65072, 65103, 13), (65104, 65104, 7), (65105, 65105, 13), (65106, 65106, 7), (65108, 65108, 13), (65109, 65109, 7), (65110, 65118, 13), (65119, 65119, 5), (65120, 65121, 13), (65122, 65123, 4), (65124, 65126, 13), (65128, 65128, 13), (65129, 65130, 5), (65131, 65131, 13), (65136, 65278, 2), (65279, 65279, 9), (65281, 65282, 13), (65283, 65285, 5), (65286, 65290, 13), (65291, 65291, 4), (65292, 65292, 7), (65293, 65293, 4), (65294, 65295, 7), (65296, 65305, 3), (65306, 65306, 7), (65307, 65312, 13), (65339, 65344, 13), (65371, 65381, 13), (65504, 65505, 5), (65506, 65508, 13), (65509, 65510, 5), (65520, 65528, 9), (65529, 65533, 13), (65534, 65535, 9), (67584, 68863, 1), (68864, 68927, 2), (68928, 69631, 1), (120782, 120831, 3), (124928, 126063, 1), (126064, 126143, 2), (126144, 126207, 1), (126208, 126287, 2), (126288, 126463, 1), (126464, 126719, 2), (126720, 126975, 1), (126976, 127231, 13), (127232, 127242, 3), (127744, 128727, 13), (917504, 917759, 9), (917760, 917999, 8), (918000, 921599, 9)]
def joinL : List Rg := [(768, 879, 1), (1155, 1161, 1), (1425, 1469, 1), (1471, 1471, 1), (1473, 1474, 1), (1476, 1477, 1), (1479, 1479, 1), (1552, 1562, 1), (1564, 1564, 1), (1568, 1568, 3), (1570, 1573, 2), (1574, 1574, 3), (1575, 1575, 2), (1576, 1576, 3), (1577, 1577, 2), (1578, 1582, 3), (1583, 1586, 2), (1587, 1599, 3), (1600, 1600, 5), (1601, 1607, 3), (1608, 1608, 2), (1609, 1610, 3), (1611, 1631, 1), (1646, 1647, 3), (1648, 1648, 1), (1649, 1651, 2), (1653, 1655, 2), (1656, 1671, 3), (1672, 1689, 2), (1690, 1727, 3), (1728, 1728, 2), (1729, 1730, 3), (1731, 1739, 2), (1740, 1740, 3), (1741, 1741, 2), (1742, 1742, 3), (1743, 1743, 2), (1744, 1745, 3), (1746, 1747, 2), (1749, 1749, 2), (1750, 1756, 1), (1759, 1764, 1), (1767, 1768, 1), (1770, 1773, 1), (1774, 1775, 2), (1786, 1788, 3), (1791, 1791, 3), (1840, 1866, 1), (1958, 1968, 1), (1994, 2026, 3), (2027, 2035, 1), (2042, 2042, 5), (2200, 2207, 1), (2250, 2273, 1), (2275, 2306, 1), (8203, 8203, 1), (8205, 8205, 5), (8206, 8207, 1), (8234, 8238, 1), (8288, 8292, 1), (8298, 8303, 1), (8400, 8432, 1), (43072, 43121, 3), (43122, 43122, 4), (65024, 65039, 1), (65056, 65071, 1), (65279, 65279, 1), (917760, 917999, 1)]
end Go.Proofs.YtdgomaoikeffhaaGreat
/- What codes are, as functions of the given ranges. -/
namespace Go.Proofs.YtdgomaoikeffhaaGreat
open Go.RowKit
def classF (c : Int) : Int := if 0 ≤ c ∧ c ≤ 1114111 then getG bidiL 0 c else 13
def joinF (c : Int) : Int := getG joinL 0 c
end Go.Proofs.YtdgomaoikeffhaaGreat
/- Paragraphs as plain mathematics: where they end, which places go together, the first strong class, the level. No function of the program. -/
namespace Go.Proofs.YtdgomaoikeffhaaGreat
open Go.RowKit

/-- Whether a paragraph ends behind place k. -/
def endB (xs : List Int) (k : Nat) : Bool := decide (xs[k]?.map classF = some 10) && !(decide (xs[k]? = some 13) && decide (xs[k + 1]? = some 10))
/-- The paragraphs up to place k, and where the next one begins. -/
def parA (xs : List Int) : Nat → List Sp × Int
  | 0 => ([], 0)
  | k + 1 => if k + 1 = xs.length ∨ endB xs k = true then ((parA xs k).1 ++ [((parA xs k).2, (k : Int) + 1)], (k : Int) + 1) else parA xs k
def parL (xs : List Int) : List Sp := (parA xs xs.length).1
theorem parA_len (xs : List Int) (k : Nat) : (parA xs k).1.length ≤ k ∧ 0 ≤ (parA xs k).2 ∧ (parA xs k).2 ≤ k := by
  induction k with
  | zero => simp [parA]
  | succ k ih =>
    rw [parA]
    split
    · simp; omega
    · omega
theorem partsFrom_snoc (l : List Sp) (e : Int) (s : Sp) (n m : Int) (h : partsFrom e l m = true) (hs : s.1 = m) (hn : s.2 = n) (hr : rightB s = true) : partsFrom e (l ++ [s]) n = true := by
  induction l generalizing e with
  | nil =>
    simp only [partsFrom, beq_iff_eq] at h
    subst h
    simp [partsFrom, hr, hs, hn]
  | cons t l ih =>
    simp only [partsFrom, Bool.and_eq_true, List.cons_append] at h ⊢
    exact ⟨h.1, ih _ h.2⟩
theorem parA_parts (xs : List Int) (k : Nat) : partsFrom 0 (parA xs k).1 (parA xs k).2 = true := by
  induction k with
  | zero => rfl
  | succ k ih =>
    have h9 := parA_len xs k
    rw [parA]
    split
    · exact partsFrom_snoc _ _ _ _ _ ih rfl rfl (by simp [rightB]; omega)
    · exact ih
theorem parL_parts (xs : List Int) : partsS (parL xs) xs.length = true := by
  have h := parA_parts xs xs.length
  unfold partsS parL
  have he : (parA xs xs.length).2 = xs.length := by
    rcases hn : xs.length with _ | n
    · rfl
    · rw [parA, if_pos (.inl hn.symm)]
      simp
  rwa [he] at h

/-- Whether a class begins what stands apart. -/
def opB (c : Int) : Bool := decide (19 ≤ c) && decide (c ≤ 21)
theorem opB_iff (c : Int) : opB c = true ↔ c = 19 ∨ c = 20 ∨ c = 21 := by simp [opB]; omega
/-- How far behind the place is that ends what stands apart, from so deep on. -/
def clo : List Int → Nat → Option Nat
  | [], _ => none
  | c :: l, d => if opB c = true then (clo l (d + 1)).map (· + 1) else if c = 22 then (if d = 0 then some 0 else (clo l (d - 1)).map (· + 1)) else (clo l d).map (· + 1)
/-- The place that ends it, read on from place k; or how many places there are. -/
def ansF (xs : List Int) (k d : Nat) : Nat := match clo (xs.drop k) d with | some j => k + j | none => xs.length
theorem clo_lt {l : List Int} {d j : Nat} (h : clo l d = some j) : j < l.length := by
  induction l generalizing d j with
  | nil => simp [clo] at h
  | cons c l ih =>
    rw [clo] at h
    split at h
    · simp only [Option.map_eq_some_iff] at h
      obtain ⟨a, ha, rfl⟩ := h
      have := ih ha
      simp; omega
    · split at h
      · split at h
        · simp at h; subst h; simp
        · simp only [Option.map_eq_some_iff] at h
          obtain ⟨a, ha, rfl⟩ := h
          have := ih ha
          simp; omega
      · simp only [Option.map_eq_some_iff] at h
        obtain ⟨a, ha, rfl⟩ := h
        have := ih ha
        simp; omega
theorem clo_pdi {l : List Int} {d j : Nat} (h : clo l d = some j) : l[j]? = some 22 := by
  induction l generalizing d j with
  | nil => simp [clo] at h
  | cons c l ih =>
    rw [clo] at h
    split at h
    · simp only [Option.map_eq_some_iff] at h
      obtain ⟨a, ha, rfl⟩ := h
      simpa using ih ha
    · split at h
      · rename_i hc
        split at h
        · simp at h; subst h; simp [hc]
        · simp only [Option.map_eq_some_iff] at h
          obtain ⟨a, ha, rfl⟩ := h
          simpa using ih ha
      · simp only [Option.map_eq_some_iff] at h
        obtain ⟨a, ha, rfl⟩ := h
        simpa using ih ha
theorem ansF_le (xs : List Int) (k d : Nat) : ansF xs k d ≤ xs.length := by
  unfold ansF
  split
  · rename_i j h
    have := clo_lt h
    simp at this
    omega
  · exact Nat.le_refl _
theorem ansF_ge (xs : List Int) (k d : Nat) (hk : k ≤ xs.length) : k ≤ ansF xs k d := by
  unfold ansF
  split
  · omega
  · exact hk
theorem ansF_end (xs : List Int) (d : Nat) : ansF xs xs.length d = xs.length := by
  unfold ansF
  simp [clo]
theorem ansF_pdi (xs : List Int) (k d : Nat) (h : ansF xs k d < xs.length) : xs[ansF xs k d]? = some 22 := by
  unfold ansF at h ⊢
  split
  · rename_i j hj
    have := clo_pdi hj
    rwa [List.getElem?_drop] at this
  · rename_i hj
    rw [hj] at h
    simp at h
theorem ansF_map {xs : List Int} {k d e : Nat} {c : Int} (_hd : xs.drop k = c :: xs.drop (k + 1)) (h : clo (xs.drop k) d = (clo (xs.drop (k + 1)) e).map (· + 1)) : ansF xs k d = ansF xs (k + 1) e := by
  unfold ansF
  rw [h]
  cases clo (xs.drop (k + 1)) e with
  | none => rfl
  | some j => simp; omega
theorem ansF_open {xs : List Int} {k : Nat} {c : Int} (d : Nat) (h : xs[k]? = some c) (ho : opB c = true) : ansF xs k d = ansF xs (k + 1) (d + 1) :=
  ansF_map (dropCons h) (by rw [dropCons h, clo, if_pos ho])
theorem ansF_shut {xs : List Int} {k : Nat} (d : Nat) (h : xs[k]? = some 22) : ansF xs k (d + 1) = ansF xs (k + 1) d :=
  ansF_map (dropCons h) (by rw [dropCons h, clo, if_neg (by decide), if_pos rfl, if_neg (by omega)]; rfl)
theorem ansF_here {xs : List Int} {k : Nat} (h : xs[k]? = some 22) : ansF xs k 0 = k := by
  unfold ansF
  rw [dropCons h, clo, if_neg (by decide), if_pos rfl, if_pos rfl]
  rfl
theorem ansF_pass {xs : List Int} {k : Nat} {c : Int} (d : Nat) (h : xs[k]? = some c) (ho : opB c = false) (h2 : c ≠ 22) : ansF xs k d = ansF xs (k + 1) d :=
  ansF_map (dropCons h) (by rw [dropCons h, clo, if_neg (by rw [ho]; decide), if_neg h2])

/-- The program's steps: what goes together so far, and the places that are open, the last one first. -/
def pmS (xs : List Int) : Nat → List Int × List Nat
  | 0 => (List.replicate xs.length 0, [])
  | k + 1 =>
    let s := pmS xs k
    let m := s.1.set k (-1)
    match xs[k]? with
    | none => s
    | some c => if opB c = true then (m.set k xs.length, k :: s.2) else if c = 22 then (match s.2 with | [] => (m, []) | t :: r => ((m.set k t).set t k, r)) else (m, s.2)
/-- The reference's steps. -/
def rmS (xs : List Int) : Nat → List Int
  | 0 => List.replicate xs.length (-1)
  | k + 1 => if xs[k]?.map opB = some true then (let m := (rmS xs k).set k (ansF xs (k + 1) 0); if ansF xs (k + 1) 0 < xs.length then m.set (ansF xs (k + 1) 0) k else m) else rmS xs k
def matF (xs : List Int) : List Int := (pmS xs xs.length).1
def OpAt (xs : List Int) (i : Nat) : Prop := xs[i]?.map opB = some true
/-- What the whole answer is. -/
structure Good (xs m : List Int) : Prop where
  len : m.length = xs.length
  op : ∀ i, OpAt xs i → m[i]? = some ((ansF xs (i + 1) 0 : Nat) : Int)
  shut : ∀ i, OpAt xs i → ansF xs (i + 1) 0 < xs.length → m[ansF xs (i + 1) 0]? = some (i : Int)
  else_ : ∀ j < xs.length, ¬ OpAt xs j → m[j]? = some (-1) ∨ ∃ i, OpAt xs i ∧ ansF xs (i + 1) 0 = j
theorem Good.same {xs m m' : List Int} (h : Good xs m) (h' : Good xs m') : m = m' := by
  apply List.ext_getElem?
  intro j
  rcases Nat.lt_or_ge j xs.length with hj | hj
  · by_cases ho : OpAt xs j
    · rw [h.op j ho, h'.op j ho]
    · rcases h.else_ j hj ho with e | ⟨i, hi, e⟩
      · rcases h'.else_ j hj ho with e' | ⟨i, hi, e'⟩
        · rw [e, e']
        · subst e'
          rw [h.shut i hi hj, h'.shut i hi hj]
      · subst e
        rw [h.shut i hi hj, h'.shut i hi hj]
  · rw [List.getElem?_eq_none (by rw [h.len]; exact hj), List.getElem?_eq_none (by rw [h'.len]; exact hj)]
/-- What holds at each turn of the program. -/
structure PmI (xs : List Int) (k : Nat) (m : List Int) (S : List Nat) : Prop where
  len : m.length = xs.length
  st : ∀ t i, S[t]? = some i → i < k ∧ OpAt xs i ∧ ansF xs (i + 1) 0 = ansF xs k t ∧ m[i]? = some (xs.length : Int)
  op : ∀ i < k, OpAt xs i → i ∈ S ∨ (ansF xs (i + 1) 0 < k ∧ m[i]? = some ((ansF xs (i + 1) 0 : Nat) : Int) ∧ m[ansF xs (i + 1) 0]? = some (i : Int))
  else_ : ∀ j < k, ¬ OpAt xs j → m[j]? = some (-1) ∨ ∃ i, OpAt xs i ∧ ansF xs (i + 1) 0 = j
theorem set_ne {l : List Int} {i j : Nat} {x : Int} (h : i ≠ j) : (l.set i x)[j]? = l[j]? := List.getElem?_set_ne h
theorem set_eq {l : List Int} {i : Nat} {x : Int} (h : i < l.length) : (l.set i x)[i]? = some x := List.getElem?_set_self h
theorem opAt_of {xs : List Int} {k : Nat} {c : Int} (h : xs[k]? = some c) : OpAt xs k ↔ opB c = true := by
  unfold OpAt
  rw [h]
  simp
theorem pmI_all (xs : List Int) (k : Nat) (hk : k ≤ xs.length) : PmI xs k (pmS xs k).1 (pmS xs k).2 := by
  induction k with
  | zero => exact ⟨by simp [pmS], by simp [pmS], fun i h => absurd h (by omega), fun i h => absurd h (by omega)⟩
  | succ k ih =>
    have ih := ih (by omega)
    obtain ⟨c, hc⟩ : ∃ c, xs[k]? = some c := ⟨_, List.getElem?_eq_getElem (by omega)⟩
    obtain ⟨m, S, hmS⟩ : ∃ m S, pmS xs k = (m, S) := ⟨_, _, rfl⟩
    rw [hmS] at ih
    simp only at ih
    have hle : ∀ i, i ∈ S → i < k := fun i hi => by
      obtain ⟨t, ht⟩ := List.getElem?_of_mem hi
      exact (ih.st t i ht).1
    rw [pmS]
    simp only [hmS, hc]
    by_cases ho : opB c = true
    · rw [if_pos ho]
      have hoA := (opAt_of hc).2 ho
      refine ⟨by simp [ih.len], fun t i ht => ?_, fun i hi hoi => ?_, fun j hj hoj => ?_⟩
      · cases t with
        | zero =>
          simp at ht
          subst ht
          exact ⟨by omega, hoA, rfl, set_eq (by simp [ih.len]; omega)⟩
        | succ t =>
          simp at ht
          obtain ⟨h1, h2, h3, h4⟩ := ih.st t i ht
          exact ⟨by omega, h2, h3.trans (ansF_open t hc ho), by rw [set_ne (by omega), set_ne (by omega)]; exact h4⟩
      · by_cases hik : i = k
        · subst hik; exact .inl (List.mem_cons_self ..)
        · rcases ih.op i (by omega) hoi with h | ⟨h1, h2, h3⟩
          · exact .inl (List.mem_cons_of_mem _ h)
          · exact .inr ⟨by omega, by rw [set_ne (by omega), set_ne (by omega)]; exact h2, by rw [set_ne (by omega), set_ne (by omega)]; exact h3⟩
      · by_cases hjk : j = k
        · subst hjk; exact absurd hoA hoj
        · rcases ih.else_ j (by omega) hoj with h | h
          · exact .inl (by rw [set_ne (by omega), set_ne (by omega)]; exact h)
          · exact .inr h
    · rw [if_neg ho]
      have hnA : ¬ OpAt xs k := fun h => ho ((opAt_of hc).1 h)
      by_cases h22 : c = 22
      · subst h22
        rw [if_pos rfl]
        cases S with
        | nil =>
          refine ⟨by simp [ih.len], by simp, fun i hi hoi => ?_, fun j hj hoj => ?_⟩
          · have hik : i ≠ k := by rintro rfl; exact hnA hoi
            rcases ih.op i (by omega) hoi with h | ⟨h1, h2, h3⟩
            · simp at h
            · exact .inr ⟨by omega, by rw [set_ne (by omega)]; exact h2, by rw [set_ne (by omega)]; exact h3⟩
          · by_cases hjk : j = k
            · subst hjk; exact .inl (set_eq (by rw [ih.len]; omega))
            · rcases ih.else_ j (by omega) hoj with h | h
              · exact .inl (by rw [set_ne (by omega)]; exact h)
              · exact .inr h
        | cons t r =>
          obtain ⟨g1, g2, g3, g4⟩ := ih.st 0 t rfl
          have hclo : ansF xs (t + 1) 0 = k := by rw [g3]; exact ansF_here hc
          have hnd : ∀ u i, r[u]? = some i → i ≠ t := fun u i hu e => by
            subst e
            have h5 := (ih.st (u + 1) i (by simpa using hu)).2.2.1
            have h6 : ansF xs k (u + 1) = ansF xs (k + 1) u := ansF_shut u hc
            have h7 := ansF_ge xs (k + 1) u (by omega)
            omega
          refine ⟨by simp [ih.len], fun u i hu => ?_, fun i hi hoi => ?_, fun j hj hoj => ?_⟩
          · obtain ⟨h1, h2, h3, h4⟩ := ih.st (u + 1) i (by simpa using hu)
            have := hnd u i hu
            exact ⟨by omega, h2, h3.trans (ansF_shut u hc), by rw [set_ne (by omega), set_ne (by omega), set_ne (by omega)]; exact h4⟩
          · have hik : i ≠ k := by rintro rfl; exact hnA hoi
            by_cases hit : i = t
            · subst hit
              exact .inr ⟨by omega, by rw [hclo]; exact set_eq (by simp [ih.len]; omega), by rw [hclo, set_ne (by omega)]; exact set_eq (by simp [ih.len]; omega)⟩
            · rcases ih.op i (by omega) hoi with h | ⟨h1, h2, h3⟩
              · simp [hit] at h
                exact .inl h
              · have hct : ansF xs (i + 1) 0 ≠ t := fun e => by
                  rw [e, g4] at h3
                  simp at h3
                  omega
                exact .inr ⟨by omega, by rw [set_ne (by omega), set_ne (by omega), set_ne (by omega)]; exact h2, by rw [set_ne (by omega), set_ne (by omega), set_ne (by omega)]; exact h3⟩
          · by_cases hjk : j = k
            · subst hjk; exact .inr ⟨t, g2, hclo⟩
            · have hjt : j ≠ t := by rintro rfl; exact hoj g2
              rcases ih.else_ j (by omega) hoj with h | h
              · exact .inl (by rw [set_ne (by omega), set_ne (by omega), set_ne (by omega)]; exact h)
              · exact .inr h
      · rw [if_neg h22]
        have ho' : opB c = false := by simpa using ho
        refine ⟨by simp [ih.len], fun u i hu => ?_, fun i hi hoi => ?_, fun j hj hoj => ?_⟩
        · obtain ⟨h1, h2, h3, h4⟩ := ih.st u i hu
          exact ⟨by omega, h2, h3.trans (ansF_pass u hc ho' h22), by rw [set_ne (by omega)]; exact h4⟩
        · have hik : i ≠ k := by rintro rfl; exact hnA hoi
          rcases ih.op i (by omega) hoi with h | ⟨h1, h2, h3⟩
          · exact .inl h
          · exact .inr ⟨by omega, by rw [set_ne (by omega)]; exact h2, by rw [set_ne (by omega)]; exact h3⟩
        · by_cases hjk : j = k
          · subst hjk; exact .inl (set_eq (by rw [ih.len]; omega))
          · rcases ih.else_ j (by omega) hoj with h | h
            · exact .inl (by rw [set_ne (by omega)]; exact h)
            · exact .inr h
theorem opAt_lt {xs : List Int} {i : Nat} (h : OpAt xs i) : i < xs.length := by
  unfold OpAt at h
  rcases Nat.lt_or_ge i xs.length with hi | hi
  · exact hi
  · rw [List.getElem?_eq_none hi] at h; simp at h
theorem matF_good (xs : List Int) : Good xs (matF xs) := by
  have h := pmI_all xs xs.length (Nat.le_refl _)
  unfold matF
  refine ⟨h.len, fun i hi => ?_, fun i hi hlt => ?_, h.else_⟩
  · rcases h.op i (opAt_lt hi) hi with g | ⟨_, g, _⟩
    · obtain ⟨t, ht⟩ := List.getElem?_of_mem g
      obtain ⟨_, _, g3, g4⟩ := h.st t i ht
      rw [ansF_end] at g3
      rw [g3, g4]
    · exact g
  · rcases h.op i (opAt_lt hi) hi with g | ⟨_, _, g⟩
    · obtain ⟨t, ht⟩ := List.getElem?_of_mem g
      obtain ⟨_, _, g3, g4⟩ := h.st t i ht
      rw [ansF_end] at g3
      omega
    · exact g
/-- What goes together goes together once. -/
theorem ansF_inj {xs : List Int} {i j : Nat} (hi : OpAt xs i) (hj : OpAt xs j) (h : ansF xs (i + 1) 0 = ansF xs (j + 1) 0) (hl : ansF xs (i + 1) 0 < xs.length) : i = j := by
  have h1 := (matF_good xs).shut i hi hl
  have h2 := (matF_good xs).shut j hj (by omega)
  rw [← h, h1] at h2
  simp at h2
  omega
theorem pdi_not {xs : List Int} {i : Nat} (hl : ansF xs (i + 1) 0 < xs.length) : ¬ OpAt xs (ansF xs (i + 1) 0) := fun h => by
  have h1 := ansF_pdi xs (i + 1) 0 hl
  rw [opAt_of h1] at h
  cases h
structure RmI (xs : List Int) (k : Nat) (m : List Int) : Prop where
  len : m.length = xs.length
  op : ∀ i < k, OpAt xs i → m[i]? = some ((ansF xs (i + 1) 0 : Nat) : Int) ∧ (ansF xs (i + 1) 0 < xs.length → m[ansF xs (i + 1) 0]? = some (i : Int))
  else_ : ∀ j < xs.length, ¬ OpAt xs j → m[j]? = some (-1) ∨ ∃ i, OpAt xs i ∧ ansF xs (i + 1) 0 = j
theorem rmI_all (xs : List Int) (k : Nat) (hk : k ≤ xs.length) : RmI xs k (rmS xs k) := by
  induction k with
  | zero => exact ⟨by simp [rmS], fun i h => absurd h (by omega), fun j hj _ => .inl (by rw [rmS, List.getElem?_replicate, if_pos hj])⟩
  | succ k ih =>
    have ih := ih (by omega)
    rw [rmS]
    by_cases ho : xs[k]?.map opB = some true
    · rw [if_pos ho]
      have hoA : OpAt xs k := ho
      by_cases hl : ansF xs (k + 1) 0 < xs.length
      · simp only [hl, if_true]
        have hn := pdi_not hl
        have hge := ansF_ge xs (k + 1) 0 (by omega)
        refine ⟨by simp [ih.len], fun i hi hoi => ?_, fun j hj hoj => ?_⟩
        · have h1 : ansF xs (k + 1) 0 ≠ i := by rintro rfl; exact hn hoi
          by_cases hik : i = k
          · subst hik
            exact ⟨by rw [set_ne h1, set_eq (by rw [ih.len]; omega)], fun _ => set_eq (by simp [ih.len]; omega)⟩
          · obtain ⟨g1, g2⟩ := ih.op i (by omega) hoi
            refine ⟨by rw [set_ne h1, set_ne (by omega)]; exact g1, fun hli => ?_⟩
            have h2 : ansF xs (k + 1) 0 ≠ ansF xs (i + 1) 0 := fun e => hik (ansF_inj hoi hoA e.symm hli)
            have h3 : k ≠ ansF xs (i + 1) 0 := by intro e; exact pdi_not hli (by rw [← e]; exact hoA)
            rw [set_ne h2, set_ne h3]
            exact g2 hli
        · by_cases hja : ansF xs (k + 1) 0 = j
          · exact .inr ⟨k, hoA, hja⟩
          · have hjk : k ≠ j := by rintro rfl; exact hoj hoA
            rcases ih.else_ j hj hoj with h | h
            · exact .inl (by rw [set_ne hja, set_ne hjk]; exact h)
            · exact .inr h
      · simp only [hl, if_false]
        refine ⟨by simp [ih.len], fun i hi hoi => ?_, fun j hj hoj => ?_⟩
        · by_cases hik : i = k
          · subst hik
            exact ⟨set_eq (by rw [ih.len]; omega), fun h => absurd h hl⟩
          · obtain ⟨g1, g2⟩ := ih.op i (by omega) hoi
            refine ⟨by rw [set_ne (by omega)]; exact g1, fun hli => ?_⟩
            have h3 : k ≠ ansF xs (i + 1) 0 := by intro e; exact pdi_not hli (by rw [← e]; exact hoA)
            rw [set_ne h3]
            exact g2 hli
        · have hjk : k ≠ j := by rintro rfl; exact hoj hoA
          rcases ih.else_ j hj hoj with h | h
          · exact .inl (by rw [set_ne hjk]; exact h)
          · exact .inr h
    · rw [if_neg ho]
      refine ⟨ih.len, fun i hi hoi => ?_, ih.else_⟩
      have hik : i ≠ k := by rintro rfl; exact ho hoi
      exact ih.op i (by omega) hoi
/-- Both come to the same. -/
theorem rm_pm (xs : List Int) : rmS xs xs.length = matF xs := by
  have h := rmI_all xs xs.length (Nat.le_refl _)
  have g : Good xs (rmS xs xs.length) := ⟨h.len, fun i hi => (h.op i (opAt_lt hi) hi).1, fun i hi hl => (h.op i (opAt_lt hi) hi).2 hl, h.else_⟩
  exact g.same (matF_good xs)
/-- What goes together goes both ways. -/
theorem mat_back {xs : List Int} {i k : Nat} (h : (matF xs)[i]? = some (k : Int)) (hk : k < xs.length) : (matF xs)[k]? = some (i : Int) := by
  have g := matF_good xs
  have hi : i < xs.length := by
    have := (List.getElem?_eq_some_iff.1 h).1
    rwa [g.len] at this
  by_cases ho : OpAt xs i
  · rw [g.op i ho] at h
    have e : ansF xs (i + 1) 0 = k := by simp at h; omega
    subst e
    exact g.shut i ho hk
  · rcases g.else_ i hi ho with e | ⟨j, hj, e⟩
    · rw [e] at h
      simp at h
    · subst e
      rw [g.shut j hj hi] at h
      have e : j = k := by simp at h; omega
      subst e
      exact g.op j hj
theorem pmS_len (xs : List Int) (k : Nat) : (pmS xs k).1.length = xs.length := by
  induction k with
  | zero => simp [pmS]
  | succ k ih =>
    rw [pmS]
    split
    · exact ih
    · repeat' split
      all_goals simp [ih]
theorem pmS_stack (xs : List Int) (k : Nat) : (pmS xs k).2.length ≤ k := by
  induction k with
  | zero => simp [pmS]
  | succ k ih =>
    rw [pmS]
    split
    · omega
    · repeat' split
      all_goals (rename_i hs; simp_all; try omega)

/-- The first strong class, from so deep on. -/
def fstF : List Int → Nat → Int
  | [], _ => -1
  | c :: l, d => if opB c = true then fstF l (d + 1) else if c = 22 then fstF l (d - 1) else if d = 0 then (if c = 0 then 0 else if c = 1 ∨ c = 2 then 1 else fstF l 0) else fstF l d
/-- What stands apart may be passed over at once. -/
theorem fst_clo (l : List Int) (d : Nat) : fstF l (d + 1) = match clo l d with | some j => fstF (l.drop (j + 1)) 0 | none => -1 := by
  induction l generalizing d with
  | nil => rfl
  | cons c l ih =>
    rw [fstF, clo]
    split
    · rw [ih (d + 1)]
      cases clo l (d + 1) <;> rfl
    · by_cases h22 : c = 22
      · rw [if_pos h22, if_pos h22]
        by_cases hd : d = 0
        · subst hd; rfl
        · rw [if_neg hd, show d + 1 - 1 = (d - 1) + 1 by omega, ih (d - 1)]
          cases clo l (d - 1) <;> rfl
      · rw [if_neg h22, if_neg h22, if_neg (by omega), ih d]
        cases clo l d <;> rfl
def spanOf (xs : List Int) (s : Sp) : List Int := if max s.1 0 < min (max s.2 0) xs.length then (xs.drop (max s.1 0).toNat).take ((min (max s.2 0) xs.length).toNat - (max s.1 0).toNat) else []
def firstF (xs : List Int) (s : Sp) : Int := fstF (spanOf xs s) 0
def levelF (xs : List Int) (d : Int) : Int :=
  if d = 1 then 1 else if d = 2 then (if fstF xs 0 = -1 then 0 else fstF xs 0) else if d = 3 then (if fstF xs 0 = -1 then 1 else fstF xs 0) else 0
theorem fst_val (l : List Int) (d : Nat) : fstF l d = -1 ∨ fstF l d = 0 ∨ fstF l d = 1 := by
  induction l generalizing d with
  | nil => exact .inl rfl
  | cons c l ih =>
    rw [fstF]
    split
    · exact ih _
    · split
      · exact ih _
      · split
        · split
          · exact .inr (.inl rfl)
          · split
            · exact .inr (.inr rfl)
            · exact ih 0
        · exact ih _
theorem spanOf_all (xs : List Int) : spanOf xs (0, xs.length) = xs := by
  unfold spanOf
  rcases Nat.eq_zero_or_pos xs.length with h | h
  · rw [if_neg (by simp [h])]
    exact (List.eq_nil_of_length_eq_zero h).symm
  · rw [if_pos (by simp; omega)]
    rw [show (max (0 : Int) 0).toNat = 0 from rfl, show (min (max (xs.length : Int) 0) xs.length).toNat = xs.length by omega]
    simp
/-- Codes ahead that are no strong ones and begin nothing change nothing. -/
def calm (c : Int) : Bool := !(decide (c = 0) || decide (c = 1) || decide (c = 2)) && !opB c
theorem fst_calm (l r : List Int) (h : ∀ c ∈ l, calm c = true) : fstF (l ++ r) 0 = fstF r 0 := by
  induction l with
  | nil => rfl
  | cons c l ih =>
    have hc := h c (List.mem_cons_self ..)
    simp only [calm, Bool.and_eq_true, Bool.not_eq_true', Bool.or_eq_false_iff, decide_eq_false_iff_not] at hc
    rw [List.cons_append, fstF, if_neg (by rw [hc.2]; decide)]
    split
    · exact ih (fun c hc => h c (List.mem_cons_of_mem _ hc))
    · rw [if_pos rfl, if_neg hc.1.1.1, if_neg (by omega)]
      exact ih (fun c hc => h c (List.mem_cons_of_mem _ hc))
theorem fst_lead (l r : List Int) (c : Int) (h : ∀ c ∈ l, calm c = true) (hc : c = 0 ∨ c = 1) : fstF (l ++ c :: r) 0 = c := by
  rw [fst_calm l _ h]
  rcases hc with rfl | rfl <;> rfl
end Go.Proofs.YtdgomaoikeffhaaGreat
