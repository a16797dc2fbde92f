/- Texts of one claim, one behind the other. -/
import Derived.Test.YtcbiaeeifclieaaRows
import Derived.WalkKit
import Derived.WalkSpells
import Derived.WalkLawsBesides
import Derived.Handy
import Derived.Below
import Derived.Laws.OwnMore
import Derived.Deep.AppendLies
import Derived.Deep.Draws
import Derived.Laws.Rows
import Derived.Maps.AppendAt
import Derived.RegionTactic
import Derived.OwnWalk
import Derived.Deep.QuietTactic
import Derived.BigQuiet
import Derived.Lib.Hide
import Derived.Deep.LoopGhost
import Derived.Laws.ResultCell
/- Words for memory that all later texts share: a slice that reads as a list, blocks, appends (after the guide's own page of words), and small facts on endings. -/
namespace Go.Proofs.Ytcbiaeeifclieaa
open Go.RowKit

theorem blockAdd (a : Addr) (n : Nat) : (a.add n).block = a.block := by unfold Addr.add; split <;> rfl
theorem addAdd (a : Addr) (i j : Nat) : (a.add i).add j = a.add (i + j) := by
  unfold Addr.add
  by_cases hi : i = 0 <;> by_cases hj : j = 0 <;> simp [hi, hj, Nat.add_assoc]

/-- In world w the slice value with address A and length n reads as the cells xs ('size' cells an element), all in memory that is there. -/
def Rd (w : World) (size : Nat) (A : Option Addr) (n : Nat) (xs : List Value) : Prop :=
  xs.length = n * size ∧ (0 < n → ∃ ad, A = some ad ∧ ad.block < w.heap.size ∧ ∀ j u, xs[j]? = some u → w.cell? (ad.add j) = some u)

section
variable {w w' : World} {size n : Nat} {A : Option Addr} {xs : List Value}
theorem Rd.nil_ : Rd w size A 0 [] := ⟨by simp, fun h => absurd h (by omega)⟩
theorem Rd.len1 (h : Rd w 1 A n xs) : xs.length = n := by have := h.1; omega
theorem Rd.at_ {k : Nat} (h : Rd w 1 A n xs) (hk : k < n) : ∃ ad, A = some ad ∧ ad.block < w.heap.size ∧ ∀ u, xs[k]? = some u → w.cell? (ad.add k) = some u := by
  obtain ⟨ad, e, hb, hc⟩ := h.2 (by omega)
  exact ⟨ad, e, hb, fun u hu => hc k u hu⟩
theorem Rd.below (h : Rd w size A n xs) (hb : Below w.heap.size w w') : Rd w' size A n xs :=
  ⟨h.1, fun hn => by
    obtain ⟨ad, e, hlt, hc⟩ := h.2 hn
    exact ⟨ad, e, Nat.lt_of_lt_of_le hlt hb.size, fun j u hu => (hb.cell (by rw [blockAdd]; exact hlt)).trans (hc j u hu)⟩⟩
theorem Rd.drewN (h : Rd w size A n xs) (k : Nat) : Rd (w.drewN k) size A n xs := h
theorem Rd.alloc (h : Rd w size A n xs) (o : Obj) : Rd (w.alloc o) size A n xs := h.below ((Below.refl _ _).alloc (Nat.le_refl _) o)
/-- A cut 's[k:]'. -/
theorem Rd.cut (h : Rd w size A n xs) {k cap : Nat} (hk : k ≤ n) (hc : n ≤ cap) :
    Rd w size (if cap = k then A else A.map (·.add (k * size))) (n - k) (xs.drop (k * size)) := by
  refine ⟨by rw [List.length_drop, h.1, Nat.sub_mul], fun hn => ?_⟩
  obtain ⟨ad, rfl, hb, hcell⟩ := h.2 (by omega)
  rw [if_neg (by omega)]
  refine ⟨ad.add (k * size), rfl, by rw [blockAdd]; exact hb, fun j u hu => ?_⟩
  rw [addAdd]
  exact hcell _ u (by rw [← hu, List.getElem?_drop])
theorem Rd.of_own {base : Nat} {e : TypeId} {c : Nat} (h : w.ownsRow base e size (.slice A n c) n xs) : Rd w size A n xs := by
  refine ⟨h.1, fun hn => ?_⟩
  obtain ⟨g, cap, hv, _, hlt⟩ := h.form hn
  have hA : A = some ⟨g, 0, none⟩ := by injection hv
  subst hA
  exact ⟨_, rfl, hlt, h.cells (g := g) rfl⟩
end

theorem Rd.news {w : World} {size n : Nat} {ad : Addr} {xs : List Value} (h : Rd w size (some ad) n xs) : ∀ j u, xs[j]? = some u → w.cell? (ad.add j) = some u := by
  intro j u hu
  rcases Nat.eq_zero_or_pos n with h0 | h0
  · subst h0
    have hn : xs = [] := List.eq_nil_of_length_eq_zero (by simpa using h.1)
    subst hn
    simp at hu
  · obtain ⟨ad', e, _, hc⟩ := h.2 h0
    injection e with e
    subst e
    exact hc j u hu
/-- What a row of the call's own looks like as a value: a slice of that length. -/
theorem own_form {w : World} {base : Nat} {e : TypeId} {size : Nat} {v : Value} {n : Nat} {xs : List Value} (h : w.ownsRow base e size v n xs) : ∃ A c, v = .slice A n c ∧ n ≤ c := by
  rcases h.2 with ⟨rfl, rfl⟩ | ⟨g, cap, cur, rfl, _, _, hnc, _⟩
  · exact ⟨none, 0, rfl, Nat.le_refl _⟩
  · exact ⟨_, _, rfl, hnc⟩

/-- The slice type T has elements of type E, of so many cells and bytes. -/
def SliceOf (P : Program) (T E : TypeId) (size bytes : Nat) : Prop :=
  P.underlying T = some (.slice E) ∧ ∃ i z, P.info? E = some i ∧ i.zero = some z ∧ i.size = size ∧ i.bytes = bytes ∧ z.cells.size = size
theorem SliceOf.mk_ {P : Program} {T E : TypeId} {size bytes : Nat} {z : Value} (h : P.underlying T = some (.slice E)) (hi : (P.info? E).map (fun i => (i.zero, i.size, i.bytes)) = some (some z, size, bytes)) (hz : z.cells.size = size) : SliceOf P T E size bytes := by
  obtain ⟨i, h1, h2, h3, h4⟩ := info_parts hi
  exact ⟨h, i, z, h1, h2, h3, h4, hz⟩

/-- append onto a row of the call's own, the source at an address. -/
theorem wpList_app {P : Program} {w : World} {ops : Array Oper} {rest : List Oper} {o : Oper} {a : Act} {Q : Exit → Act → World → Prop} (hgd : o.guard = none) (s x : Operand) (t : TypeId)
    (ho : o.op = .call { callee := .builtin .append, args := #[s, x], argTypes := #[t, t] })
    {base : Nat} {e : TypeId} {size bytes : Nat} (S : SliceOf P t e size bytes) (hsz : 0 < size)
    (v : Value) (n : Nat) (xs : List Value) (hs : a.eval s = v) (hown : w.ownsRow base e size v n xs)
    (ad : Addr) (m c : Nat) (news : List Value) (hx : a.eval x = .slice (some ad) m c) (hl : news.length = m * size) (hnews : ∀ j u, news[j]? = some u → w.cell? (ad.add j) = some u) (h1 : ∀ u ∈ news, u.oneCell' = true)
    (hbytes : (n + m) * bytes ≤ 140737488355328) (h63 : n + m ≤ maxLen) (hbase : base ≤ w.heap.size)
    (h : ∀ v' w', w'.ownsRow base e size v' (n + m) (xs ++ news) → w.grownBy w' v.ownBlock → (v'.ownBlock = v.ownBlock ∨ v'.ownBlock = some w.heap.size) → wpList P ops Q rest (a.put o.dst v') w') :
    wpList P ops Q (o :: rest) a w := by
  obtain ⟨ht, i, z, hi, hz, hs1, hb1, hzs⟩ := S
  exact wpList_append_own_at w hgd s x t ho base e i z size bytes ht hi hz hs1 hb1 hzs hsz v n xs hs hown ad m c news hx hl hnews h1 h63 hbytes hbase (fun v' w' a1 a2 _ a4 => h v' w' a1 a2 a4)

theorem run_app_nil {P : Program} (w : World) (base : Nat) (t ty e : TypeId) (size bytes : Nat) (S : SliceOf P t e size bytes)
    (v : Value) (n : Nat) (xs : List Value) (hown : w.ownsRow base e size v n xs) (c : Nat) : (Builtin.append_ #[t, t] ty #[v, .slice none 0 c]).run P w = .ok v w := by
  obtain ⟨ht, i, z, hi, hz, hs1, hb1, hzs⟩ := S
  rcases hown.2 with ⟨rfl, rfl⟩ | ⟨g, cap, cur, rfl, _, _, hnc, _⟩
  · simp [Builtin.append_, run_underlying ht, sizeOf, typeInfo, hi, Builtin.lenOf, Builtin.firstCells]
  · simp [Builtin.append_, run_underlying ht, sizeOf, typeInfo, hi, Builtin.lenOf, Builtin.firstCells, hnc, storeCells]

/-- append onto a row of the call's own, the source any slice that reads as 'news', nil too. -/
theorem wpList_appR {P : Program} {w : World} {ops : Array Oper} {rest : List Oper} {o : Oper} {a : Act} {Q : Exit → Act → World → Prop} (hgd : o.guard = none) (s x : Operand) (t : TypeId)
    (ho : o.op = .call { callee := .builtin .append, args := #[s, x], argTypes := #[t, t] })
    {base : Nat} {e : TypeId} {size bytes : Nat} (S : SliceOf P t e size bytes) (hsz : 0 < size)
    (v : Value) (n : Nat) (xs : List Value) (hs : a.eval s = v) (hown : w.ownsRow base e size v n xs)
    (A : Option Addr) (m c : Nat) (news : List Value) (hx : a.eval x = .slice A m c) (hr : Rd w size A m news) (h1 : ∀ u ∈ news, u.oneCell' = true)
    (hbytes : (n + m) * bytes ≤ 140737488355328) (h63 : n + m ≤ maxLen) (hbase : base ≤ w.heap.size)
    (h : ∀ v' w', w'.ownsRow base e size v' (n + m) (xs ++ news) → w.grownBy w' v.ownBlock → (v'.ownBlock = v.ownBlock ∨ v'.ownBlock = some w.heap.size) → wpList P ops Q rest (a.put o.dst v') w') :
    wpList P ops Q (o :: rest) a w := by
  rcases A with _ | ad
  · have hm : m = 0 := by
      rcases Nat.eq_zero_or_pos m with h0 | h0
      · exact h0
      · obtain ⟨_, e, _⟩ := hr.2 h0
        cases e
    subst hm
    have hn : news = [] := List.eq_nil_of_length_eq_zero (by simpa using hr.1)
    subst hn
    have hrun := run_app_nil (P := P) w base t o.type e size bytes S v n xs hown c
    refine wpList_plain hgd fun K hK => ?_
    unfold Oper.wp execOp
    simp only [ho, resolve, invoke, builtin, Sem.run_bind, Sem.run_pure, Result.andThen_ok, List.map_toArray, List.map_cons, List.map_nil, hs, hx, hrun]
    exact hK _ _ (h v w (by simpa using hown) (World.grownBy.refl w _) (.inl rfl))
  · exact wpList_app hgd s x t ho S hsz v n xs hs hown ad m c news hx hr.1 hr.news h1 hbytes h63 hbase h

/-- make([]T, 0, n). -/
theorem wpList_mk {P : Program} {w : World} {ops : Array Oper} {rest : List Oper} {o : Oper} {a : Act} {Q : Exit → Act → World → Prop}
    (hg : o.guard = none) (l c : Operand) (t : TypeId) (hop : o.op = Op.makeSlice t l c)
    {base : Nat} {e : TypeId} {size bytes : Nat} (S : SliceOf P t e size bytes)
    {kl kc : IntKind} (C : Int) (n : Nat) (hl : a.eval l = .int kl 0) (hc : a.eval c = .int kc C) (hC : C = (n : Int)) (b2 : bytes * n ≤ 281474976710656) (b3 : n ≤ maxLen) (b4 : base ≤ w.heap.size)
    (hK : ∀ v' w', w'.ownsRow base e size v' 0 [] → w.grownBy w' none → wpList P ops Q rest (a.put o.dst v') w') :
    wpList P ops Q (o :: rest) a w := by
  obtain ⟨ht, i, z, hi, hz, hs1, hb1, hzs⟩ := S
  exact wpList_make_own w hg l c t hop base e i z size ht hi hz hs1 kl kc C n hl hc hC (by rw [hb1]; exact b2) b3 b4 (fun w' a1 a2 => hK _ w' a1 a2)

/-- make([]T, n), T of one cell. -/
theorem wpList_mkFull {P : Program} {w : World} {ops : Array Oper} {rest : List Oper} {o : Oper} {a : Act} {Q : Exit → Act → World → Prop}
    (hg : o.guard = none) (l c : Operand) (t : TypeId) (hop : o.op = Op.makeSlice t l c)
    {base : Nat} {e : TypeId} {bytes : Nat} {z : Value} (ht : P.underlying t = some (.slice e)) (hin : (P.info? e).map (fun i => (i.zero, i.size, i.bytes)) = some (some z, 1, bytes)) (hz : z.cells = #[z])
    {kl kc : IntKind} (L C : Int) (n : Nat) (hl : a.eval l = .int kl L) (hc : a.eval c = .int kc C) (hL : L = (n : Int)) (hC : C = (n : Int)) (b2 : bytes * n ≤ 281474976710656) (b3 : n ≤ maxLen) (b4 : base ≤ w.heap.size)
    (hK : ∀ w', w'.ownsRow base e 1 (.slice (some ⟨w.heap.size, 0, none⟩) n n) n (List.replicate n z) → w.grownBy w' none → wpList P ops Q rest (a.put o.dst (.slice (some ⟨w.heap.size, 0, none⟩) n n)) w') :
    wpList P ops Q (o :: rest) a w := by
  obtain ⟨i, h1, h2, h3, h4⟩ := info_parts hin
  refine wpList_make_full w hg l c t hop base e i z 1 ht h1 h2 h3 kl kc L C n hl hc hL hC (by rw [h4]; exact b2) b3 b4 (fun w' a1 a2 => hK w' ?_ a2)
  rw [hz, Nat.mul_one, toList_madeCells_one] at a1
  exact a1

theorem addNew (g j : Nat) : (⟨g, 0, none⟩ : Addr).add j = ⟨g, j, none⟩ := by
  unfold Addr.add
  split
  · rename_i h; subst h; rfl
  · simp
/-- The cells of a new block. -/
theorem cells_new (w : World) (cs : List Value) (t : TypeId) : ∀ j u, cs[j]? = some u → (w.alloc (.cells cs.toArray t)).cell? ((⟨w.heap.size, 0, none⟩ : Addr).add j) = some u := by
  intro j u hj
  rw [addNew, World.cell?_alloc_at _ _ _ _ rfl]
  simpa using hj

theorem Rd.new_ (w : World) (cs : List Value) (t : TypeId) : Rd (w.alloc (.cells cs.toArray t)) 1 (some ⟨w.heap.size, 0, none⟩) cs.length cs :=
  ⟨by simp, fun _ => ⟨_, rfl, by simp, cells_new w cs t⟩⟩
theorem cell_lt {w : World} {a : Addr} {v : Value} (h : w.cell? a = some v) : a.block < w.heap.size := by
  unfold World.cell? at h
  rcases Nat.lt_or_ge a.block w.heap.size with hlt | hge
  · exact hlt
  · rw [Array.getElem?_eq_none hge] at h; cases h
theorem cell_below {w w' : World} {a : Addr} {v : Value} (hb : Below w.heap.size w w') (h : w.cell? a = some v) : w'.cell? a = some v := (hb.cell (cell_lt h)).trans h
theorem below_self {w a b : World} (h : Below w.heap.size w a) (k : Below a.heap.size a b) : Below w.heap.size w b := h.trans (k.mono h.size)
theorem below_new (w : World) (o : Obj) : Below w.heap.size w (w.alloc o) := (Below.refl _ _).alloc (Nat.le_refl _) o
theorem below_drew {w a : World} (h : Below w.heap.size w a) (n : Nat) : Below w.heap.size w (a.drewN n) := ⟨h.os, h.tape, h.output, h.size, h.block⟩
theorem oneInt (k : IntKind) (x : Int) : ∀ u ∈ [Value.int k x], u.oneCell' = true := by
  intro u hu
  simp at hu
  subst hu
  rfl
theorem oneInt2 (k : IntKind) (x y : Int) : ∀ u ∈ [Value.int k x, .int k y], u.oneCell' = true := by
  intro u hu
  simp at hu
  rcases hu with rfl | rfl <;> rfl
theorem oneInts (k : IntKind) (xs : List Int) : ∀ u ∈ xs.map (Value.int k), u.oneCell' = true := by
  intro u hu
  simp at hu
  obtain ⟨x, _, rfl⟩ := hu
  rfl
/-- A row below which all stood is told of what it was of. -/
theorem ownBlock_slice (A : Option Addr) (n c k : Nat) (h : (Value.slice A n c).ownBlock = some k) : ∃ a, A = some a ∧ a.block = k := by
  rcases A with _ | a
  · cases h
  · exact ⟨a, rfl, by injection h⟩
theorem below_app {B : Nat} {w0 w w' : World} {e : TypeId} {size n : Nat} {v : Value} {xs : List Value} (h : Below B w0 w) (hg : w.grownBy w' v.ownBlock) (hown : w.ownsRow B e size v n xs) (hB : B ≤ w.heap.size) : Below B w0 w' :=
  h.grown hg hB (fun k hk => (hown.lt k hk).1)

theorem retB {a b : Bool} (h : a = true ↔ b = true) : Ending.returned (.bool a) = .returned (.bool b) := by rw [Bool.eq_iff_iff.2 h]
theorem retI {a b : Int} (h : a = b) : Ending.returned (.int .i64 a) = .returned (.int .i64 b) := by rw [h]
theorem drewBelow {w : World} (n : Nat) : Below w.heap.size w (w.drewN n) := ⟨rfl, rfl, rfl, Nat.le_refl _, fun _ _ => rfl⟩
theorem below_drewN {B : Nat} {a w : World} (h : Below B a w) (n : Nat) : Below B a (w.drewN n) := ⟨h.os, h.tape, h.output, h.size, h.block⟩
end Go.Proofs.Ytcbiaeeifclieaa
/- More words for memory: make with a length and a capacity; values in an aggregate. -/
namespace Go.Proofs.Ytcbiaeeifclieaa
open Go.RowKit

/-- make([]T, l, c), T of one cell. -/
theorem wpList_mkN {P : Program} {w : World} {ops : Array Oper} {rest : List Oper} {o : Oper} {a : Act} {Q : Exit → Act → World → Prop}
    (hg : o.guard = none) (lo co : Operand) (t : TypeId) (hop : o.op = Op.makeSlice t lo co)
    {base : Nat} {e : TypeId} {bytes : Nat} {z : Value} (ht : P.underlying t = some (.slice e)) (hin : (P.info? e).map (fun i => (i.zero, i.size, i.bytes)) = some (some z, 1, bytes)) (hz : z.cells = #[z])
    {kl kc : IntKind} (L C : Int) (l c : Nat) (hl : a.eval lo = .int kl L) (hc : a.eval co = .int kc C) (hL : L = (l : Int)) (hC : C = (c : Int)) (hlc : l ≤ c) (b2 : bytes * c ≤ 281474976710656) (b3 : c ≤ maxLen) (b4 : base ≤ w.heap.size)
    (hK : ∀ w', w'.ownsRow base e 1 (.slice (some ⟨w.heap.size, 0, none⟩) l c) l (List.replicate l z) → w.grownBy w' none → wpList P ops Q rest (a.put o.dst (.slice (some ⟨w.heap.size, 0, none⟩) l c)) w') :
    wpList P ops Q (o :: rest) a w := by
  obtain ⟨i, h1, h2, h3, h4⟩ := info_parts hin
  subst hL hC
  have h63 : ((c : Nat) : Int) ≤ 9223372036854775807 := by unfold maxLen at b3; omega
  have hb' : (i.bytes : Int) * (c : Int) ≤ 281474976710656 := by
    have h : ((i.bytes * c : Nat) : Int) ≤ 281474976710656 := by rw [h4]; omega
    rwa [Int.natCast_mul] at h
  have hr := run_make (P := P) w t e i z ht h1 h2 kl kc l c (by omega) (by omega) hb' h63
  simp only [Int.toNat_natCast, h3, Nat.mul_one, hz] at hr
  have hown : (w.alloc (.cells (madeCells #[z] c) e)).ownsRow base e 1 (.slice (some ⟨w.heap.size, 0, none⟩) l c) l (List.replicate l z) := by
    refine ⟨by simp, .inr ⟨w.heap.size, c, madeCells #[z] c, rfl, b4, heap_alloc_new w _, hlc, b3, by rw [size_madeCells]; omega, ?_⟩⟩
    rw [toList_madeCells_one, Nat.mul_one, List.take_replicate]
    congr 1
    omega
  refine wpList_plain hg fun K hK' => ?_
  unfold Oper.wp
  simp [execOp, hop, hl, hc, hr, Result.andThen]
  exact hK' _ _ (hK _ hown (World.grownBy_alloc w _ none))

/-- A row of the call's own with at least one element: where it lies. -/
theorem own_at {w : World} {base : Nat} {e : TypeId} {v : Value} {n : Nat} {xs : List Value} (h : w.ownsRow base e 1 v n xs) (hn : 0 < n) :
    ∃ g c, v = .slice (some ⟨g, 0, none⟩) n c ∧ n ≤ c ∧ g < w.heap.size ∧ base ≤ g ∧ ∀ j u, xs[j]? = some u → w.cell? ⟨g, j, none⟩ = some u := by
  obtain ⟨g, c, hv, hbg, hlt⟩ := h.form hn
  obtain ⟨_, _, e, hnc⟩ := own_form h
  subst hv
  injection e with _ _ e
  subst e
  refine ⟨g, c, rfl, hnc, hlt, hbg, fun j u hj => ?_⟩
  have := h.cells (g := g) rfl j u hj
  rwa [addNew] at this
/-- What is owned from a later block on is owned from an earlier one on. -/
theorem own_base {w : World} {base b' : Nat} {e : TypeId} {size : Nat} {v : Value} {n : Nat} {xs : List Value} (h : w.ownsRow base e size v n xs) (hb : b' ≤ base) : w.ownsRow b' e size v n xs := by
  obtain ⟨h1, h2⟩ := h
  refine ⟨h1, ?_⟩
  rcases h2 with h2 | ⟨g, cap, cur, hv, hg, r⟩
  · exact .inl h2
  · exact .inr ⟨g, cap, cur, hv, Nat.le_trans hb hg, r⟩
/-- A block of the call's own that no row is, behind an append or a make. -/
theorem blk_grown {w w' : World} {b : Nat} {o : Obj} {row : Option Nat} (h : w.heap[b]? = some o) (hg : w.grownBy w' row) (hne : row ≠ some b) : w'.heap[b]? = some o :=
  (hg.block b (by
    rcases Nat.lt_or_ge b w.heap.size with h' | h'
    · exact h'
    · simp [Array.getElem?_eq_none h'] at h) (fun e => hne e.symm)).trans h
theorem blk_alloc {w : World} {b : Nat} {o : Obj} (h : w.heap[b]? = some o) (o' : Obj) : (w.alloc o').heap[b]? = some o :=
  blk_grown h (World.grownBy_alloc w _ none) (by simp)
/-- A callee that leaves the world alone, inside a quiet region. -/
theorem quiet_eq {P : Program} {f : FuncId} {args : Array Value} {w : World} {n : Nat} {v : Value}
    (h : Calls P f args (w.drewN n) fun e w' => e = .returned v ∧ w.drewN n = w') : Calls P f args (w.drewN n) fun e w'' => e = .returned v ∧ ∃ m, w'' = w.drewN m :=
  Calls.quiet_of_same (h.mono fun _ _ ⟨a, b⟩ => ⟨a, b.symm⟩)
theorem toList_madeSame (z : Array Value) (z0 : Value) (h0 : 0 < z.size) (hz : ∀ j, j < z.size → z[j]! = z0) (n : Nat) : (madeCells z n).toList = List.replicate n z0 := by
  rw [List.eq_replicate_iff]
  refine ⟨by simp [madeCells], fun b hb => ?_⟩
  simp only [madeCells, Array.toList_map, List.mem_map] at hb
  obtain ⟨j, _, rfl⟩ := hb
  exact hz _ (Nat.mod_lt _ h0)
/-- make([]T, n), T a struct whose cells are all the same at zero. -/
theorem wpList_mkZ {P : Program} {w : World} {ops : Array Oper} {rest : List Oper} {o : Oper} {a : Act} {Q : Exit → Act → World → Prop}
    (hg : o.guard = none) (l c : Operand) (t : TypeId) (hop : o.op = Op.makeSlice t l c)
    {base : Nat} {e : TypeId} {size bytes : Nat} {z z0 : Value} (ht : P.underlying t = some (.slice e)) (hin : (P.info? e).map (fun i => (i.zero, i.size, i.bytes)) = some (some z, size, bytes)) (h0 : 0 < z.cells.size) (hz : ∀ j, j < z.cells.size → z.cells[j]! = z0)
    {kl kc : IntKind} (L C : Int) (n : Nat) (hl : a.eval l = .int kl L) (hc : a.eval c = .int kc C) (hL : L = (n : Int)) (hC : C = (n : Int)) (b2 : bytes * n ≤ 281474976710656) (b3 : n ≤ maxLen) (b4 : base ≤ w.heap.size)
    (hK : ∀ w', w'.ownsRow base e size (.slice (some ⟨w.heap.size, 0, none⟩) n n) n (List.replicate (n * size) z0) → w.grownBy w' none → wpList P ops Q rest (a.put o.dst (.slice (some ⟨w.heap.size, 0, none⟩) n n)) w') :
    wpList P ops Q (o :: rest) a w := by
  obtain ⟨i, h1, h2, h3, h4⟩ := info_parts hin
  refine wpList_make_full w hg l c t hop base e i z size ht h1 h2 h3 kl kc L C n hl hc hL hC (by rw [h4]; exact b2) b3 b4 (fun w' a1 a2 => hK w' ?_ a2)
  rwa [toList_madeSame _ z0 h0 hz] at a1
/-- Two cells next to each other, stored into a row of the call's own. -/
theorem own_store2 {w : World} {base : Nat} {e : TypeId} {size g n cap : Nat} {xs : List Value} (h : w.ownsRow base e size (.slice (some ⟨g, 0, none⟩) n cap) n xs) (j : Nat) (u v : Value) :
    ((w.setCell ⟨g, j, none⟩ u).setCell ⟨g, j + 1, none⟩ v).ownsRow base e size (.slice (some ⟨g, 0, none⟩) n cap) n ((xs.set j u).set (j + 1) v) :=
  ((h.stored j u).1.stored (j + 1) v).1
/-- A cell of a row of the call's own is there and may be written. -/
theorem own_slot {w : World} {base : Nat} {e : TypeId} {size g n cap : Nat} {xs : List Value} (h : w.ownsRow base e size (.slice (some ⟨g, 0, none⟩) n cap) n xs) {j : Nat} (hj : j < n * size) :
    (∃ u, w.cell? ⟨g, j, none⟩ = some u) ∧ w.frozen? ⟨g, j, none⟩ = false :=
  ⟨⟨xs[j]'(by rw [h.1]; exact hj), by rw [h.cellAt j hj, List.getElem?_eq_getElem]⟩, h.frozenAt j⟩
end Go.Proofs.Ytcbiaeeifclieaa
/- Which blocks a call may write. -/
namespace Go.Proofs.Ytcbiaeeifclieaa
open Go.RowKit

/-- w' is w with new blocks, and with writes to the blocks of S alone. -/
structure Kept (w w' : World) (S : List Nat) : Prop where
  os : w'.os = w.os
  tape : w'.tape = w.tape
  output : w'.output = w.output
  size : w.heap.size ≤ w'.heap.size
  block : ∀ i, i < w.heap.size → i ∉ S → w'.heap[i]? = w.heap[i]?
theorem Kept.refl (w : World) (S : List Nat) : Kept w w S := ⟨rfl, rfl, rfl, Nat.le_refl _, fun _ _ _ => rfl⟩
theorem Kept.trans {a b c : World} {S : List Nat} (h : Kept a b S) (k : Kept b c S) : Kept a c S :=
  ⟨k.os.trans h.os, k.tape.trans h.tape, k.output.trans h.output, Nat.le_trans h.size k.size, fun i hi hs => (k.block i (Nat.lt_of_lt_of_le hi h.size) hs).trans (h.block i hi hs)⟩
theorem Kept.of_grown {a b : World} {g : Nat} {S : List Nat} (h : a.grownBy b (some g)) (hg : g ∈ S) : Kept a b S :=
  ⟨h.os, h.tape, h.output, h.size, fun i hi hs => h.block i hi (fun e => hs (by obtain rfl := Option.some.inj e; exact hg))⟩
theorem Kept.of_below {a b : World} (h : Below a.heap.size a b) (S : List Nat) : Kept a b S := ⟨h.os, h.tape, h.output, h.size, fun i hi _ => h.block i hi⟩
theorem Kept.drew {a b : World} {S : List Nat} (h : Kept a b S) : Kept a b.drew S := ⟨h.os, h.tape, h.output, h.size, h.block⟩
theorem Kept.set {a b : World} {S : List Nat} (h : Kept a b S) {g : Nat} (hg : g ∈ S ∨ a.heap.size ≤ g) (j : Nat) (u : Value) : Kept a (b.setCell ⟨g, j, none⟩ u) S :=
  ⟨h.os, h.tape, h.output, by simpa [World.setCell] using h.size, fun i hi hs => (Below.heap_setCell b ⟨g, j, none⟩ u i (by
    show i ≠ g
    rintro rfl
    rcases hg with hg | hg
    · exact hs hg
    · omega)).trans (h.block i hi hs)⟩
theorem Kept.heap {w w' : World} {S : List Nat} (h : Kept w w' S) {g : Nat} {o : Obj} (hg : w.heap[g]? = some o) (hs : g ∉ S) : w'.heap[g]? = some o := by
  have hlt : g < w.heap.size := by
    rcases Nat.lt_or_ge g w.heap.size with h' | h'
    · exact h'
    · rw [Array.getElem?_eq_none h'] at hg
      cases hg
  exact (h.block g hlt hs).trans hg
theorem Kept.cell {w w' : World} {S : List Nat} (h : Kept w w' S) {g j : Nat} {v : Value} (hc : w.cell? ⟨g, j, none⟩ = some v) (hs : g ∉ S) : w'.cell? ⟨g, j, none⟩ = some v := by
  have hlt : g < w.heap.size := cell_lt hc
  unfold World.cell? at hc ⊢
  rw [show w'.heap[(⟨g, j, none⟩ : Addr).block]? = w.heap[(⟨g, j, none⟩ : Addr).block]? from h.block g hlt hs]
  exact hc
theorem heap_lt {w : World} {g : Nat} {o : Obj} (h : w.heap[g]? = some o) : g < w.heap.size := by
  rcases Nat.lt_or_ge g w.heap.size with h' | h'
  · exact h'
  · rw [Array.getElem?_eq_none h'] at h
    cases h
theorem frozen_of_heap {w : World} {g : Nat} {cs : Array Value} {t : TypeId} (h : w.heap[g]? = some (.cells cs t (0, 0))) (j : Nat) : w.frozen? ⟨g, j, none⟩ = false := by
  unfold World.frozen?
  rw [show w.heap[(⟨g, j, none⟩ : Addr).block]? = _ from h]
  rfl
theorem heap_setCell_far {w : World} {g k : Nat} (h : k ≠ g) (j : Nat) (u : Value) : (w.setCell ⟨g, j, none⟩ u).heap[k]? = w.heap[k]? := Below.heap_setCell w ⟨g, j, none⟩ u k h
end Go.Proofs.Ytcbiaeeifclieaa
/- What writes to some blocks alone leaves: rows, what lies below. -/
namespace Go.Proofs.Ytcbiaeeifclieaa
open Go.RowKit

theorem own_kept {w w' : World} {base : Nat} {e : TypeId} {size n : Nat} {v : Value} {xs : List Value} {S : List Nat} (h : w.ownsRow base e size v n xs) (hk : Kept w w' S) (hs : ∀ x ∈ S, x < base) : w'.ownsRow base e size v n xs :=
  ⟨h.1, h.2.imp id fun ⟨g, cap, cur, e1, hb, hg, r⟩ => ⟨g, cap, cur, e1, hb, hk.heap hg (fun hm => by have := hs g hm; omega), r⟩⟩
theorem own_keptG {w w' : World} {base : Nat} {e : TypeId} {size n g c : Nat} {xs : List Value} {S : List Nat} (h : w.ownsRow base e size (.slice (some ⟨g, 0, none⟩) n c) n xs) (hk : Kept w w' S) (hs : g ∉ S) : w'.ownsRow base e size (.slice (some ⟨g, 0, none⟩) n c) n xs := by
  refine ⟨h.1, h.2.imp id fun ⟨g', cap, cur, e1, hb, hg, r⟩ => ⟨g', cap, cur, e1, hb, hk.heap hg (fun hm => ?_), r⟩⟩
  simp only [Value.slice.injEq, Option.some.injEq, Addr.mk.injEq, and_true] at e1
  obtain ⟨rfl, _⟩ := e1
  exact hs hm
theorem Kept.lower {a b w : World} {S : List Nat} {B : Nat} (h : Kept a b S) (hb : Below B w a) (hB : B ≤ a.heap.size) (hs : ∀ x ∈ S, B ≤ x) : Below B w b :=
  ⟨h.os.trans hb.os, h.tape.trans hb.tape, h.output.trans hb.output, Nat.le_trans hb.size h.size, fun k hk => (h.block k (Nat.lt_of_lt_of_le hk hB) (fun hm => by have := hs k hm; omega)).trans (hb.block k hk)⟩
theorem Kept.belowE {w b : World} (h : Kept w b []) : Below w.heap.size w b := h.lower (Below.refl _ _) (Nat.le_refl _) (by simp)
theorem Kept.moreS {a b : World} {S T : List Nat} (h : Kept a b S) (hs : ∀ x ∈ S, x ∈ T) : Kept a b T := ⟨h.os, h.tape, h.output, h.size, fun i hi hn => h.block i hi (fun hm => hn (hs i hm))⟩
/-- Writes to new blocks are no writes. -/
theorem Kept.less {a b : World} {S T : List Nat} (h : Kept a b S) (hs : ∀ x ∈ S, x ∈ T ∨ a.heap.size ≤ x) : Kept a b T := ⟨h.os, h.tape, h.output, h.size, fun i hi hn => h.block i hi (fun hm => by
  rcases hs i hm with h' | h'
  · exact hn h'
  · omega)⟩
end Go.Proofs.Ytcbiaeeifclieaa
/- slices.Clone at []int: a row of the call's own that reads as the argument does. -/
namespace Go.Proofs.Ytcbiaeeifclieaa
open Go.RowKit

theorem cloneInt_slice : SliceOf Try.prog 31 3 1 8 := .mk_ (z := .int .i64 0) Try.underlying31 (by kernel_rfl) rfl
theorem cloneInt_any (A : Option Addr) (n c : Nat) (xs : List Value) (w : World) (hr : Rd w 1 A n xs) (h1 : ∀ u ∈ xs, u.oneCell' = true) (hm : n ≤ 16777216) :
    Calls Try.prog 35 #[.slice A n c] w fun e w' => ∃ v, e = .returned v ∧ w'.ownsRow w.heap.size 3 1 v n xs ∧ Below w.heap.size w w' := by
  rcases A with _ | ad
  · have h0 : n = 0 := by
      rcases Nat.eq_zero_or_pos n with h | h
      · exact h
      · obtain ⟨_, e, _⟩ := hr.2 h
        cases e
    subst h0
    have hx : xs = [] := List.eq_nil_of_length_eq_zero (by simpa using hr.1)
    subst hx
    have hq := fun w => Lib.run_eql_slice_nil (P := Try.prog) w 31 3 none 0 c 0 0 Try.underlying31
    go_enter Try.func35, Try.ntmps35
    go_wp2
    go_ret
    exact ⟨_, rfl, ⟨rfl, .inl ⟨rfl, rfl⟩⟩, Below.refl _ _⟩
  · have hq := fun w => Lib.run_eql_slice_nil (P := Try.prog) w 31 3 (some ad) n c 0 0 Try.underlying31
    have hown : (w.alloc (.cells #[] 3)).ownsRow w.heap.size 3 1 (.slice (some ⟨w.heap.size, 0, none⟩) 0 0) 0 [] := World.ownsRow_made w #[] 0 (Nat.le_refl _) (Nat.zero_le _) rfl
    go_enter Try.func35, Try.ntmps35
    go_wp2_with (at_builtin; refine wpList_app rfl _ _ _ rfl cloneInt_slice (by decide) _ 0 [] rfl hown ad n c xs rfl (by have := hr.1; omega) (hr.alloc _).news h1 (by omega) (by unfold maxLen; omega) (by simp) ?_; intro v1 w1 hown1 hg1 hat1)
    go_ret
    exact ⟨v1, rfl, by simpa using hown1, below_app ((Below.refl _ _).alloc (Nat.le_refl _) _) hg1 hown (by simp)⟩
end Go.Proofs.Ytcbiaeeifclieaa
/- append of whatever reads as cells onto a row of the call's own, at a step of a region that draws its order. -/
namespace Go.Proofs.Ytcbiaeeifclieaa
open Go.RowKit

theorem run_appR {P : Program} (w : World) (t ty : TypeId) {base : Nat} {e : TypeId} {size bytes : Nat} (S : SliceOf P t e size bytes) (hsz : 0 < size)
    (v : Value) (n : Nat) (xs : List Value) (hown : w.ownsRow base e size v n xs)
    (A : Option Addr) (m c : Nat) (news : List Value) (hr : Rd w size A m news) (h1 : ∀ u ∈ news, u.oneCell' = true)
    (hbytes : (n + m) * bytes ≤ 140737488355328) (h63 : n + m ≤ maxLen) (hbase : base ≤ w.heap.size) :
    ∃ v' w', (Builtin.append_ #[t, t] ty #[v, .slice A m c]).run P w = .ok v' w' ∧ w'.ownsRow base e size v' (n + m) (xs ++ news) ∧ w.grownBy w' v.ownBlock ∧ (v'.ownBlock = v.ownBlock ∨ v'.ownBlock = some w.heap.size) := by
  rcases A with _ | ad
  · have hm : m = 0 := by
      rcases Nat.eq_zero_or_pos m with h0 | h0
      · exact h0
      · obtain ⟨_, e, _⟩ := hr.2 h0
        cases e
    subst hm
    have hn : news = [] := List.eq_nil_of_length_eq_zero (by simpa using hr.1)
    subst hn
    exact ⟨v, w, run_app_nil w base t ty e size bytes S v n xs hown c, by simpa using hown, World.grownBy.refl w _, .inl rfl⟩
  · obtain ⟨ht, i, z, hi, hz, hs1, hb1, hzs⟩ := S
    obtain ⟨v', w', hrun, h2, h3, _, h5⟩ := run_append_own_at (P := P) w base t ty e i z size bytes ht hi hz hs1 hb1 hzs hsz v n xs hown ad m c news hr.1 hr.news h1 h63 hbytes hbase
    exact ⟨v', w', hrun, h2, h3, h5⟩

theorem step_appR {P : Program} {w : World} {ops : Array Oper} {o : Oper} {a : Act} {K : Act → World → Prop} {Q : Exit → Act → World → Prop} {E : Prop} (hgd : o.guard = none) (s x : Operand) (t : TypeId)
    (ho : o.op = .call { callee := .builtin .append, args := #[s, x], argTypes := #[t, t] })
    {base : Nat} {e : TypeId} {size bytes : Nat} (S : SliceOf P t e size bytes) (hsz : 0 < size)
    (v : Value) (n : Nat) (xs : List Value) (hs : a.eval s = v) (hown : w.ownsRow base e size v n xs)
    (A : Option Addr) (m c : Nat) (news : List Value) (hx : a.eval x = .slice A m c) (hr : Rd w size A m news) (h1 : ∀ u ∈ news, u.oneCell' = true)
    (hbytes : (n + m) * bytes ≤ 140737488355328) (h63 : n + m ≤ maxLen) (hbase : base ≤ w.heap.size) (H : Nat) (hH : w.heap.size = H)
    (h : ∀ v' w', w'.ownsRow base e size v' (n + m) (xs ++ news) → w.grownBy w' v.ownBlock → (v'.ownBlock = v.ownBlock ∨ v'.ownBlock = some H) → K (a.put o.dst v') w') :
    if Region.wanted o (yielded ops a.tmps) = true then Oper.wp P o a w K Q else E := by
  have hw : Region.wanted o (yielded ops a.tmps) = true := by simp [Region.wanted, hgd]
  rw [if_pos hw]
  obtain ⟨v', w', hrun, h2, h3, h5⟩ := run_appR (P := P) w t o.type S hsz v n xs hown A m c news hr h1 hbytes h63 hbase
  unfold Oper.wp execOp
  simp only [ho, resolve, invoke, builtin, Sem.run_bind, Sem.run_pure, Result.andThen_ok, List.map_toArray, List.map_cons, List.map_nil, hs, hx, hrun]
  exact h v' w' h2 h3 (by rw [← hH]; exact h5)
theorem own_below {w w' : World} {base : Nat} {e : TypeId} {size n : Nat} {v : Value} {xs : List Value} (h : w.ownsRow base e size v n xs) (hb : Below w.heap.size w w') : w'.ownsRow base e size v n xs := by
  rcases hv : v.ownBlock with _ | g
  · exact h.kept (row := none) ⟨hb.os, hb.tape, hb.output, hb.size, fun k hk _ => hb.block k hk⟩ (.inl hv)
  · exact h.kept (row := none) ⟨hb.os, hb.tape, hb.output, hb.size, fun k hk _ => hb.block k hk⟩ (.inr (by rw [hv]; exact fun e => by cases e))
theorem below_of_drew {w w' : World} (h : Below w.drew.heap.size w.drew w') : Below w.heap.size w w' := ⟨h.os, h.tape, h.output, h.size, h.block⟩
theorem grown_of_below' {w w' : World} (row : Option Nat) (hb : Below w.heap.size w w') : w.grownBy w' row := ⟨hb.os, hb.tape, hb.output, hb.size, fun k hk _ => hb.block k hk⟩
theorem grown_set {a w : World} {g : Nat} (h : a.grownBy w (some g)) (j : Nat) (u : Value) : a.grownBy (w.setCell ⟨g, j, none⟩ u) (some g) :=
  ⟨h.os, h.tape, h.output, by simpa [World.setCell] using h.size, fun i hi hne => (Below.heap_setCell w ⟨g, j, none⟩ u i (fun e => hne (by rw [e]))).trans (h.block i hi hne)⟩
/-- Four cells next to each other, stored into a row of the call's own. -/
theorem own_store4 {w : World} {base : Nat} {e : TypeId} {size g n cap : Nat} {xs : List Value} (h : w.ownsRow base e size (.slice (some ⟨g, 0, none⟩) n cap) n xs) (j : Nat) (a b c d : Value) :
    ((((w.setCell ⟨g, j, none⟩ a).setCell ⟨g, j + 1, none⟩ b).setCell ⟨g, j + 2, none⟩ c).setCell ⟨g, j + 3, none⟩ d).ownsRow base e size (.slice (some ⟨g, 0, none⟩) n cap) n ((((xs.set j a).set (j + 1) b).set (j + 2) c).set (j + 3) d) :=
  ((((h.stored j a).1.stored (j + 1) b).1.stored (j + 2) c).1.stored (j + 3) d).1
theorem rd_blk {w : World} {b m : Nat} {cs : List Value} {t : TypeId} (size : Nat) (h : w.heap[b]? = some (.cells cs.toArray t (0, 0))) (hl : cs.length = m * size) : Rd w size (some ⟨b, 0, none⟩) m cs :=
  ⟨hl, fun _ => ⟨_, rfl, (Array.getElem?_eq_some_iff.1 h).1, World.news_of_block (cs := cs.toArray) (fr := (0, 0)) h⟩⟩
end Go.Proofs.Ytcbiaeeifclieaa
/- Blocks of memory by their cells: what lies in one, what a store leaves of others. -/
namespace Go.Proofs.Ytcbiaeeifclieaa
open Go.RowKit

def intsZ (l : List Int) : List Value := l.map (Value.int .i64)
theorem intsZ_set (l : List Int) (i : Nat) (x : Int) : intsZ (l.set i x) = (intsZ l).set i (.int .i64 x) := by simp [intsZ, List.map_set]
theorem hp_lt {w : World} {g : Nat} {o : Obj} (h : w.heap[g]? = some o) : g < w.heap.size := by
  by_cases c : g < w.heap.size
  · exact c
  · rw [Array.getElem?_eq_none (by omega)] at h; exact absurd h (by simp)
theorem hp_cell {w : World} {g : Nat} {cs : Array Value} {t : TypeId} (h : w.heap[g]? = some (.cells cs t (0, 0))) {j : Nat} {v : Value} (hj : cs[j]? = some v) : w.cell? ⟨g, j, none⟩ = some v := by
  unfold World.cell?
  rw [show w.heap[(⟨g, j, none⟩ : Addr).block]? = _ from h]
  simpa using hj
theorem hp_froz {w : World} {g : Nat} {cs : Array Value} {t : TypeId} (h : w.heap[g]? = some (.cells cs t (0, 0))) (j : Nat) : w.frozen? ⟨g, j, none⟩ = false := by
  unfold World.frozen?
  rw [show w.heap[(⟨g, j, none⟩ : Addr).block]? = _ from h]
  rfl
theorem hp_far {w : World} {g k : Nat} (h : k ≠ g) (j : Nat) (u : Value) : (w.setCell ⟨g, j, none⟩ u).heap[k]? = w.heap[k]? := Below.heap_setCell w ⟨g, j, none⟩ u k h
theorem hp_row {w : World} {g : Nat} {l : List Int} {t : TypeId} (h : w.heap[g]? = some (.cells (intsZ l).toArray t (0, 0))) (i : Nat) (x : Int) : (w.setCell ⟨g, i, none⟩ (.int .i64 x)).heap[g]? = some (.cells (intsZ (l.set i x)).toArray t (0, 0)) := by
  rw [heap_setCell_same w g i _ t _ h]
  congr 2
  rw [intsZ_set, List.setIfInBounds_toArray]
theorem Rd.belowS {w w' : World} {size n s : Nat} {A : Option Addr} {xs : List Value} (h : Rd w size A n xs) (hA : 0 < n → ∀ ad, A = some ad → ad.block < s) (hb : Below s w w') : Rd w' size A n xs :=
  ⟨h.1, fun hn => by
    obtain ⟨ad, e, hlt, hc⟩ := h.2 hn
    exact ⟨ad, e, Nat.lt_of_lt_of_le hlt hb.size, fun j u hu => (hb.cell (by rw [blockAdd]; exact hA hn ad e)).trans (hc j u hu)⟩⟩
end Go.Proofs.Ytcbiaeeifclieaa
/- Spans as data: what a span is, the cells of a slice of spans; no function of the program. -/
namespace Go.Proofs.Ytcbiaeeifclieaa
open Go.RowKit

abbrev Sp := Int × Int
def rightB (s : Sp) : Bool := decide (0 ≤ s.1 ∧ s.1 < s.2)
def sizeS (s : Sp) : Int := if rightB s = true then s.2 - s.1 else 0
def hasB (s : Sp) (at_ : Int) : Bool := decide (s.1 ≤ at_ ∧ at_ < s.2)
def encS (s : Sp) : List Value := [.int .i64 s.1, .int .i64 s.2]
def cellsS (l : List Sp) : List Value := l.flatMap encS
def valS (s : Sp) : Value := .agg #[.int .i64 s.1, .int .i64 s.2]
def Fit (x : Int) : Prop := -9223372036854775808 ≤ x ∧ x ≤ 9223372036854775807

theorem cellsS_len (l : List Sp) : (cellsS l).length = l.length * 2 := by
  induction l with
  | nil => rfl
  | cons s l ih =>
    show (encS s ++ cellsS l).length = _
    rw [List.length_append, ih, List.length_cons]
    simp only [encS, List.length_cons, List.length_nil]
    omega
theorem cellsS_at {l : List Sp} {k : Nat} {s : Sp} (h : l[k]? = some s) : (cellsS l)[k * 2]? = some (.int .i64 s.1) ∧ (cellsS l)[k * 2 + 1]? = some (.int .i64 s.2) := by
  induction l generalizing k with
  | nil => simp at h
  | cons t l ih =>
    have hc : cellsS (t :: l) = .int .i64 t.1 :: .int .i64 t.2 :: cellsS l := rfl
    cases k with
    | zero =>
      simp at h
      subst h
      exact ⟨rfl, rfl⟩
    | succ k =>
      have := ih (k := k) (by simpa using h)
      rw [hc]
      have e1 : (k + 1) * 2 = k * 2 + 1 + 1 := by omega
      have e2 : (k + 1) * 2 + 1 = (k * 2 + 1) + 1 + 1 := by omega
      rw [e2, e1]
      simpa using this

theorem addNext (a : Addr) (j i : Nat) : a.add (j + (i + 1)) = ⟨(a.add j).block, (a.add j).off + (i + 1), none⟩ := by
  unfold Addr.add
  by_cases hj : j = 0
  · subst hj; simp
  · simp [hj]; omega
/-- The two cells of a span in a slice, as the walk spells them. -/
theorem Rd.span {w : World} {A : Option Addr} {n k : Nat} {l : List Sp} {s : Sp} (hr : Rd w 2 A n (cellsS l)) (h : l[k]? = some s) : ∃ ad, A = some ad ∧ ad.block < w.heap.size ∧ w.cell? (ad.add (k * 2)) = some (.int .i64 s.1) ∧ w.cell? ⟨(ad.add (k * 2)).block, (ad.add (k * 2)).off + 1, none⟩ = some (.int .i64 s.2) := by
  have hlen : l.length * 2 = n * 2 := by rw [← cellsS_len]; exact hr.1
  have hk := (List.getElem?_eq_some_iff.1 h).1
  obtain ⟨ad, rfl, hb, hc⟩ := hr.2 (by omega)
  obtain ⟨e1, e2⟩ := cellsS_at h
  refine ⟨ad, rfl, hb, hc _ _ e1, ?_⟩
  have := hc _ _ e2
  rwa [addNext ad (k * 2) 0] at this

end Go.Proofs.Ytcbiaeeifclieaa
/- The finest map: which places are together; the list of clusters that says so is the only one. No program in this text. -/
namespace Go.Proofs.Ytcbiaeeifclieaa

/-- A place: its side (true: what comes out), its number. -/
abbrev Pl := Bool × Nat
/-- A link, or a cluster, in natural numbers: In's ends, Out's ends. -/
structure NC where
  a : Nat
  b : Nat
  c : Nat
  d : Nat
deriving DecidableEq
def NC.has (x : NC) (q : Pl) : Prop := if q.1 = true then x.c ≤ q.2 ∧ q.2 < x.d else x.a ≤ q.2 ∧ q.2 < x.b
/-- Places that belong together: the least relation that has each link's places together, and all between. -/
inductive Tog (L : List NC) : Pl → Pl → Prop
  | refl (p : Pl) : Tog L p p
  | link (x : NC) (p q : Pl) : x ∈ L → x.has p → x.has q → Tog L p q
  | symm (p q : Pl) : Tog L p q → Tog L q p
  | trans (p q r : Pl) : Tog L p q → Tog L q r → Tog L p r
  | between (s : Bool) (i k j : Nat) : i ≤ k → k ≤ j → Tog L (s, i) (s, j) → Tog L (s, i) (s, k)
theorem Tog.sub {L M : List NC} (h : ∀ x ∈ L, x ∈ M) {p q : Pl} (t : Tog L p q) : Tog M p q := by
  induction t with
  | refl p => exact .refl p
  | link x p q hx hp hq => exact .link x p q (h x hx) hp hq
  | symm p q _ ih => exact .symm _ _ ih
  | trans p q r _ _ ih1 ih2 => exact .trans _ _ _ ih1 ih2
  | between s i k j h1 h2 _ ih => exact .between s i k j h1 h2 ih
/-- A relation that is closed has all that is together. -/
theorem Tog.least {L : List NC} {S : Pl → Pl → Prop} (hr : ∀ p, S p p) (hs : ∀ p q, S p q → S q p) (ht : ∀ p q r, S p q → S q r → S p r) (hl : ∀ x ∈ L, ∀ p q, x.has p → x.has q → S p q)
    (hb : ∀ s i k j, i ≤ k → k ≤ j → S (s, i) (s, j) → S (s, i) (s, k)) {p q : Pl} (t : Tog L p q) : S p q := by
  induction t with
  | refl p => exact hr p
  | link x p q hx hp hq => exact hl x hx p q hp hq
  | symm p q _ ih => exact hs _ _ ih
  | trans p q r _ _ ih1 ih2 => exact ht _ _ _ ih1 ih2
  | between s i k j h1 h2 _ ih => exact hb s i k j h1 h2 ih
/-- The In spans lie one behind the other, from s to n. -/
def Tiles : Nat → List NC → Nat → Prop
  | s, [], n => s = n
  | s, x :: l, n => x.a = s ∧ x.a < x.b ∧ Tiles x.b l n
theorem Tiles.le : ∀ {l : List NC} {s n : Nat}, Tiles s l n → s ≤ n
  | [], _, _, h => Nat.le_of_eq h
  | x :: l, s, n, ⟨h1, h2, h3⟩ => by have := Tiles.le h3; omega
theorem Tiles.from_ : ∀ {l : List NC} {s n : Nat}, Tiles s l n → ∀ x ∈ l, s ≤ x.a ∧ x.a < x.b ∧ x.b ≤ n
  | x :: l, s, n, ⟨h1, h2, h3⟩, y, hy => by
    rcases List.mem_cons.1 hy with rfl | hy
    · have := Tiles.le h3; omega
    · have := Tiles.from_ h3 y hy; omega
/-- The finest map of n to m by links: In tiles, no Out is empty, and places are together just where they lie in one cluster. -/
structure Finest (L : List NC) (s n m : Nat) (l : List NC) : Prop where
  tiles : Tiles s l n
  out : ∀ x ∈ l, x.c < x.d ∧ x.d ≤ m
  tog : ∀ i, s ≤ i → i < n → ∀ q : Pl, (if q.1 = true then q.2 < m else s ≤ q.2 ∧ q.2 < n) → (Tog L (false, i) q ↔ ∃ x ∈ l, x.has (false, i) ∧ x.has q)
theorem span_eq {a b c d : Nat} (h1 : a < b) (h2 : c < d) (h : ∀ k, (a ≤ k ∧ k < b) ↔ (c ≤ k ∧ k < d)) : a = c ∧ b = d := by
  have e1 := (h a).1 ⟨Nat.le_refl _, h1⟩
  have e2 := (h c).2 ⟨Nat.le_refl _, h2⟩
  have e3 := (h (b - 1)).1 ⟨by omega, by omega⟩
  have e4 := (h (d - 1)).2 ⟨by omega, by omega⟩
  omega
theorem Finest.head {L : List NC} {s n m : Nat} {x : NC} {l : List NC} (h : Finest L s n m (x :: l)) {q : Pl} (hq : if q.1 = true then q.2 < m else s ≤ q.2 ∧ q.2 < n) : Tog L (false, s) q ↔ x.has q := by
  obtain ⟨e1, e2, e3⟩ := h.tiles
  have hle := Tiles.le e3
  rw [h.tog s (Nat.le_refl _) (by omega) q hq]
  constructor
  · rintro ⟨y, hy, hs, hyq⟩
    rcases List.mem_cons.1 hy with rfl | hy
    · exact hyq
    · have := Tiles.from_ e3 y hy
      have hs' : y.a ≤ s ∧ s < y.b := hs
      omega
  · intro hx
    exact ⟨x, List.mem_cons_self .., (show x.a ≤ s ∧ s < x.b by omega), hx⟩
theorem Finest.tail {L : List NC} {s n m : Nat} {x : NC} {l : List NC} (h : Finest L s n m (x :: l)) : Finest L x.b n m l := by
  obtain ⟨e1, e2, e3⟩ := h.tiles
  refine ⟨e3, fun y hy => h.out y (List.mem_cons_of_mem _ hy), fun i hi hin q hq => ?_⟩
  rw [h.tog i (by omega) hin q (by
    split at hq
    · rw [if_pos (by assumption)]; exact hq
    · rw [if_neg (by assumption)]; omega)]
  constructor
  · rintro ⟨y, hy, h1, h2⟩
    rcases List.mem_cons.1 hy with rfl | hy
    · have : y.a ≤ i ∧ i < y.b := h1
      omega
    · exact ⟨y, hy, h1, h2⟩
  · rintro ⟨y, hy, h1, h2⟩
    exact ⟨y, List.mem_cons_of_mem _ hy, h1, h2⟩
/-- There is one such list at most. -/
theorem Finest.only {L : List NC} {m : Nat} : ∀ {l k : List NC} {s n : Nat}, Finest L s n m l → Finest L s n m k → l = k
  | [], [], _, _, _, _ => rfl
  | [], y :: k, s, n, h, h' => by
    have e : s = n := h.tiles
    obtain ⟨e1, e2, e3⟩ := h'.tiles
    have := Tiles.le e3
    omega
  | x :: l, [], s, n, h, h' => by
    have e : s = n := h'.tiles
    obtain ⟨e1, e2, e3⟩ := h.tiles
    have := Tiles.le e3
    omega
  | x :: l, y :: k, s, n, h, h' => by
    obtain ⟨e1, e2, e3⟩ := h.tiles
    obtain ⟨f1, f2, f3⟩ := h'.tiles
    have hx := h.out x (List.mem_cons_self ..)
    have hy := h'.out y (List.mem_cons_self ..)
    have hle := Tiles.le e3
    have hle' := Tiles.le f3
    have hin : ∀ k, (x.a ≤ k ∧ k < x.b) ↔ (y.a ≤ k ∧ k < y.b) := fun k => by
      by_cases hk : s ≤ k ∧ k < n
      · have a1 := h.head (q := (false, k)) hk
        have a2 := h'.head (q := (false, k)) hk
        exact a1.symm.trans a2
      · omega
    have hout : ∀ k, (x.c ≤ k ∧ k < x.d) ↔ (y.c ≤ k ∧ k < y.d) := fun k => by
      by_cases hk : k < m
      · have a1 := h.head (q := (true, k)) hk
        have a2 := h'.head (q := (true, k)) hk
        exact a1.symm.trans a2
      · omega
    obtain ⟨g1, g2⟩ := span_eq e2 f2 hin
    obtain ⟨g3, g4⟩ := span_eq hx.1 hy.1 hout
    have hxy : x = y := by
      obtain ⟨xa, xb, xc, xd⟩ := x
      obtain ⟨ya, yb, yc, yd⟩ := y
      simp only at g1 g2 g3 g4
      rw [g1, g2, g3, g4]
    subst hxy
    rw [Finest.only h.tail h'.tail]
end Go.Proofs.Ytcbiaeeifclieaa
/- The finest map: places of one side in sets that lie side by side; sets made one. No program in this text. -/
namespace Go.Proofs.Ytcbiaeeifclieaa

/-- n places in sets: r tells the first place of each place's set, e where the set of a first place ends. -/
structure Part (n : Nat) (r e : Nat → Nat) : Prop where
  le : ∀ i, i < n → r i ≤ i
  lt : ∀ i, i < n → i < e (r i)
  top : ∀ i, i < n → e (r i) ≤ n
  same : ∀ i j, i < n → r i ≤ j → j < e (r i) → r j = r i
theorem Part.start (n : Nat) : Part n id (· + 1) := ⟨fun _ _ => Nat.le_refl _, fun _ _ => Nat.lt_succ_self _, fun i h => h, fun i j _ h1 h2 => by
  simp only [id] at h1 h2 ⊢
  omega⟩
theorem Part.root {n : Nat} {r e : Nat → Nat} (h : Part n r e) {i : Nat} (hi : i < n) : r (r i) = r i :=
  h.same i (r i) hi (Nat.le_refl _) (Nat.lt_of_le_of_lt (h.le i hi) (h.lt i hi))
/-- Where a set ends, the next one begins. -/
theorem Part.next {n : Nat} {r e : Nat → Nat} (h : Part n r e) {p : Nat} (hp : r p = p) (hpn : p < n) (hq : e p < n) : r (e p) = e p := by
  have h1 := h.le (e p) hq
  rcases Nat.lt_or_ge (r (e p)) (e p) with hlt | hge
  · exfalso
    have h2 := h.lt p hpn
    rw [hp] at h2
    have h3 := h.lt (e p) hq
    have h4 := h.same (e p) (e p - 1) hq (by omega) (by omega)
    have h5 := h.same p (e p - 1) hpn (by rw [hp]; omega) (by rw [hp]; omega)
    rw [hp, h4] at h5
    rw [h5] at h3
    omega
  · omega
/-- Two sets made one: the one of p, and the one that begins where it ends. -/
def uniR (r e : Nat → Nat) (p : Nat) (i : Nat) : Nat := if e p ≤ i ∧ i < e (e p) then p else r i
def uniE (e : Nat → Nat) (p : Nat) (x : Nat) : Nat := if x = p then e (e p) else e x
theorem Part.unite {n : Nat} {r e : Nat → Nat} (h : Part n r e) {p : Nat} (hp : r p = p) (hpn : p < n) (hq : e p < n) : Part n (uniR r e p) (uniE e p) := by
  have hqr := h.next hp hpn hq
  have hlp := h.lt p hpn
  rw [hp] at hlp
  have hlq := h.lt (e p) hq
  rw [hqr] at hlq
  have htq := h.top (e p) hq
  rw [hqr] at htq
  -- a place of neither set keeps its root, which is not p
  have hout : ∀ i, i < n → ¬ (e p ≤ i ∧ i < e (e p)) → r i ≠ e p := fun i hi hno heq => by
    have h1 := h.le i hi
    have h2 := h.lt i hi
    rw [heq] at h1 h2
    exact hno ⟨h1, h2⟩
  have hin : ∀ j, p ≤ j → j < e p → r j = p := fun j h1 h2 => (h.same p j hpn (by rw [hp]; exact h1) (by rw [hp]; exact h2)).trans hp
  have hin2 : ∀ j, e p ≤ j → j < e (e p) → r j = e p := fun j h1 h2 => (h.same (e p) j hq (by rw [hqr]; exact h1) (by rw [hqr]; exact h2)).trans hqr
  refine ⟨fun i hi => ?_, fun i hi => ?_, fun i hi => ?_, fun i j hi h1 h2 => ?_⟩
  · unfold uniR
    split
    · omega
    · exact h.le i hi
  · unfold uniR
    split
    · rename_i hc
      unfold uniE
      rw [if_pos rfl]
      omega
    · rename_i hc
      have h3 := h.lt i hi
      unfold uniE
      split
      · rename_i hc2
        rw [hc2] at h3
        omega
      · exact h3
  · unfold uniR
    split
    · unfold uniE
      rw [if_pos rfl]
      exact htq
    · unfold uniE
      split
      · exact htq
      · exact h.top i hi
  · -- which set is i's, which j's
    by_cases hi2 : e p ≤ i ∧ i < e (e p)
    · have e1 : uniR r e p i = p := if_pos hi2
      rw [e1] at h1 h2 ⊢
      have e2 : uniE e p p = e (e p) := if_pos rfl
      rw [e2] at h2
      unfold uniR
      split
      · rfl
      · rename_i hno
        exact hin j h1 (by omega)
    · have e1 : uniR r e p i = r i := if_neg hi2
      rw [e1] at h1 h2 ⊢
      by_cases hrp : r i = p
      · rw [hrp] at h1 h2 ⊢
        have e2 : uniE e p p = e (e p) := if_pos rfl
        rw [e2] at h2
        unfold uniR
        split
        · rfl
        · exact hin j h1 (by omega)
      · have e2 : uniE e p (r i) = e (r i) := if_neg hrp
        rw [e2] at h2
        have h3 := h.same i j hi h1 h2
        unfold uniR
        split
        · rename_i hc
          exfalso
          have h4 := hin2 j hc.1 hc.2
          exact hout i hi hi2 (h3.symm.trans h4)
        · exact h3
/-- Roots of the sets behind. -/
theorem uniR_root {n : Nat} {r e : Nat → Nat} (h : Part n r e) {p : Nat} (hp : r p = p) (hpn : p < n) : uniR r e p p = p := by
  have hlp := h.lt p hpn
  rw [hp] at hlp
  unfold uniR
  rw [if_neg (by omega), hp]
end Go.Proofs.Ytcbiaeeifclieaa
/- A block of one span, known whole, and what becomes of it. -/
namespace Go.Proofs.Ytcbiaeeifclieaa
open Go.RowKit

/-- A block of one span, known whole, that may be written. -/
def SpanBlk (w : World) (b : Nat) (s : Sp) : Prop := w.cell? ⟨b, 0, none⟩ = some (.int .i64 s.1) ∧ w.cell? ⟨b, 1, none⟩ = some (.int .i64 s.2) ∧ w.frozen? ⟨b, 0, none⟩ = false ∧ w.frozen? ⟨b, 1, none⟩ = false

theorem SpanBlk.below {w w' : World} {b : Nat} {s : Sp} (h : SpanBlk w b s) (hb : Below w.heap.size w w') : SpanBlk w' b s :=
  ⟨cell_below hb h.1, cell_below hb h.2.1, (hb.frozen (cell_lt h.1)).trans h.2.2.1, (hb.frozen (cell_lt h.2.1)).trans h.2.2.2⟩
theorem SpanBlk.put {w : World} {b : Nat} {s : Sp} (h : SpanBlk w b s) (x y : Int) : SpanBlk ((w.setCell ⟨b, 0, none⟩ (.int .i64 x)).setCell ⟨b, 1, none⟩ (.int .i64 y)) b (x, y) := by
  obtain ⟨h0, h1, h2, h3⟩ := h
  have e1 : (w.setCell ⟨b, 0, none⟩ (.int .i64 x)).cell? ⟨b, 1, none⟩ = some (.int .i64 s.2) := (World.cell?_setCell_other (h := by simp) ..).trans h1
  refine ⟨?_, World.cell?_setCell_same (h := e1) .., ?_, ?_⟩
  · exact (World.cell?_setCell_other (h := by simp) ..).trans (World.cell?_setCell_same (h := h0) ..)
  · rw [World.frozen?_setCell, World.frozen?_setCell]; exact h2
  · rw [World.frozen?_setCell, World.frozen?_setCell]; exact h3
theorem SpanBlk.far {w : World} {b b' : Nat} {s : Sp} (h : SpanBlk w b s) (hne : b ≠ b') (u v : Value) : SpanBlk ((w.setCell ⟨b', 0, none⟩ u).setCell ⟨b', 1, none⟩ v) b s := by
  obtain ⟨h0, h1, h2, h3⟩ := h
  refine ⟨?_, ?_, ?_, ?_⟩
  · exact (World.cell?_setCell_other (h := by first | (simp; done) | (simp; omega)) ..).trans ((World.cell?_setCell_other (h := by first | (simp; done) | (simp; omega)) ..).trans h0)
  · exact (World.cell?_setCell_other (h := by first | (simp; done) | (simp; omega)) ..).trans ((World.cell?_setCell_other (h := by first | (simp; done) | (simp; omega)) ..).trans h1)
  · rw [World.frozen?_setCell, World.frozen?_setCell]; exact h2
  · rw [World.frozen?_setCell, World.frozen?_setCell]; exact h3

theorem only_setCell {a w : World} {g : Nat} (h : a.grownBy w (some g)) {p : Addr} (hp : p.block = g ∨ a.heap.size ≤ p.block) (u : Value) : a.grownBy (w.setCell p u) (some g) :=
  ⟨h.os, h.tape, h.output, by simpa [World.setCell] using h.size, fun i hi hne => (Below.heap_setCell w p u i (by
    rintro rfl
    rcases hp with hp | hp
    · exact hne (by rw [hp])
    · omega)).trans (h.block i hi hne)⟩
theorem SpanBlk.grown {w w' : World} {b : Nat} {s : Sp} {row : Option Nat} (h : SpanBlk w b s) (hg : w.grownBy w' row) (hne : row ≠ some b) : SpanBlk w' b s := by
  obtain ⟨h0, h1, h2, h3⟩ := h
  have hb := cell_lt h0
  have e := hg.block b hb (fun e => hne e.symm)
  have ec : ∀ i, w'.cell? ⟨b, i, none⟩ = w.cell? ⟨b, i, none⟩ := fun i => World.cell?_of_block (a := ⟨b, i, none⟩) e
  have ef : ∀ i, w'.frozen? ⟨b, i, none⟩ = w.frozen? ⟨b, i, none⟩ := fun i => by unfold World.frozen?; rw [e]
  exact ⟨(ec 0).trans h0, (ec 1).trans h1, (ef 0).trans h2, (ef 1).trans h3⟩
theorem SpanBlk.put0 {w : World} {b : Nat} {s : Sp} (h : SpanBlk w b s) (x : Int) : SpanBlk (w.setCell ⟨b, 0, none⟩ (.int .i64 x)) b (x, s.2) := by
  obtain ⟨h0, h1, h2, h3⟩ := h
  refine ⟨World.cell?_setCell_same (h := h0) .., (World.cell?_setCell_other (h := by simp) ..).trans h1, ?_, ?_⟩
  · rw [World.frozen?_setCell]; exact h2
  · rw [World.frozen?_setCell]; exact h3
theorem own_set_far {w : World} {base : Nat} {e : TypeId} {size n b i : Nat} {v u : Value} {xs : List Value} (h : w.ownsRow base e size v n xs) (hne : v.ownBlock ≠ some b) : (w.setCell ⟨b, i, none⟩ u).ownsRow base e size v n xs :=
  h.kept (row := some b) (only_setCell (World.grownBy.refl w _) (.inl rfl) u) (.inr hne)
theorem below_make {w w' : World} (hg : w.grownBy w' none) : Below w.heap.size w w' := (Below.refl _ _).grown hg (Nat.le_refl _) (fun k hk => by cases hk)
theorem SpanBlk.new_ (w : World) (x y : Int) (t : TypeId) : SpanBlk (w.alloc (.cells #[.int .i64 x, .int .i64 y] t)) w.heap.size (x, y) := by
  refine ⟨?_, ?_, ?_, ?_⟩ <;> simp [go_sem]

end Go.Proofs.Ytcbiaeeifclieaa
/- cluster's sets in memory; the set that a place is in. -/
namespace Go.Proofs.Ytcbiaeeifclieaa
open Go.RowKit

def ints (l : List Nat) : List Value := l.map fun (x : Nat) => Value.int .i64 (x : Int)
/-- The ways to the first place: each place names one of its set that is nearer to it; the first one itself. -/
def Forest (n : Nat) (ah : List Nat) (r : Nat → Nat) : Prop := ah.length = n ∧ ∀ (i a : Nat), ah[i]? = some a → a ≤ i ∧ r a = r i ∧ (a = i ↔ r i = i)
theorem Forest.halve {n : Nat} {ah : List Nat} {r : Nat → Nat} (h : Forest n ah r) {i a b : Nat} (ha : ah[i]? = some a) (hb : ah[a]? = some b) : Forest n (ah.set i b) r := by
  refine ⟨by rw [List.length_set]; exact h.1, fun j x hx => ?_⟩
  by_cases hj : j = i
  · subst hj
    rw [List.getElem?_set_self (List.getElem?_eq_some_iff.1 ha).1] at hx
    obtain rfl := Option.some.inj hx
    obtain ⟨a1, a2, a3⟩ := h.2 j a ha
    obtain ⟨b1, b2, b3⟩ := h.2 a b hb
    refine ⟨by omega, b2.trans a2, ⟨fun e => ?_, fun e => ?_⟩⟩
    · have : a = j := by omega
      exact a3.1 this
    · have e1 := a3.2 e
      subst e1
      exact b3.2 e
  · rw [List.getElem?_set_ne (fun e => hj e.symm)] at hx
    exact h.2 j x hx
/-- A side's sets: the ways, the ends. -/
structure SetsAt (w : World) (b gA gE n : Nat) (ah en : List Nat) : Prop where
  c0 : w.cell? ⟨b, 0, none⟩ = some (.slice (some ⟨gA, 0, none⟩) n n)
  c1 : w.cell? ⟨b, 1, none⟩ = some (.slice (some ⟨gE, 0, none⟩) n n)
  hA : w.heap[gA]? = some (.cells (ints ah).toArray 3 (0, 0))
  hE : w.heap[gE]? = some (.cells (ints en).toArray 3 (0, 0))
  lA : ah.length = n
  lE : en.length = n
  ne1 : gA ≠ b
  ne2 : gE ≠ b
  ne3 : gA ≠ gE
theorem cells_of_heap {w : World} {g : Nat} {l : List Nat} {t : TypeId} (h : w.heap[g]? = some (.cells (ints l).toArray t (0, 0))) {i x : Nat} (hx : l[i]? = some x) : w.cell? ⟨g, i, none⟩ = some (.int .i64 (x : Int)) := by
  have hl : (ints l).toArray[i]? = some (.int .i64 (x : Int)) := by
    rw [List.getElem?_toArray, ints, List.getElem?_map, hx]
    rfl
  unfold World.cell?
  rw [show w.heap[(⟨g, i, none⟩ : Addr).block]? = _ from h]
  exact hl
theorem SetsAt.grown {w w' : World} {b gA gE n : Nat} {ah en ah' : List Nat} (h : SetsAt w b gA gE n ah en) (hg : w.grownBy w' (some gA)) (hA : w'.heap[gA]? = some (.cells (ints ah').toArray 3 (0, 0))) (hl : ah'.length = n) : SetsAt w' b gA gE n ah' en := by
  have hb := cell_lt h.c0
  have hc : ∀ j, w'.cell? ⟨b, j, none⟩ = w.cell? ⟨b, j, none⟩ := fun j => by
    unfold World.cell?
    rw [show w'.heap[b]? = w.heap[b]? from hg.block b hb (fun e => h.ne1 (Option.some.inj e).symm)]
  refine ⟨(hc 0).trans h.c0, (hc 1).trans h.c1, hA, blk_grown h.hE hg (fun e => h.ne3 (Option.some.inj e)), hl, h.lE, h.ne1, h.ne2, h.ne3⟩
end Go.Proofs.Ytcbiaeeifclieaa
/- cluster's sets: the set that a place is in, walked. -/
namespace Go.Proofs.Ytcbiaeeifclieaa
open Go.RowKit

theorem setCell_heap {w : World} {g : Nat} {l : List Nat} {t : TypeId} (h : w.heap[g]? = some (.cells (ints l).toArray t (0, 0))) {i : Nat} (hi : i < l.length) (x : Nat) : (w.setCell ⟨g, i, none⟩ (.int .i64 (x : Int))).heap[g]? = some (.cells (ints (l.set i x)).toArray t (0, 0)) := by
  rw [heap_setCell_same w g i _ t _ h]
  congr 2
  unfold ints
  rw [List.map_set, List.setIfInBounds_toArray]
theorem grown_drew {a w : World} {row : Option Nat} (h : a.grownBy w row) : a.grownBy w.drew row := ⟨h.os, h.tape, h.output, h.size, h.block⟩
theorem grownTwo {a b c : World} {row : Option Nat} (h : a.grownBy b row) (k : b.grownBy c row) : a.grownBy c row := ⟨k.os.trans h.os, k.tape.trans h.tape, k.output.trans h.output, Nat.le_trans h.size k.size, fun i hi hr => (k.block i (Nat.lt_of_lt_of_le hi h.size) hr).trans (h.block i hi hr)⟩
theorem res_span {fn : Func} {p : Tmp} (hf : fn.results = #[.cell p 33]) (tmps : Array Value) (w : World) (g : Nat) (s : Sp) (hp : tmps.getD p undef = .pointer (some ⟨g, 0, none⟩))
    (hC : SpanBlk w g s) : (results fn tmps).run Try.prog w = .ok (valS s) w := by
  obtain ⟨c0, c1, _, _⟩ := hC
  have hp' : tmps[p]?.getD undef = .pointer (some ⟨g, 0, none⟩) := by simpa using hp
  unfold valS
  simp only [results, hf]
  clear hp hf
  go_simp
set_option maxRecDepth 100000 in
set_option maxHeartbeats 2000000 in
theorem set_any (b gA gE n : Nat) (ah en : List Nat) (r e : Nat → Nat) (at0 : Nat) (hat : at0 < n) (hn : n ≤ 100000000) (w : World) (hS : SetsAt w b gA gE n ah en) (hF : Forest n ah r) (hEn : ∀ i, r i = i → i < n → en[i]? = some (e i)) :
    Calls Try.prog 98 #[.pointer (some ⟨b, 0, none⟩), .int .i64 (at0 : Int)] w fun e' w' => e' = .returned (.agg #[.int .i64 (r at0 : Nat), .int .i64 (e (r at0) : Nat)]) ∧ ∃ ah', Forest n ah' r ∧ w'.heap[gA]? = some (.cells (ints ah').toArray 3 (0, 0)) ∧ w.grownBy w' (some gA) := by
  obtain ⟨w1, hw1⟩ : ∃ w1, w.alloc (.cells #[.int .i64 0, .int .i64 0] 33) = w1 := ⟨_, rfl⟩
  have hg1 : w.grownBy w1 (some gA) := by rw [← hw1]; exact World.grownBy_alloc w _ _
  have hS1 : SetsAt w1 b gA gE n ah en := hS.grown hg1 (blk_grown hS.hA (by rw [← hw1]; exact World.grownBy_alloc w _ none) (by simp)) hS.lA
  have HEN := Lib.hid hEn
  have HI := Lib.hid (show Forest n ah r ∧ SetsAt w1 b gA gE n ah en ∧ w.grownBy w1 (some gA) from ⟨hF, hS1, hg1⟩)
  clear hS hF hEn hg1 hS1
  go_enter Try.func98, Try.ntmps98
  go_wp2_with fail
  have HR := Lib.hid (show w1.heap[w.heap.size]? = some (.cells #[.int .i64 0, .int .i64 0] 33 (0, 0)) from by rw [← hw1]; exact heap_alloc_new _ _)
  have hRA : gA ≠ w.heap.size := by
    have := cell_lt HI.out.2.1.c0
    intro e9
    have h1 := HI.out.2.1.hA
    have h2 := HR.out
    rw [e9, h2] at h1
    injection h1 with h1
    injection h1 with _ h3 _
    cases h3
  clear hw1
  generalize hRe : w.heap.size = R at *
  have HRE := Lib.hid hRe
  clear hRe
  go_loopw [1] (fun i wr => ∃ (a : Nat) (ah' : List Nat), i = .int .i64 (a : Int) ∧ a < n ∧ r a = r at0 ∧ Forest n ah' r ∧ SetsAt wr b gA gE n ah' en ∧ w1.grownBy wr (some gA)) (fun i _ => (intOf i).toNat)
  case atStart => exact ⟨at0, ah, rfl, hat, rfl, HI.out.1, HI.out.2.1, World.grownBy.refl _ _⟩
  case round =>
    obtain ⟨a, ah', rfl, han, hra, hF, hS, hg⟩ := hrel
    obtain ⟨a1, ha1⟩ : ∃ a1, ah'[a]? = some a1 := ⟨_, List.getElem?_eq_getElem (by rw [hS.lA]; exact han)⟩
    obtain ⟨f1, f2, f3⟩ := hF.2 a a1 ha1
    have han1 : a1 < n := by omega
    have fA : wr.frozen? ⟨gA, a, none⟩ = false := by
      unfold World.frozen?
      rw [show wr.heap[(⟨gA, a, none⟩ : Addr).block]? = _ from hS.hA]
      rfl
    have c0 := hS.c0
    have cA := cells_of_heap hS.hA ha1
    have HF := Lib.hid hF
    have HS := Lib.hid hS
    have HG := Lib.hid hg
    by_cases he : a1 = a
    · subst he
      have hroot : r a1 = a1 := f3.1 rfl
      have cE := cells_of_heap hS.hE (HEN.out a1 hroot han)
      have c1 := hS.c1
      have hSp : SpanBlk wr R (0, 0) := (show SpanBlk w1 R (0, 0) from by
        unfold SpanBlk World.cell? World.frozen?
        rw [show w1.heap[(⟨R, 0, none⟩ : Addr).block]? = _ from HR.out]
        exact ⟨rfl, rfl, rfl, rfl⟩).grown hg (fun e9 => hRA (Option.some.inj e9))
      obtain ⟨q0, q1, q2, q3⟩ := hSp
      have HSP := Lib.hid (show SpanBlk wr R (0, 0) from ⟨q0, q1, q2, q3⟩)
      clear hF hS hg f1 f2 f3
      go_wp2_with fail
      (try simp only [Exit.inBlock, Exit.then])
      refine bodyPost_ret (v := valS ((r at0 : Nat), (e (r at0) : Nat))) ?_ rfl ⟨rfl, ah', HF.out, ?_, ?_⟩
      · rw [← hra, hroot]
        exact res_span rfl _ _ R ((a1 : Int), (e a1 : Int)) rfl (HSP.out.put _ _)
      · exact (Below.heap_setCell _ _ _ _ (show gA ≠ R from hRA)).trans ((Below.heap_setCell _ _ _ _ (show gA ≠ R from hRA)).trans HS.out.hA)
      · refine only_setCell (only_setCell ?_ (.inr ?_) _) (.inr ?_) _
        · exact grownTwo HI.out.2.2 HG.out
        · rw [HRE.out]; exact Nat.le_refl _
        · rw [HRE.out]; exact Nat.le_refl _
    · obtain ⟨a2, ha2⟩ : ∃ a2, ah'[a1]? = some a2 := ⟨_, List.getElem?_eq_getElem (by rw [hS.lA]; omega)⟩
      have cB := cells_of_heap hS.hA ha2
      have HH := Lib.hid (hF.halve ha1 ha2)
      have h1 : ((a1 : Int) != (a : Int)) = true := by simp; omega
      have hA2 : (wr.setCell ⟨gA, a, none⟩ (.int .i64 (a2 : Int))).heap[gA]? = some (.cells (ints (ah'.set a a2)).toArray 3 (0, 0)) := setCell_heap hS.hA (by rw [hS.lA]; exact han) a2
      have hg2 : w1.grownBy (wr.setCell ⟨gA, a, none⟩ (.int .i64 (a2 : Int))).drew (some gA) := grown_drew (only_setCell (p := ⟨gA, a, none⟩) hg (.inl rfl) _)
      have hg3 : wr.grownBy (wr.setCell ⟨gA, a, none⟩ (.int .i64 (a2 : Int))).drew (some gA) := grown_drew (only_setCell (p := ⟨gA, a, none⟩) (World.grownBy.refl wr _) (.inl rfl) _)
      have HS2 := Lib.hid (show SetsAt (wr.setCell ⟨gA, a, none⟩ (.int .i64 (a2 : Int))).drew b gA gE n (ah'.set a a2) en from hS.grown hg3 hA2 (by rw [List.length_set]; exact hS.lA))
      have hn2 : (wr.setCell ⟨gA, a, none⟩ (.int .i64 (a2 : Int))).drew.cell? ⟨gA, a, none⟩ = some (.int .i64 (a2 : Int)) := cells_of_heap HS2.out.hA (by rw [List.getElem?_set_self (by rw [hS.lA]; exact han)])
      have hn0 := HS2.out.c0
      have HG2 := Lib.hid hg2
      obtain ⟨b1, b2, b3⟩ := hF.2 a1 a2 ha2
      have hra2 : r a2 = r at0 := b2.trans (f2.trans hra)
      clear hF hS hg hA2 hg2 hg3 f3 b3
      go_wp2
      go_region
      generalize (wr.setCell ⟨gA, a, none⟩ (.int .i64 (a2 : Int))).drew = w5 at *
      go_wp2
      go_roundw
      case rel => exact ⟨a2, _, rfl, by omega, hra2, HH.out, HS2.out, HG2.out⟩
      case measure => simp [intOf]; omega
end Go.Proofs.Ytcbiaeeifclieaa
/- cluster's sets: two made one, walked; which blocks a call may write. -/
namespace Go.Proofs.Ytcbiaeeifclieaa
open Go.RowKit

/-- The set that a place is in: what becomes of the sets. -/
theorem set_kept (b gA gE n : Nat) (ah en : List Nat) (r e : Nat → Nat) (at0 : Nat) (hat : at0 < n) (hn : n ≤ 100000000) (w : World) (hS : SetsAt w b gA gE n ah en) (hF : Forest n ah r) (hEn : ∀ i, r i = i → i < n → en[i]? = some (e i)) :
    Calls Try.prog 98 #[.pointer (some ⟨b, 0, none⟩), .int .i64 (at0 : Int)] w fun e' w' => e' = .returned (.agg #[.int .i64 (r at0 : Nat), .int .i64 (e (r at0) : Nat)]) ∧ ∃ ah', Forest n ah' r ∧ SetsAt w' b gA gE n ah' en ∧ Kept w w' [gA] :=
  (set_any b gA gE n ah en r e at0 hat hn w hS hF hEn).mono fun _ _ ⟨he, ah', h1, h2, h3⟩ => ⟨he, ah', h1, hS.grown h3 h2 h1.1, Kept.of_grown h3 (List.mem_singleton_self _)⟩
set_option maxRecDepth 100000 in
set_option maxHeartbeats 2000000 in
theorem unite_any (b gA gE n : Nat) (ah en : List Nat) (p q q' z : Nat) (hp : p < n) (hq : q' < n) (hn : n ≤ 100000000) (w : World) (hS : SetsAt w b gA gE n ah en) :
    Calls Try.prog 100 #[.pointer (some ⟨b, 0, none⟩), .agg #[.int .i64 (p : Int), .int .i64 (q : Int)], .agg #[.int .i64 (q' : Int), .int .i64 (z : Int)]] w fun e' w' => e' = .returned (valS ((p : Int), (z : Int))) ∧ SetsAt w' b gA gE n (ah.set q' p) (en.set p z) ∧ Kept w w' [gA, gE] := by
  obtain ⟨W1, hW1⟩ : ∃ W1, w.alloc (.cells #[.int .i64 (p : Int), .int .i64 (q : Int)] 33) = W1 := ⟨_, rfl⟩
  have hs1 : SpanBlk W1 w.heap.size ((p : Int), (q : Int)) := by rw [← hW1]; exact SpanBlk.new_ w _ _ _
  have hb1 : Below w.heap.size w W1 := by rw [← hW1]; exact below_new _ _
  have hl1 : w.heap.size < W1.heap.size := cell_lt hs1.1
  obtain ⟨W2, hW2⟩ : ∃ W2, W1.alloc (.cells #[.int .i64 (q' : Int), .int .i64 (z : Int)] 33) = W2 := ⟨_, rfl⟩
  have hs2 : SpanBlk W2 W1.heap.size ((q' : Int), (z : Int)) := by rw [← hW2]; exact SpanBlk.new_ W1 _ _ _
  have hb2 : Below W1.heap.size W1 W2 := by rw [← hW2]; exact below_new _ _
  have hl2 : W1.heap.size < W2.heap.size := cell_lt hs2.1
  obtain ⟨W3, hW3⟩ : ∃ W3, W2.alloc (.cells #[.int .i64 0, .int .i64 0] 33) = W3 := ⟨_, rfl⟩
  have hs3 : SpanBlk W3 W2.heap.size (0, 0) := by rw [← hW3]; exact SpanBlk.new_ W2 _ _ _
  have hb3 : Below W2.heap.size W2 W3 := by rw [← hW3]; exact below_new _ _
  have hk3 : Kept w W3 [gA, gE] := ((Kept.of_below hb1 _).trans (Kept.of_below hb2 _)).trans (Kept.of_below hb3 _)
  have hb := cell_lt hS.c0
  have hgA := heap_lt hS.hA
  have hgE := heap_lt hS.hE
  simp only at hb
  have hbel : Below w.heap.size w W3 := below_self (below_self hb1 hb2) hb3
  have hA3 : W3.heap[gA]? = some (.cells (ints ah).toArray 3 (0, 0)) := (hbel.block gA hgA).trans hS.hA
  have hE3 : W3.heap[gE]? = some (.cells (ints en).toArray 3 (0, 0)) := (hbel.block gE hgE).trans hS.hE
  have c0 := cell_below hbel hS.c0
  have c1 := cell_below hbel hS.c1
  have hs1' : SpanBlk W3 w.heap.size ((p : Int), (q : Int)) := (hs1.below hb2).below hb3
  have hs2' : SpanBlk W3 W1.heap.size ((q' : Int), (z : Int)) := hs2.below hb3
  have HS := Lib.hid hS
  have HK3 := Lib.hid hk3
  have HA3 := Lib.hid hA3
  have HE3 := Lib.hid hE3
  have HX := Lib.hid (And.intro hs1' (And.intro hs2' hs3))
  obtain ⟨x0, hx0⟩ : ∃ x0, ah[q']? = some x0 := ⟨_, List.getElem?_eq_getElem (by rw [hS.lA]; exact hq)⟩
  have cx := cells_of_heap hA3 hx0
  have fx := frozen_of_heap hA3 q'
  obtain ⟨p0, p1, _, _⟩ := hs1'
  obtain ⟨q0, q1, _, _⟩ := hs2'
  have HL := Lib.hid (show gA < w.heap.size ∧ gE < w.heap.size ∧ b < w.heap.size ∧ w.heap.size < W1.heap.size ∧ W1.heap.size < W2.heap.size from ⟨hgA, hgE, hb, hl1, hl2⟩)
  clear hs1 hb1 hs2 hb2 hs3 hb3 hk3 hS hA3 hE3 hbel hgA hgE hb hx0 hl1 hl2
  go_enter Try.func100, Try.ntmps100
  go_wp2
  clear hW1 hW2 hW3
  generalize W1.heap.size = R2 at *
  generalize W2.heap.size = R3 at *
  generalize hR1 : w.heap.size = R1 at *
  have HR1 := Lib.hid hR1
  clear hR1
  obtain ⟨k1, k2, k3, k4, k5⟩ := HL.out
  have n1 : ¬ gA = gE := HS.out.ne3
  have n2 : ¬ gA = b := HS.out.ne1
  have n3 : ¬ gE = b := HS.out.ne2
  go_region
  have HA4 := Lib.hid (show (W3.setCell ⟨gA, q', none⟩ (.int .i64 (p : Int))).drew.heap[gA]? = some (.cells (ints (ah.set q' p)).toArray 3 (0, 0)) from setCell_heap HA3.out (by rw [HS.out.lA]; exact hq) p)
  have HE4 := Lib.hid (show (W3.setCell ⟨gA, q', none⟩ (.int .i64 (p : Int))).drew.heap[gE]? = some (.cells (ints en).toArray 3 (0, 0)) from (heap_setCell_far (fun e9 => n1 e9.symm) _ _).trans HE3.out)
  have hk4 : Kept W3 (W3.setCell ⟨gA, q', none⟩ (.int .i64 (p : Int))).drew [gA] := ((Kept.refl W3 [gA]).set (.inl (List.mem_singleton_self _)) _ _).drew
  have HK4 := Lib.hid (show Kept w (W3.setCell ⟨gA, q', none⟩ (.int .i64 (p : Int))).drew [gA, gE] from (HK3.out.set (.inl (List.mem_cons_self ..)) _ _).drew)
  have d1 := hk4.cell c1 (by simp; omega)
  have d0 := hk4.cell c0 (by simp; omega)
  have dp0 := hk4.cell p0 (by simp; omega)
  have dp1 := hk4.cell p1 (by simp; omega)
  have dq0 := hk4.cell q0 (by simp; omega)
  have dq1 := hk4.cell q1 (by simp; omega)
  have HX4 := Lib.hid (show SpanBlk (W3.setCell ⟨gA, q', none⟩ (.int .i64 (p : Int))).drew R3 (0, 0) from HX.out.2.2.grown (row := some gA) (grown_drew (only_setCell (p := ⟨gA, q', none⟩) (World.grownBy.refl W3 _) (.inl rfl) _)) (fun e9 => by have := Option.some.inj e9; omega))
  clear cx fx p0 p1 q0 q1 c0 c1 hk4
  generalize (W3.setCell ⟨gA, q', none⟩ (.int .i64 (p : Int))).drew = W4 at *
  obtain ⟨y0, hy0⟩ : ∃ y0, en[p]? = some y0 := ⟨_, List.getElem?_eq_getElem (by rw [HS.out.lE]; exact hp)⟩
  have cy := cells_of_heap HE4.out hy0
  have fy := frozen_of_heap HE4.out p
  clear hy0
  go_wp2
  go_region
  have HA5 := Lib.hid (show (W4.setCell ⟨gE, p, none⟩ (.int .i64 (z : Int))).drew.heap[gA]? = some (.cells (ints (ah.set q' p)).toArray 3 (0, 0)) from (heap_setCell_far n1 _ _).trans HA4.out)
  have HE5 := Lib.hid (show (W4.setCell ⟨gE, p, none⟩ (.int .i64 (z : Int))).drew.heap[gE]? = some (.cells (ints (en.set p z)).toArray 3 (0, 0)) from setCell_heap HE4.out (by rw [HS.out.lE]; exact hp) z)
  have hk5 : Kept W4 (W4.setCell ⟨gE, p, none⟩ (.int .i64 (z : Int))).drew [gE] := ((Kept.refl W4 [gE]).set (.inl (List.mem_singleton_self _)) _ _).drew
  have HK5 := Lib.hid (show Kept w (W4.setCell ⟨gE, p, none⟩ (.int .i64 (z : Int))).drew [gA, gE] from (HK4.out.set (.inl (by simp)) _ _).drew)
  have e1 := hk5.cell d1 (by simp; omega)
  have e0 := hk5.cell d0 (by simp; omega)
  have ep0 := hk5.cell dp0 (by simp; omega)
  have eq1 := hk5.cell dq1 (by simp; omega)
  have hX5 : SpanBlk (W4.setCell ⟨gE, p, none⟩ (.int .i64 (z : Int))).drew R3 (0, 0) := HX4.out.grown (row := some gE) (grown_drew (only_setCell (p := ⟨gE, p, none⟩) (World.grownBy.refl W4 _) (.inl rfl) _)) (fun e9 => by have := Option.some.inj e9; omega)
  clear cy fy d0 d1 dp0 dp1 dq0 dq1 hk5
  generalize (W4.setCell ⟨gE, p, none⟩ (.int .i64 (z : Int))).drew = W5 at *
  have HX5 := Lib.hid hX5
  have HC := Lib.hid (And.intro e0 e1)
  obtain ⟨r0, r1, r2, r3⟩ := hX5
  clear e0 e1
  go_wp2_with fail
  (try simp only [Exit.inBlock, Exit.then])
  refine bodyPost_ret (v := valS ((p : Int), (z : Int))) (res_span rfl _ _ R3 ((p : Int), (z : Int)) rfl (HX5.out.put _ _)) rfl ⟨rfl, ?_, ?_⟩
  · have far : ∀ k, k ≠ R3 → ((W5.setCell ⟨R3, 0, none⟩ (.int .i64 (p : Int))).setCell ⟨R3, 1, none⟩ (.int .i64 (z : Int))).heap[k]? = W5.heap[k]? := fun k hk => (heap_setCell_far hk _ _).trans (heap_setCell_far hk _ _)
    have hkf : Kept W5 ((W5.setCell ⟨R3, 0, none⟩ (.int .i64 (p : Int))).setCell ⟨R3, 1, none⟩ (.int .i64 (z : Int))) [R3] := ((Kept.refl W5 [R3]).set (.inl (List.mem_singleton_self _)) _ _).set (.inl (List.mem_singleton_self _)) _ _
    exact ⟨hkf.cell HC.out.1 (by simp; omega), hkf.cell HC.out.2 (by simp; omega), (far gA (by omega)).trans HA5.out, (far gE (by omega)).trans HE5.out, by rw [List.length_set]; exact HS.out.lA, by rw [List.length_set]; exact HS.out.lE, HS.out.ne1, HS.out.ne2, HS.out.ne3⟩
  · exact (HK5.out.set (.inr (by rw [HR1.out]; omega)) _ _).set (.inr (by rw [HR1.out]; omega)) _ _
end Go.Proofs.Ytcbiaeeifclieaa
/- Cells in memory: the struct, its rows of codes; what is asked of them. -/
namespace Go.Proofs.Ytcbiaeeifclieaa
open Go.RowKit

/-- A cell: its codes' slice, the end that is joined, its codes. -/
abbrev RC := Value × Int × List Int
def encRC (r : RC) : List Value := [r.1, .int .i64 r.2.1]
def cellsRC (R : List RC) : List Value := R.flatMap encRC
theorem cellsRC_cons (r : RC) (R : List RC) : cellsRC (r :: R) = r.1 :: .int .i64 r.2.1 :: cellsRC R := rfl
theorem cellsRC_len (R : List RC) : (cellsRC R).length = R.length * 2 := by
  induction R with
  | nil => rfl
  | cons r R ih => rw [cellsRC_cons, List.length_cons, List.length_cons, ih, List.length_cons]; omega
theorem cellsRC_at {R : List RC} {k : Nat} {r : RC} (h : R[k]? = some r) : (cellsRC R)[k * 2]? = some r.1 ∧ (cellsRC R)[k * 2 + 1]? = some (.int .i64 r.2.1) := by
  induction R generalizing k with
  | nil => simp at h
  | cons s R ih =>
    rw [cellsRC_cons]
    cases k with
    | zero =>
      simp at h
      subst h
      exact ⟨rfl, rfl⟩
    | succ k =>
      have := ih (k := k) (by simpa using h)
      have e0 : (k + 1) * 2 = k * 2 + 1 + 1 := by omega
      have e1 : (k + 1) * 2 + 1 = (k * 2 + 1) + 1 + 1 := by omega
      rw [e1, e0]
      simpa using this
theorem cellsRC_set {R : List RC} {k : Nat} {r : RC} (h : R[k]? = some r) (v : Value) (l : List Int) : (cellsRC R).set (k * 2) v = cellsRC (R.set k (v, r.2.1, l)) := by
  induction R generalizing k with
  | nil => simp at h
  | cons s R ih =>
    cases k with
    | zero => simp at h; subst h; rfl
    | succ k =>
      have e0 : (k + 1) * 2 = k * 2 + 1 + 1 := by omega
      rw [cellsRC_cons, e0, List.set_cons_succ, List.set_cons_succ, ih (by simpa using h), List.set_cons_succ, cellsRC_cons]
theorem cellsRC_setE {R : List RC} {k : Nat} {r : RC} (h : R[k]? = some r) (e : Int) : (cellsRC R).set (k * 2 + 1) (.int .i64 e) = cellsRC (R.set k (r.1, e, r.2.2)) := by
  induction R generalizing k with
  | nil => simp at h
  | cons s R ih =>
    cases k with
    | zero => simp at h; subst h; rfl
    | succ k =>
      have e0 : (k + 1) * 2 + 1 = (k * 2 + 1) + 1 + 1 := by omega
      rw [cellsRC_cons, e0, List.set_cons_succ, List.set_cons_succ, ih (by simpa using h), List.set_cons_succ, cellsRC_cons]
/-- Cells in memory: b the struct, gc its cells; all rows lie behind base, each in a block of its own. -/
structure CellsAt (w : World) (base b gc n : Nat) (R : List RC) (va : Value) (ah : List Int) : Prop where
  hb : w.heap[b]? = some (.cells #[.slice (some ⟨gc, 0, none⟩) n n, va] 66 (0, 0))
  hc : w.heap[gc]? = some (.cells (cellsRC R).toArray 97 (0, 0))
  len : R.length = n
  rows : ∀ (i : Nat) (r : RC), R[i]? = some r → w.ownsRow base 3 1 r.1 r.2.2.length (r.2.2.map (Value.int .i64))
  arow : w.ownsRow base 3 1 va ah.length (ah.map (Value.int .i64))
  ne : ∀ (i j : Nat) (r s : RC), i ≠ j → R[i]? = some r → R[j]? = some s → r.1.ownBlock = none ∨ r.1.ownBlock ≠ s.1.ownBlock
  nea : ∀ (i : Nat) (r : RC), R[i]? = some r → r.1.ownBlock = none ∨ r.1.ownBlock ≠ va.ownBlock
  far : b < base ∧ gc < base ∧ b ≠ gc ∧ base ≤ w.heap.size
theorem CellsAt.low {w w' : World} {base b gc n : Nat} {R : List RC} {va : Value} {ah : List Int} (h : CellsAt w base b gc n R va ah) (hb : Below w.heap.size w w') : CellsAt w' base b gc n R va ah :=
  ⟨(hb.block _ (hp_lt h.hb)).trans h.hb, (hb.block _ (hp_lt h.hc)).trans h.hc, h.len, fun i r hi => own_below (h.rows i r hi) hb, own_below h.arow hb, h.ne, h.nea, ⟨h.far.1, h.far.2.1, h.far.2.2.1, Nat.le_trans h.far.2.2.2 hb.size⟩⟩
/-- A part of the cells, as a slice. -/
theorem CellsAt.part {w : World} {base b gc n : Nat} {R : List RC} {va : Value} {ah : List Int} (h : CellsAt w base b gc n R va ah) {lo m : Nat} (hm : lo + m ≤ n) : Rd w 2 (some ⟨gc, lo * 2, none⟩) m (cellsRC ((R.drop lo).take m)) := by
  refine ⟨by rw [cellsRC_len, List.length_take, List.length_drop, h.len]; congr 1; omega, fun hm0 => ⟨_, rfl, hp_lt h.hc, fun j u hj => ?_⟩⟩
  have hadd : (⟨gc, lo * 2, none⟩ : Addr).add j = ⟨gc, lo * 2 + j, none⟩ := by
    unfold Addr.add; split <;> first | rfl | (simp_all)
  rw [hadd]
  refine hp_cell h.hc ?_
  have hlt : j < m * 2 := by
    have := (List.getElem?_eq_some_iff.1 hj).1
    rw [cellsRC_len, List.length_take] at this
    omega
  obtain ⟨r, hr⟩ : ∃ r, R[lo + j / 2]? = some r := ⟨_, List.getElem?_eq_getElem (by rw [h.len]; omega)⟩
  have hr2 : ((R.drop lo).take m)[j / 2]? = some r := by rw [List.getElem?_take, if_pos (by omega), List.getElem?_drop]; exact hr
  have a1 := cellsRC_at hr
  have a2 := cellsRC_at hr2
  rw [List.getElem?_toArray]
  rcases Nat.mod_two_eq_zero_or_one j with e | e
  · have e1 : j / 2 * 2 = j := by omega
    have e2 : (lo + j / 2) * 2 = lo * 2 + j := by omega
    rw [e1, hj] at a2
    rw [e2] at a1
    rw [a1.1, a2.1]
  · have e1 : j / 2 * 2 + 1 = j := by omega
    have e2 : (lo + j / 2) * 2 + 1 = lo * 2 + j := by omega
    rw [e1, hj] at a2
    rw [e2] at a1
    rw [a1.2, a2.2]
/-- One cell of a part. -/
theorem Rd.rc {w : World} {A : Option Addr} {n k : Nat} {R : List RC} {r : RC} (hr : Rd w 2 A n (cellsRC R)) (h : R[k]? = some r) : ∃ ad, A = some ad ∧ ad.block < w.heap.size ∧ w.cell? (ad.add (k * 2)) = some r.1 ∧ w.cell? ⟨(ad.add (k * 2)).block, (ad.add (k * 2)).off + 1, none⟩ = some (.int .i64 r.2.1) := by
  have hlen : R.length * 2 = n * 2 := by rw [← cellsRC_len]; exact hr.1
  have hk := (List.getElem?_eq_some_iff.1 h).1
  obtain ⟨ad, rfl, hb, hc⟩ := hr.2 (by omega)
  obtain ⟨e0, e1⟩ := cellsRC_at h
  have h1 := hc _ _ e1
  rw [addNext ad (k * 2) 0] at h1
  exact ⟨ad, rfl, hb, hc _ _ e0, h1⟩
def lenR (R : List RC) : Nat := (R.map fun r => r.2.2.length).sum
def codesR (R : List RC) : List Int := R.flatMap fun r => r.2.2
theorem lenR_codes (R : List RC) : (codesR R).length = lenR R := by
  induction R with
  | nil => rfl
  | cons r R ih => simp only [codesR, lenR, List.flatMap_cons, List.length_append, List.map_cons, List.sum_cons] at ih ⊢; omega
theorem lenR_take {R : List RC} {k : Nat} {r : RC} (h : R[k]? = some r) : lenR (R.take (k + 1)) = lenR (R.take k) + r.2.2.length := by
  unfold lenR; rw [List.take_add_one, h]; simp
theorem codesR_take {R : List RC} {k : Nat} {r : RC} (h : R[k]? = some r) : codesR (R.take (k + 1)) = codesR (R.take k) ++ r.2.2 := by
  unfold codesR; rw [List.take_add_one, h]; simp
theorem lenR_le (R : List RC) (k : Nat) : lenR (R.take k) ≤ lenR R := by
  have h : lenR R = lenR (R.take k) + lenR (R.drop k) := by
    unfold lenR; rw [← List.sum_append, ← List.map_append, List.take_append_drop]
  omega
theorem lenR_drop (R : List RC) (k : Nat) : lenR (R.drop k) ≤ lenR R := by
  have h : lenR R = lenR (R.take k) + lenR (R.drop k) := by
    unfold lenR; rw [← List.sum_append, ← List.map_append, List.take_append_drop]
  omega
/-- The part of the cells from lo to hi. -/
def partR (R : List RC) (lo hi : Nat) : List RC := (R.drop lo).take (hi - lo)
def cntR (R : List RC) (ah : List Int) (lo hi : Nat) : Nat := (if lo = 0 then ah.length else 0) + lenR (partR R lo hi)
def toldR (R : List RC) (ah : List Int) (lo hi : Nat) : List Int := (if lo = 0 then ah.reverse else []) ++ codesR (partR R lo hi)
theorem toldR_len (R : List RC) (ah : List Int) (lo hi : Nat) : (toldR R ah lo hi).length = cntR R ah lo hi := by
  unfold toldR cntR; rw [List.length_append, lenR_codes]; split <;> simp
theorem cntR_le (R : List RC) (ah : List Int) (lo hi : Nat) : cntR R ah lo hi ≤ ah.length + lenR R := by
  unfold cntR partR
  have h1 := lenR_le (R.drop lo) (hi - lo)
  have h2 := lenR_drop R lo
  split <;> omega
theorem partR_len {R : List RC} {lo hi n : Nat} (hn : R.length = n) (h : hi ≤ n) : (partR R lo hi).length = hi - lo := by
  unfold partR; rw [List.length_take, List.length_drop]; omega
end Go.Proofs.Ytcbiaeeifclieaa
