/- Texts of one claim, one behind the other. -/
import Derived.Test.YtpddjojgcenlkaaGreatRows
import Derived.WalkKit
import Derived.WalkSpells
import Derived.WalkLawsBesides
import Derived.Handy
import Derived.Below
import Derived.Laws.OwnMore
import Derived.Deep.AppendLies
import Derived.Deep.Draws
import Derived.Laws.Rows
import Derived.Maps.AppendAt
import Derived.RegionTactic
import Derived.OwnWalk
import Derived.Deep.QuietTactic
import Derived.BigQuiet
import Derived.Lib.Hide
import Derived.Deep.LoopGhost
/- Words for memory that all later texts share: a slice that reads as a list, blocks, appends (after the guide's own page of words), and small facts on endings. -/
namespace Go.Proofs.YtpddjojgcenlkaaGreat
open Go.RowKit

theorem blockAdd (a : Addr) (n : Nat) : (a.add n).block = a.block := by unfold Addr.add; split <;> rfl
theorem addAdd (a : Addr) (i j : Nat) : (a.add i).add j = a.add (i + j) := by
  unfold Addr.add
  by_cases hi : i = 0 <;> by_cases hj : j = 0 <;> simp [hi, hj, Nat.add_assoc]

/-- In world w the slice value with address A and length n reads as the cells xs ('size' cells an element), all in memory that is there. -/
def Rd (w : World) (size : Nat) (A : Option Addr) (n : Nat) (xs : List Value) : Prop :=
  xs.length = n * size ∧ (0 < n → ∃ ad, A = some ad ∧ ad.block < w.heap.size ∧ ∀ j u, xs[j]? = some u → w.cell? (ad.add j) = some u)

section
variable {w w' : World} {size n : Nat} {A : Option Addr} {xs : List Value}
theorem Rd.nil_ : Rd w size A 0 [] := ⟨by simp, fun h => absurd h (by omega)⟩
theorem Rd.len1 (h : Rd w 1 A n xs) : xs.length = n := by have := h.1; omega
theorem Rd.at_ {k : Nat} (h : Rd w 1 A n xs) (hk : k < n) : ∃ ad, A = some ad ∧ ad.block < w.heap.size ∧ ∀ u, xs[k]? = some u → w.cell? (ad.add k) = some u := by
  obtain ⟨ad, e, hb, hc⟩ := h.2 (by omega)
  exact ⟨ad, e, hb, fun u hu => hc k u hu⟩
theorem Rd.below (h : Rd w size A n xs) (hb : Below w.heap.size w w') : Rd w' size A n xs :=
  ⟨h.1, fun hn => by
    obtain ⟨ad, e, hlt, hc⟩ := h.2 hn
    exact ⟨ad, e, Nat.lt_of_lt_of_le hlt hb.size, fun j u hu => (hb.cell (by rw [blockAdd]; exact hlt)).trans (hc j u hu)⟩⟩
theorem Rd.drewN (h : Rd w size A n xs) (k : Nat) : Rd (w.drewN k) size A n xs := h
theorem Rd.alloc (h : Rd w size A n xs) (o : Obj) : Rd (w.alloc o) size A n xs := h.below ((Below.refl _ _).alloc (Nat.le_refl _) o)
/-- A cut 's[k:]'. -/
theorem Rd.cut (h : Rd w size A n xs) {k cap : Nat} (hk : k ≤ n) (hc : n ≤ cap) :
    Rd w size (if cap = k then A else A.map (·.add (k * size))) (n - k) (xs.drop (k * size)) := by
  refine ⟨by rw [List.length_drop, h.1, Nat.sub_mul], fun hn => ?_⟩
  obtain ⟨ad, rfl, hb, hcell⟩ := h.2 (by omega)
  rw [if_neg (by omega)]
  refine ⟨ad.add (k * size), rfl, by rw [blockAdd]; exact hb, fun j u hu => ?_⟩
  rw [addAdd]
  exact hcell _ u (by rw [← hu, List.getElem?_drop])
theorem Rd.of_own {base : Nat} {e : TypeId} {c : Nat} (h : w.ownsRow base e size (.slice A n c) n xs) : Rd w size A n xs := by
  refine ⟨h.1, fun hn => ?_⟩
  obtain ⟨g, cap, hv, _, hlt⟩ := h.form hn
  have hA : A = some ⟨g, 0, none⟩ := by injection hv
  subst hA
  exact ⟨_, rfl, hlt, h.cells (g := g) rfl⟩
end

theorem Rd.news {w : World} {size n : Nat} {ad : Addr} {xs : List Value} (h : Rd w size (some ad) n xs) : ∀ j u, xs[j]? = some u → w.cell? (ad.add j) = some u := by
  intro j u hu
  rcases Nat.eq_zero_or_pos n with h0 | h0
  · subst h0
    have hn : xs = [] := List.eq_nil_of_length_eq_zero (by simpa using h.1)
    subst hn
    simp at hu
  · obtain ⟨ad', e, _, hc⟩ := h.2 h0
    injection e with e
    subst e
    exact hc j u hu
/-- What a row of the call's own looks like as a value: a slice of that length. -/
theorem own_form {w : World} {base : Nat} {e : TypeId} {size : Nat} {v : Value} {n : Nat} {xs : List Value} (h : w.ownsRow base e size v n xs) : ∃ A c, v = .slice A n c ∧ n ≤ c := by
  rcases h.2 with ⟨rfl, rfl⟩ | ⟨g, cap, cur, rfl, _, _, hnc, _⟩
  · exact ⟨none, 0, rfl, Nat.le_refl _⟩
  · exact ⟨_, _, rfl, hnc⟩

/-- The slice type T has elements of type E, of so many cells and bytes. -/
def SliceOf (P : Program) (T E : TypeId) (size bytes : Nat) : Prop :=
  P.underlying T = some (.slice E) ∧ ∃ i z, P.info? E = some i ∧ i.zero = some z ∧ i.size = size ∧ i.bytes = bytes ∧ z.cells.size = size
theorem SliceOf.mk_ {P : Program} {T E : TypeId} {size bytes : Nat} {z : Value} (h : P.underlying T = some (.slice E)) (hi : (P.info? E).map (fun i => (i.zero, i.size, i.bytes)) = some (some z, size, bytes)) (hz : z.cells.size = size) : SliceOf P T E size bytes := by
  obtain ⟨i, h1, h2, h3, h4⟩ := info_parts hi
  exact ⟨h, i, z, h1, h2, h3, h4, hz⟩

/-- append onto a row of the call's own, the source at an address. -/
theorem wpList_app {P : Program} {w : World} {ops : Array Oper} {rest : List Oper} {o : Oper} {a : Act} {Q : Exit → Act → World → Prop} (hgd : o.guard = none) (s x : Operand) (t : TypeId)
    (ho : o.op = .call { callee := .builtin .append, args := #[s, x], argTypes := #[t, t] })
    {base : Nat} {e : TypeId} {size bytes : Nat} (S : SliceOf P t e size bytes) (hsz : 0 < size)
    (v : Value) (n : Nat) (xs : List Value) (hs : a.eval s = v) (hown : w.ownsRow base e size v n xs)
    (ad : Addr) (m c : Nat) (news : List Value) (hx : a.eval x = .slice (some ad) m c) (hl : news.length = m * size) (hnews : ∀ j u, news[j]? = some u → w.cell? (ad.add j) = some u) (h1 : ∀ u ∈ news, u.oneCell' = true)
    (hbytes : (n + m) * bytes ≤ 140737488355328) (h63 : n + m ≤ maxLen) (hbase : base ≤ w.heap.size)
    (h : ∀ v' w', w'.ownsRow base e size v' (n + m) (xs ++ news) → w.grownBy w' v.ownBlock → (v'.ownBlock = v.ownBlock ∨ v'.ownBlock = some w.heap.size) → wpList P ops Q rest (a.put o.dst v') w') :
    wpList P ops Q (o :: rest) a w := by
  obtain ⟨ht, i, z, hi, hz, hs1, hb1, hzs⟩ := S
  exact wpList_append_own_at w hgd s x t ho base e i z size bytes ht hi hz hs1 hb1 hzs hsz v n xs hs hown ad m c news hx hl hnews h1 h63 hbytes hbase (fun v' w' a1 a2 _ a4 => h v' w' a1 a2 a4)

theorem run_app_nil {P : Program} (w : World) (base : Nat) (t ty e : TypeId) (size bytes : Nat) (S : SliceOf P t e size bytes)
    (v : Value) (n : Nat) (xs : List Value) (hown : w.ownsRow base e size v n xs) (c : Nat) : (Builtin.append_ #[t, t] ty #[v, .slice none 0 c]).run P w = .ok v w := by
  obtain ⟨ht, i, z, hi, hz, hs1, hb1, hzs⟩ := S
  rcases hown.2 with ⟨rfl, rfl⟩ | ⟨g, cap, cur, rfl, _, _, hnc, _⟩
  · simp [Builtin.append_, run_underlying ht, sizeOf, typeInfo, hi, Builtin.lenOf, Builtin.firstCells]
  · simp [Builtin.append_, run_underlying ht, sizeOf, typeInfo, hi, Builtin.lenOf, Builtin.firstCells, hnc, storeCells]

/-- append onto a row of the call's own, the source any slice that reads as 'news', nil too. -/
theorem wpList_appR {P : Program} {w : World} {ops : Array Oper} {rest : List Oper} {o : Oper} {a : Act} {Q : Exit → Act → World → Prop} (hgd : o.guard = none) (s x : Operand) (t : TypeId)
    (ho : o.op = .call { callee := .builtin .append, args := #[s, x], argTypes := #[t, t] })
    {base : Nat} {e : TypeId} {size bytes : Nat} (S : SliceOf P t e size bytes) (hsz : 0 < size)
    (v : Value) (n : Nat) (xs : List Value) (hs : a.eval s = v) (hown : w.ownsRow base e size v n xs)
    (A : Option Addr) (m c : Nat) (news : List Value) (hx : a.eval x = .slice A m c) (hr : Rd w size A m news) (h1 : ∀ u ∈ news, u.oneCell' = true)
    (hbytes : (n + m) * bytes ≤ 140737488355328) (h63 : n + m ≤ maxLen) (hbase : base ≤ w.heap.size)
    (h : ∀ v' w', w'.ownsRow base e size v' (n + m) (xs ++ news) → w.grownBy w' v.ownBlock → (v'.ownBlock = v.ownBlock ∨ v'.ownBlock = some w.heap.size) → wpList P ops Q rest (a.put o.dst v') w') :
    wpList P ops Q (o :: rest) a w := by
  rcases A with _ | ad
  · have hm : m = 0 := by
      rcases Nat.eq_zero_or_pos m with h0 | h0
      · exact h0
      · obtain ⟨_, e, _⟩ := hr.2 h0
        cases e
    subst hm
    have hn : news = [] := List.eq_nil_of_length_eq_zero (by simpa using hr.1)
    subst hn
    have hrun := run_app_nil (P := P) w base t o.type e size bytes S v n xs hown c
    refine wpList_plain hgd fun K hK => ?_
    unfold Oper.wp execOp
    simp only [ho, resolve, invoke, builtin, Sem.run_bind, Sem.run_pure, Result.andThen_ok, List.map_toArray, List.map_cons, List.map_nil, hs, hx, hrun]
    exact hK _ _ (h v w (by simpa using hown) (World.grownBy.refl w _) (.inl rfl))
  · exact wpList_app hgd s x t ho S hsz v n xs hs hown ad m c news hx hr.1 hr.news h1 hbytes h63 hbase h

/-- make([]T, 0, n). -/
theorem wpList_mk {P : Program} {w : World} {ops : Array Oper} {rest : List Oper} {o : Oper} {a : Act} {Q : Exit → Act → World → Prop}
    (hg : o.guard = none) (l c : Operand) (t : TypeId) (hop : o.op = Op.makeSlice t l c)
    {base : Nat} {e : TypeId} {size bytes : Nat} (S : SliceOf P t e size bytes)
    {kl kc : IntKind} (C : Int) (n : Nat) (hl : a.eval l = .int kl 0) (hc : a.eval c = .int kc C) (hC : C = (n : Int)) (b2 : bytes * n ≤ 281474976710656) (b3 : n ≤ maxLen) (b4 : base ≤ w.heap.size)
    (hK : ∀ v' w', w'.ownsRow base e size v' 0 [] → w.grownBy w' none → wpList P ops Q rest (a.put o.dst v') w') :
    wpList P ops Q (o :: rest) a w := by
  obtain ⟨ht, i, z, hi, hz, hs1, hb1, hzs⟩ := S
  exact wpList_make_own w hg l c t hop base e i z size ht hi hz hs1 kl kc C n hl hc hC (by rw [hb1]; exact b2) b3 b4 (fun w' a1 a2 => hK _ w' a1 a2)

/-- make([]T, n), T of one cell. -/
theorem wpList_mkFull {P : Program} {w : World} {ops : Array Oper} {rest : List Oper} {o : Oper} {a : Act} {Q : Exit → Act → World → Prop}
    (hg : o.guard = none) (l c : Operand) (t : TypeId) (hop : o.op = Op.makeSlice t l c)
    {base : Nat} {e : TypeId} {bytes : Nat} {z : Value} (ht : P.underlying t = some (.slice e)) (hin : (P.info? e).map (fun i => (i.zero, i.size, i.bytes)) = some (some z, 1, bytes)) (hz : z.cells = #[z])
    {kl kc : IntKind} (L C : Int) (n : Nat) (hl : a.eval l = .int kl L) (hc : a.eval c = .int kc C) (hL : L = (n : Int)) (hC : C = (n : Int)) (b2 : bytes * n ≤ 281474976710656) (b3 : n ≤ maxLen) (b4 : base ≤ w.heap.size)
    (hK : ∀ w', w'.ownsRow base e 1 (.slice (some ⟨w.heap.size, 0, none⟩) n n) n (List.replicate n z) → w.grownBy w' none → wpList P ops Q rest (a.put o.dst (.slice (some ⟨w.heap.size, 0, none⟩) n n)) w') :
    wpList P ops Q (o :: rest) a w := by
  obtain ⟨i, h1, h2, h3, h4⟩ := info_parts hin
  refine wpList_make_full w hg l c t hop base e i z 1 ht h1 h2 h3 kl kc L C n hl hc hL hC (by rw [h4]; exact b2) b3 b4 (fun w' a1 a2 => hK w' ?_ a2)
  rw [hz, Nat.mul_one, toList_madeCells_one] at a1
  exact a1

theorem addNew (g j : Nat) : (⟨g, 0, none⟩ : Addr).add j = ⟨g, j, none⟩ := by
  unfold Addr.add
  split
  · rename_i h; subst h; rfl
  · simp
/-- The cells of a new block. -/
theorem cells_new (w : World) (cs : List Value) (t : TypeId) : ∀ j u, cs[j]? = some u → (w.alloc (.cells cs.toArray t)).cell? ((⟨w.heap.size, 0, none⟩ : Addr).add j) = some u := by
  intro j u hj
  rw [addNew, World.cell?_alloc_at _ _ _ _ rfl]
  simpa using hj

theorem Rd.new_ (w : World) (cs : List Value) (t : TypeId) : Rd (w.alloc (.cells cs.toArray t)) 1 (some ⟨w.heap.size, 0, none⟩) cs.length cs :=
  ⟨by simp, fun _ => ⟨_, rfl, by simp, cells_new w cs t⟩⟩
theorem cell_lt {w : World} {a : Addr} {v : Value} (h : w.cell? a = some v) : a.block < w.heap.size := by
  unfold World.cell? at h
  rcases Nat.lt_or_ge a.block w.heap.size with hlt | hge
  · exact hlt
  · rw [Array.getElem?_eq_none hge] at h; cases h
theorem cell_below {w w' : World} {a : Addr} {v : Value} (hb : Below w.heap.size w w') (h : w.cell? a = some v) : w'.cell? a = some v := (hb.cell (cell_lt h)).trans h
theorem below_self {w a b : World} (h : Below w.heap.size w a) (k : Below a.heap.size a b) : Below w.heap.size w b := h.trans (k.mono h.size)
theorem below_new (w : World) (o : Obj) : Below w.heap.size w (w.alloc o) := (Below.refl _ _).alloc (Nat.le_refl _) o
theorem below_drew {w a : World} (h : Below w.heap.size w a) (n : Nat) : Below w.heap.size w (a.drewN n) := ⟨h.os, h.tape, h.output, h.size, h.block⟩
theorem oneInt (k : IntKind) (x : Int) : ∀ u ∈ [Value.int k x], u.oneCell' = true := by
  intro u hu
  simp at hu
  subst hu
  rfl
theorem oneInt2 (k : IntKind) (x y : Int) : ∀ u ∈ [Value.int k x, .int k y], u.oneCell' = true := by
  intro u hu
  simp at hu
  rcases hu with rfl | rfl <;> rfl
theorem oneInts (k : IntKind) (xs : List Int) : ∀ u ∈ xs.map (Value.int k), u.oneCell' = true := by
  intro u hu
  simp at hu
  obtain ⟨x, _, rfl⟩ := hu
  rfl
/-- A row below which all stood is told of what it was of. -/
theorem ownBlock_slice (A : Option Addr) (n c k : Nat) (h : (Value.slice A n c).ownBlock = some k) : ∃ a, A = some a ∧ a.block = k := by
  rcases A with _ | a
  · cases h
  · exact ⟨a, rfl, by injection h⟩
theorem below_app {B : Nat} {w0 w w' : World} {e : TypeId} {size n : Nat} {v : Value} {xs : List Value} (h : Below B w0 w) (hg : w.grownBy w' v.ownBlock) (hown : w.ownsRow B e size v n xs) (hB : B ≤ w.heap.size) : Below B w0 w' :=
  h.grown hg hB (fun k hk => (hown.lt k hk).1)

theorem retB {a b : Bool} (h : a = true ↔ b = true) : Ending.returned (.bool a) = .returned (.bool b) := by rw [Bool.eq_iff_iff.2 h]
theorem retI {a b : Int} (h : a = b) : Ending.returned (.int .i64 a) = .returned (.int .i64 b) := by rw [h]
theorem drewBelow {w : World} (n : Nat) : Below w.heap.size w (w.drewN n) := ⟨rfl, rfl, rfl, Nat.le_refl _, fun _ _ => rfl⟩
theorem below_drewN {B : Nat} {a w : World} (h : Below B a w) (n : Nat) : Below B a (w.drewN n) := ⟨h.os, h.tape, h.output, h.size, h.block⟩
end Go.Proofs.YtpddjojgcenlkaaGreat
/- What brackets become, neutral classes and levels as mathematics. No function of the program. -/
namespace Go.Proofs.YtpddjojgcenlkaaGreat
open Go.RowKit

/-- A class's side; a level's. -/
def sideF (c : Int) : Int := if c = 0 then 0 else if c = 1 ∨ c = 3 ∨ c = 6 then 1 else -1
def ofL (n : Int) : Int := if n % 2 = 0 then 0 else 1
theorem ofL_in (n : Int) : ofL n = 0 ∨ ofL n = 1 := by unfold ofL; split <;> simp
theorem side_in (c : Int) : sideF c = -1 ∨ sideF c = 0 ∨ sideF c = 1 := by
  unfold sideF
  by_cases h : c = 0
  · simp [h]
  · rw [if_neg h]
    split <;> simp
/-- Which sides there are between two places. -/
def insF (l : List Int) (o c level : Int) : Bool × Bool :=
  ((List.range l.length).any fun i => decide (o < (i : Int) ∧ (i : Int) < c ∧ sideF (l.getD i 0) = ofL level),
   (List.range l.length).any fun i => decide (o < (i : Int) ∧ (i : Int) < c ∧ 0 ≤ sideF (l.getD i 0) ∧ sideF (l.getD i 0) ≠ ofL level))
/-- The last side ahead of place k. -/
def ahdF (l : List Int) : Nat → Int
  | 0 => -1
  | k + 1 => if 0 ≤ sideF (l.getD k 0) then sideF (l.getD k 0) else ahdF l k
def becF (l : List Int) (o c : Nat) (level sos : Int) : Int :=
  if (insF l o c level).1 = true then ofL level else if (insF l o c level).2 = false then -1 else
    if 0 ≤ ahdF l o then ahdF l o else if 0 ≤ sideF sos then sideF sos else ofL level
/-- Marks directly behind become it, too. -/
def runS (bf : List Int) (s : Int) : Nat → Nat → List Int → List Int
  | 0, _, o => o
  | f + 1, k, o => if bf[k]? = some 8 then runS bf s f (k + 1) (o.set k s) else o
def n0S (bf : List Int) (level sos : Int) (out : List Int) (p : Nat × Nat) : List Int :=
  if becF out p.1 p.2 level sos < 0 then out else
    runS bf (becF out p.1 p.2 level sos) bf.length (p.2 + 1) (runS bf (becF out p.1 p.2 level sos) bf.length (p.1 + 1) ((out.set p.1 (becF out p.1 p.2 level sos)).set p.2 (becF out p.1 p.2 level sos)))
def n0F (bf : List Int) (level sos : Int) (l : List Int) (ps : List (Nat × Nat)) : List Int := ps.foldl (n0S bf level sos) l
theorem runS_len (bf : List Int) (s : Int) : ∀ (f k : Nat) (o : List Int), (runS bf s f k o).length = o.length
  | 0, _, _ => rfl
  | f + 1, k, o => by
    rw [runS]
    split
    · rw [runS_len bf s f, List.length_set]
    · rfl
theorem runS_keep {bf : List Int} {s : Int} {j : Nat} (h : bf[j]? ≠ some 8) : ∀ (f k : Nat) (o : List Int), (runS bf s f k o)[j]? = o[j]?
  | 0, _, _ => rfl
  | f + 1, k, o => by
    rw [runS]
    split
    · rename_i hk
      rw [runS_keep h f, List.getElem?_set_ne (fun e : k = j => h (by rw [← e]; exact hk))]
    · rfl
theorem n0S_len (bf : List Int) (level sos : Int) (out : List Int) (p : Nat × Nat) : (n0S bf level sos out p).length = out.length := by
  unfold n0S
  split
  · rfl
  · rw [runS_len, runS_len, List.length_set, List.length_set]
theorem n0F_len (bf : List Int) (level sos : Int) : ∀ (ps : List (Nat × Nat)) (l : List Int), (n0F bf level sos l ps).length = l.length
  | [], _ => rfl
  | p :: ps, l => (n0F_len bf level sos ps _).trans (n0S_len bf level sos l p)
/-- What is no bracket and no mark stays. -/
theorem n0F_keep {bf : List Int} {level sos : Int} {j : Nat} (h : bf[j]? ≠ some 8) : ∀ (ps : List (Nat × Nat)) (l : List Int), (∀ p ∈ ps, p.1 ≠ j ∧ p.2 ≠ j) → (n0F bf level sos l ps)[j]? = l[j]?
  | [], _, _ => rfl
  | p :: ps, l, hp => by
    have h1 : (n0S bf level sos l p)[j]? = l[j]? := by
      have := hp p (by simp)
      unfold n0S
      split
      · rfl
      · rw [runS_keep h, runS_keep h, List.getElem?_set_ne this.2, List.getElem?_set_ne this.1]
    exact (n0F_keep h ps _ fun q hq => hp q (by simp [hq])).trans h1

/-- Neutral classes. -/
def neuB (c : Int) : Bool := (decide (10 ≤ c) && decide (c ≤ 13)) || (decide (19 ≤ c) && decide (c ≤ 22))
def nxtS (e : Int) : List Int → Int
  | [] => sideF e
  | c :: l => if neuB c = true then nxtS e l else sideF c
/-- Behind side a. -/
def nu1 : Int → Int → List Int → List Int
  | _, _, [] => []
  | a, e, c :: l => if neuB c = true then (if 0 ≤ a ∧ a = nxtS e l then a else c) :: nu1 a e l else c :: nu1 (sideF c) e l
def nu2 (level : Int) (l : List Int) : List Int := l.map fun c => if neuB c = true then ofL level else c
def impF (c level : Int) : Int :=
  if level % 2 = 0 then (if c = 1 then level + 1 else if c = 3 ∨ c = 6 then level + 2 else level) else (if c = 0 ∨ c = 3 ∨ c = 6 then level + 1 else level)
theorem nu1_len : ∀ (a e : Int) (l : List Int), (nu1 a e l).length = l.length
  | _, _, [] => rfl
  | a, e, c :: l => by
    rw [nu1]
    split <;> simp [nu1_len _ e l]
theorem nu2_len (level : Int) (l : List Int) : (nu2 level l).length = l.length := by simp [nu2]
theorem nu1_keep {j : Nat} {c : Int} (hc : neuB c = false) : ∀ {a e : Int} {l : List Int}, l[j]? = some c → (nu1 a e l)[j]? = some c := by
  induction j with
  | zero =>
    intro a e l h
    cases l with
    | nil => cases h
    | cons x l =>
      obtain rfl := Option.some.inj h
      rw [nu1, if_neg (by rw [hc]; simp)]
      rfl
  | succ j ih =>
    intro a e l h
    cases l with
    | nil => cases h
    | cons x l =>
      rw [List.getElem?_cons_succ] at h
      rw [nu1]
      split
      · rw [List.getElem?_cons_succ]; exact ih h
      · rw [List.getElem?_cons_succ]; exact ih h
theorem nu2_keep {level : Int} {j : Nat} {c : Int} {l : List Int} (hc : neuB c = false) (h : l[j]? = some c) : (nu2 level l)[j]? = some c := by
  unfold nu2
  rw [List.getElem?_map, h, Option.map_some, if_neg (by rw [hc]; simp)]
/-- Levels rise by two at most, and not above the greatest one. -/
theorem imp_in {c level : Int} (h0 : 0 ≤ level) (h1 : level ≤ 125) : level ≤ impF c level ∧ impF c level ≤ 126 := by
  unfold impF
  repeat' split
  all_goals omega
theorem imp_left {level : Int} (h : level = 0 ∨ level = 1) : impF 0 level = 2 * level := by
  rcases h with rfl | rfl <;> decide
theorem imp_right {level : Int} (h : level = 0 ∨ level = 1) : impF 1 level = 1 := by
  rcases h with rfl | rfl <;> decide
end Go.Proofs.YtpddjojgcenlkaaGreat
/- Neutral rows, one by one: what is done up to a place; what a row becomes. No function of the program. -/
namespace Go.Proofs.YtpddjojgcenlkaaGreat
open Go.RowKit

/-- A stretch of a row set to one number. -/
def setsR (ys : List Int) (lo : Nat) (x : Int) : Nat → List Int
  | 0 => ys
  | k + 1 => (setsR ys lo x k).set (lo + k) x
theorem setsR_len (ys : List Int) (lo : Nat) (x : Int) : ∀ k, (setsR ys lo x k).length = ys.length
  | 0 => rfl
  | k + 1 => by rw [setsR, List.length_set, setsR_len ys lo x k]
theorem setsR_in {ys : List Int} {lo : Nat} {x : Int} {j : Nat} : ∀ {k : Nat}, lo ≤ j → j < lo + k → j < ys.length → (setsR ys lo x k)[j]? = some x
  | 0, h1, h2, _ => by omega
  | k + 1, h1, h2, h3 => by
    rw [setsR]
    by_cases e : lo + k = j
    · subst e
      rw [List.getElem?_set_self (by rw [setsR_len]; exact h3)]
    · rw [List.getElem?_set_ne e, setsR_in h1 (by omega) h3]
theorem setsR_out {ys : List Int} {lo : Nat} {x : Int} {j : Nat} : ∀ {k : Nat}, ¬ (lo ≤ j ∧ j < lo + k) → (setsR ys lo x k)[j]? = ys[j]?
  | 0, _ => rfl
  | k + 1, h => by rw [setsR, List.getElem?_set_ne (by omega), setsR_out (by omega)]
/-- Up to lo as it will be, from there on as it was. -/
def mixR (R l : List Int) (lo : Nat) : List Int := R.take lo ++ l.drop lo
theorem mixR_zero (R l : List Int) : mixR R l 0 = l := rfl
theorem mixR_all {R l : List Int} (h : R.length = l.length) {n : Nat} (hn : l.length ≤ n) : mixR R l n = R := by
  unfold mixR
  rw [List.take_of_length_le (by omega), List.drop_eq_nil_of_le hn, List.append_nil]
theorem mixR_len {R l : List Int} (h : R.length = l.length) (lo : Nat) : (mixR R l lo).length = l.length := by
  unfold mixR
  rw [List.length_append, List.length_take, List.length_drop]
  omega
theorem mixR_lt {R l : List Int} (h : R.length = l.length) {lo j : Nat} (hj : j < lo) : (mixR R l lo)[j]? = R[j]? := by
  unfold mixR
  by_cases hl : j < R.length
  · rw [List.getElem?_append_left (by rw [List.length_take]; omega), List.getElem?_take_of_lt hj]
  · rw [List.getElem?_append_right (by rw [List.length_take]; omega), List.getElem?_drop, List.length_take, List.getElem?_eq_none (by omega), List.getElem?_eq_none (by omega)]
theorem mixR_ge {R l : List Int} (h : R.length = l.length) {lo j : Nat} (hj : lo ≤ j) : (mixR R l lo)[j]? = l[j]? := by
  unfold mixR
  by_cases hl : lo ≤ l.length
  · rw [List.getElem?_append_right (by rw [List.length_take]; omega), List.getElem?_drop, List.length_take, show lo + (j - min lo R.length) = j by omega]
  · rw [List.drop_eq_nil_of_le (by omega), List.append_nil, List.take_of_length_le (by omega), List.getElem?_eq_none (by omega), List.getElem?_eq_none (by omega)]
theorem mixR_same {R l : List Int} (h : R.length = l.length) {lo hi : Nat} (h1 : lo ≤ hi) (hs : ∀ j, lo ≤ j → j < hi → R[j]? = l[j]?) : mixR R l hi = mixR R l lo := by
  apply List.ext_getElem?
  intro j
  by_cases a : j < lo
  · rw [mixR_lt h a, mixR_lt h (by omega)]
  · by_cases b : j < hi
    · rw [mixR_lt h b, mixR_ge h (by omega), hs j (by omega) b]
    · rw [mixR_ge h (by omega), mixR_ge h (by omega)]
theorem mixR_fill {R l : List Int} (h : R.length = l.length) {lo hi : Nat} {x : Int} (h1 : lo ≤ hi) (h2 : hi ≤ l.length) (hs : ∀ j, lo ≤ j → j < hi → R[j]? = some x) : mixR R l hi = setsR (mixR R l lo) lo x (hi - lo) := by
  apply List.ext_getElem?
  intro j
  by_cases a : lo ≤ j ∧ j < hi
  · rw [mixR_lt h a.2, hs j a.1 a.2, setsR_in a.1 (by omega) (by rw [mixR_len h]; omega)]
  · rw [setsR_out (by omega)]
    by_cases b : j < lo
    · rw [mixR_lt h (by omega), mixR_lt h b]
    · rw [mixR_ge h (by omega), mixR_ge h (by omega)]
/-- A longest row of neutral classes. -/
structure RowN (l : List Int) (lo hi : Nat) : Prop where
  lt : lo < hi
  le : hi ≤ l.length
  neu : ∀ j c, lo ≤ j → j < hi → l[j]? = some c → neuB c = true
  ahead : lo = 0 ∨ ∃ c, l[lo - 1]? = some c ∧ neuB c = false
  behind : hi = l.length ∨ ∃ c, l[hi]? = some c ∧ neuB c = false
/-- The side ahead of a place. -/
def ahN (a : Int) (l : List Int) (lo : Nat) : Int := if lo = 0 then a else sideF (l.getD (lo - 1) 0)
theorem nu1_from {e : Int} : ∀ {l : List Int} {a : Int} {lo : Nat}, (lo = 0 ∨ ∃ c, l[lo - 1]? = some c ∧ neuB c = false) → (nu1 a e l).drop lo = nu1 (ahN a l lo) e (l.drop lo)
  | l, a, 0, _ => by simp [ahN]
  | [], a, lo + 1, _ => by simp [nu1]
  | c :: l, a, lo + 1, h => by
    rcases h with h | ⟨d, h1, h2⟩
    · omega
    · have key : nu1 a e (c :: l) = (if neuB c = true then (if 0 ≤ a ∧ a = nxtS e l then a else c) else c) :: nu1 (if neuB c = true then a else sideF c) e l := by
        rw [nu1]
        split <;> rfl
      rw [key, List.drop_succ_cons, List.drop_succ_cons]
      cases lo with
      | zero =>
        obtain rfl := Option.some.inj h1
        rw [if_neg (by rw [h2]; decide)]
        simp [ahN]
      | succ lo =>
        rw [nu1_from (lo := lo + 1) (.inr ⟨d, by simpa using h1, h2⟩)]
        simp [ahN]
theorem nxt_row {e : Int} : ∀ {s r : List Int}, (∀ c ∈ s, neuB c = true) → nxtS e (s ++ r) = nxtS e r
  | [], _, _ => rfl
  | c :: s, r, h => by
    rw [List.cons_append, nxtS, if_pos (h c (by simp))]
    exact nxt_row fun d hd => h d (by simp [hd])
theorem nxt_end {e : Int} {r : List Int} (h : r = [] ∨ ∃ c, r[0]? = some c ∧ neuB c = false) : nxtS e r = if r = [] then sideF e else sideF (r.getD 0 0) := by
  rcases h with rfl | ⟨c, h1, h2⟩
  · rfl
  · cases r with
    | nil => simp at h1
    | cons x r =>
      obtain rfl := Option.some.inj h1
      rw [nxtS, if_neg (by rw [h2]; decide), if_neg (by simp)]
      rfl
theorem nu1_in {b e : Int} : ∀ {s r : List Int} {j : Nat} {c : Int}, (∀ c ∈ s, neuB c = true) → s[j]? = some c → (nu1 b e (s ++ r))[j]? = some (if 0 ≤ b ∧ b = nxtS e r then b else c)
  | [], _, _, _, _, h => by simp at h
  | x :: s, r, 0, c, hn, h => by
    obtain rfl := Option.some.inj h
    rw [List.cons_append, nu1, if_pos (hn x (by simp)), nxt_row (fun d hd => hn d (by simp [hd]))]
    rfl
  | x :: s, r, j + 1, c, hn, h => by
    rw [List.cons_append, nu1, if_pos (hn x (by simp)), List.getElem?_cons_succ]
    exact nu1_in (fun d hd => hn d (by simp [hd])) (by simpa using h)
/-- The side behind a place. -/
def bhN (e : Int) (l : List Int) (hi : Nat) : Int := if hi = l.length then sideF e else sideF (l.getD hi 0)
theorem nu1_row {a e : Int} {l : List Int} {lo hi j : Nat} {c : Int} (h : RowN l lo hi) (h1 : lo ≤ j) (h2 : j < hi) (hc : l[j]? = some c) : (nu1 a e l)[j]? = some (if 0 ≤ ahN a l lo ∧ ahN a l lo = bhN e l hi then ahN a l lo else c) := by
  have e1 : (nu1 a e l)[j]? = ((nu1 a e l).drop lo)[j - lo]? := by rw [List.getElem?_drop, show lo + (j - lo) = j by omega]
  rw [e1, nu1_from h.ahead]
  have hlt := h.lt
  have hle := h.le
  have e2 : l.drop lo = (l.take hi).drop lo ++ l.drop hi := by
    apply List.ext_getElem?
    intro i
    by_cases hi' : i < hi - lo
    · rw [List.getElem?_append_left (by rw [List.length_drop, List.length_take]; omega), List.getElem?_drop, List.getElem?_drop, List.getElem?_take_of_lt (by omega)]
    · rw [List.getElem?_append_right (by rw [List.length_drop, List.length_take]; omega), List.getElem?_drop, List.getElem?_drop, List.length_drop, List.length_take, show hi + (i - (min hi l.length - lo)) = lo + i by omega]
  have e3 : nxtS e (l.drop hi) = bhN e l hi := by
    rw [nxt_end]
    · unfold bhN
      by_cases hh : hi = l.length
      · rw [if_pos hh, if_pos (List.drop_eq_nil_of_le (by omega))]
      · rw [if_neg hh, if_neg (by intro h0; have := congrArg List.length h0; simp at this; omega), List.getD_eq_getElem?_getD, List.getElem?_drop, Nat.add_zero, List.getD_eq_getElem?_getD]
    · rcases h.behind with hh | ⟨d, d1, d2⟩
      · exact .inl (List.drop_eq_nil_of_le (by omega))
      · exact .inr ⟨d, by rw [List.getElem?_drop, Nat.add_zero]; exact d1, d2⟩
  rw [e2, nu1_in (c := c) ?_ ?_, e3]
  · intro d hd
    obtain ⟨i, hi'⟩ := List.getElem?_of_mem hd
    have hil := (List.getElem?_eq_some_iff.1 hi').1
    rw [List.length_drop, List.length_take] at hil
    rw [List.getElem?_drop, List.getElem?_take_of_lt (by omega)] at hi'
    exact h.neu (lo + i) d (by omega) (by omega) hi'
  · rw [List.getElem?_drop, List.getElem?_take_of_lt (by omega), show lo + (j - lo) = j by omega]
    exact hc
end Go.Proofs.YtpddjojgcenlkaaGreat
/- The last bit of an integer. -/
namespace Go.Proofs.YtpddjojgcenlkaaGreat
open Go.RowKit

theorem and1_i64 (M : Int) : bits .and .i64 M 1 = M % 2 := by
  show IntKind.i64.wrap ((BitVec.ofInt 64 M &&& BitVec.ofInt 64 1).toNat : Int) = _
  rw [BitVec.toNat_and, show (BitVec.ofInt 64 1).toNat = 1 from rfl, Nat.and_one_is_mod, BitVec.toNat_ofInt, IntKind.wrap_i64]
  omega
end Go.Proofs.YtpddjojgcenlkaaGreat
/- Pairs of brackets as mathematics: a stack, the pairs by where they open; they lie apart or one within the other; how deep it goes. No function of the program. -/
namespace Go.Proofs.YtpddjojgcenlkaaGreat
open Go.RowKit

/-- The first on a stack that goes with something, and what is left below it. -/
def popTo (f : Nat → Bool) : List Nat → Option (Nat × List Nat)
  | [] => none
  | o :: st => if f o = true then some (o, st) else popTo f st
theorem popTo_some {f : Nat → Bool} : ∀ {st : List Nat} {o : Nat} {st' : List Nat}, popTo f st = some (o, st') → f o = true ∧ ∃ pre, st = pre ++ o :: st'
  | [], _, _, h => by cases h
  | x :: st, o, st', h => by
    rw [popTo] at h
    split at h
    · rename_i hx
      have := Option.some.inj h
      simp only [Prod.mk.injEq] at this
      obtain ⟨rfl, rfl⟩ := this
      exact ⟨hx, [], rfl⟩
    · obtain ⟨h1, pre, h2⟩ := popTo_some h
      exact ⟨h1, x :: pre, by rw [h2]; rfl⟩
/-- A pair in its place. -/
def insP : List (Nat × Nat) → Nat × Nat → List (Nat × Nat)
  | [], p => [p]
  | q :: l, p => if q.1 < p.1 then q :: insP l p else p :: q :: l
theorem mem_insP {p x : Nat × Nat} : ∀ {l : List (Nat × Nat)}, x ∈ insP l p ↔ x = p ∨ x ∈ l
  | [] => by simp [insP]
  | q :: l => by
    rw [insP]
    split
    · rw [List.mem_cons, mem_insP, List.mem_cons]
      exact ⟨fun h => h.elim (fun h => .inr (.inl h)) (fun h => h.imp id .inr), fun h => h.elim (fun h => .inr (.inl h)) (fun h => h.imp id .inr)⟩
    · rw [List.mem_cons]
theorem insP_sorted {p : Nat × Nat} : ∀ {l : List (Nat × Nat)}, l.Pairwise (fun x y => x.1 < y.1) → (∀ x ∈ l, x.1 ≠ p.1) → (insP l p).Pairwise (fun x y => x.1 < y.1)
  | [], _, _ => by simp [insP]
  | q :: l, h, hn => by
    rw [List.pairwise_cons] at h
    rw [insP]
    split
    · rename_i hq
      rw [List.pairwise_cons]
      refine ⟨fun x hx => ?_, insP_sorted h.2 fun x hx => hn x (by simp [hx])⟩
      rcases mem_insP.1 hx with rfl | hx
      · exact hq
      · exact h.1 x hx
    · rename_i hq
      have hne := hn q (by simp)
      rw [List.pairwise_cons, List.pairwise_cons]
      refine ⟨fun x hx => ?_, h⟩
      rcases List.mem_cons.1 hx with rfl | hx
      · omega
      · have := h.1 x hx; omega
theorem insP_len (p : Nat × Nat) : ∀ l : List (Nat × Nat), (insP l p).length = l.length + 1
  | [] => rfl
  | q :: l => by
    rw [insP]
    split
    · simp [insP_len p l]
    · simp
/-- Opening brackets, the last one first; the pairs, by where they open; whether there were too many. -/
structure BkS where
  st : List Nat
  out : List (Nat × Nat)
  stop : Bool
section
variable (on : Nat → Bool) (kd : Nat → Int) (mt : Nat → Nat → Bool)
def bkStep (s : BkS) (i : Nat) : BkS :=
  if s.stop = true ∨ on i = false ∨ kd i = 0 then s else if kd i = 1 then (if 63 ≤ s.st.length then { s with stop := true } else { s with st := i :: s.st }) else
    match popTo (fun o => mt o i) s.st with
    | none => s
    | some (o, st) => { s with st := st, out := insP s.out (o, i) }
def bkA : Nat → BkS
  | 0 => ⟨[], [], false⟩
  | k + 1 => bkStep on kd mt (bkA k) k
/-- What holds of the pairs so far. -/
structure BkOk (s : BkS) (k : Nat) : Prop where
  desc : s.st.Pairwise (fun x y => y < x)
  lt : ∀ o ∈ s.st, o < k
  len : s.st.length ≤ 63
  pair : ∀ p ∈ s.out, p.1 < p.2 ∧ p.2 < k
  sort : s.out.Pairwise (fun x y => x.1 < y.1)
  off : ∀ p ∈ s.out, ∀ o ∈ s.st, o < p.1 ∨ p.2 < o
  apart : ∀ p ∈ s.out, ∀ q ∈ s.out, p ≠ q → p.2 ≠ q.2 ∧ ¬ (p.1 < q.1 ∧ q.1 < p.2 ∧ p.2 < q.2)
theorem BkOk.more {s : BkS} {k : Nat} (h : BkOk s k) {b : Bool} : BkOk { s with stop := b } (k + 1) :=
  ⟨h.desc, fun o ho => Nat.lt_succ_of_lt (h.lt o ho), h.len, fun p hp => ⟨(h.pair p hp).1, Nat.lt_succ_of_lt (h.pair p hp).2⟩, h.sort, h.off, h.apart⟩
theorem bk_ok : ∀ k, BkOk (bkA on kd mt k) k
  | 0 => ⟨by simp [bkA], by simp [bkA], by simp [bkA], by simp [bkA], by simp [bkA], by simp [bkA], by simp [bkA]⟩
  | k + 1 => by
    have h := bk_ok k
    rw [bkA]
    generalize bkA on kd mt k = s at h
    unfold bkStep
    split
    · exact h.more (b := s.stop)
    · split
      · split
        · exact h.more
        · rename_i hlen
          refine ⟨?_, ?_, by simp only [List.length_cons]; omega, fun p hp => ⟨(h.pair p hp).1, Nat.lt_succ_of_lt (h.pair p hp).2⟩, h.sort, ?_, h.apart⟩
          · rw [List.pairwise_cons]
            exact ⟨h.lt, h.desc⟩
          · intro o ho
            rcases List.mem_cons.1 ho with rfl | ho
            · omega
            · have := h.lt o ho; omega
          · intro p hp o ho
            rcases List.mem_cons.1 ho with rfl | ho
            · exact .inr (h.pair p hp).2
            · exact h.off p hp o ho
      · split
        · exact h.more (b := s.stop)
        · rename_i o st hpop
          obtain ⟨_, pre, hst⟩ := popTo_some hpop
          have hd := h.desc
          rw [hst, List.pairwise_append] at hd
          have hd2 := hd.2.1
          rw [List.pairwise_cons] at hd2
          have ho : o ∈ s.st := by rw [hst]; simp
          have hok := h.lt o ho
          have hsub : ∀ x ∈ st, x ∈ s.st := fun x hx => by rw [hst]; simp [hx]
          have hl : st.length ≤ s.st.length := by rw [hst]; simp; omega
          refine ⟨hd2.2, fun x hx => Nat.lt_succ_of_lt (h.lt x (hsub x hx)), Nat.le_trans hl h.len, ?_, ?_, ?_, ?_⟩
          · intro p hp
            rcases mem_insP.1 hp with rfl | hp
            · exact ⟨hok, Nat.lt_succ_self _⟩
            · exact ⟨(h.pair p hp).1, Nat.lt_succ_of_lt (h.pair p hp).2⟩
          · refine insP_sorted h.sort fun x hx e => ?_
            have := h.off x hx o ho
            have := (h.pair x hx).1
            simp only at e
            omega
          · intro p hp x hx
            rcases mem_insP.1 hp with rfl | hp
            · exact .inl (hd2.1 x hx)
            · exact h.off p hp x (hsub x hx)
          · intro p hp q hq hne
            rcases mem_insP.1 hp with rfl | hp
            · rcases mem_insP.1 hq with rfl | hq
              · exact absurd rfl hne
              · have := (h.pair q hq).2
                simp only
                omega
            · rcases mem_insP.1 hq with rfl | hq
              · have := (h.pair p hp).2
                have := h.off p hp o ho
                simp only
                omega
              · exact h.apart p hp q hq hne
/-- n opening ones, then n closing ones. -/
theorem bk_opens {n : Nat} (h1 : ∀ i, i < n → on i = true ∧ kd i = 1) : ∀ k, k ≤ n → k ≤ 63 → bkA on kd mt k = ⟨(List.range k).reverse, [], false⟩
  | 0, _, _ => rfl
  | k + 1, hk, h63 => by
    have h := h1 k (by omega)
    rw [bkA, bk_opens h1 k (by omega) (by omega), bkStep, if_neg (by rw [h.1, h.2]; simp), if_pos h.2, if_neg (by simp; omega), List.range_succ]
    simp
theorem bk_closes {n : Nat} (hn : n ≤ 63) (h1 : ∀ i, i < n → on i = true ∧ kd i = 1) (h2 : ∀ i, i < n → on (n + i) = true ∧ kd (n + i) = 2 ∧ ∀ o, o < n → mt o (n + i) = true) : ∀ k, k ≤ n → (bkA on kd mt (n + k)).st = (List.range (n - k)).reverse ∧ (bkA on kd mt (n + k)).out.length = k ∧ (bkA on kd mt (n + k)).stop = false
  | 0, _ => by rw [Nat.add_zero, bk_opens on kd mt h1 n (Nat.le_refl _) hn]; exact ⟨rfl, rfl, rfl⟩
  | k + 1, hk => by
    obtain ⟨i1, i2, i3⟩ := bk_closes hn h1 h2 k (by omega)
    obtain ⟨a, b, c⟩ := h2 k (by omega)
    obtain ⟨m, hm⟩ : ∃ m, n - k = m + 1 := ⟨n - (k + 1), by omega⟩
    have hst : (bkA on kd mt (n + k)).st = m :: (List.range m).reverse := by rw [i1, hm, List.range_succ]; simp
    have hpop : popTo (fun o => mt o (n + k)) (bkA on kd mt (n + k)).st = some (m, (List.range m).reverse) := by rw [hst, popTo, if_pos (c m (by omega))]
    rw [← Nat.add_assoc, bkA, bkStep, if_neg (by rw [a, b, i3]; simp), if_neg (by rw [b]; decide), hpop, show n - (k + 1) = m by omega]
    exact ⟨rfl, by simp only; rw [insP_len, i2], i3⟩
/-- One more than the stack holds: nothing is found. -/
theorem bk_over {n : Nat} (hn : 63 < n) (h1 : ∀ i, i < n → on i = true ∧ kd i = 1) : ∀ k, (bkA on kd mt (64 + k)).out = [] ∧ (bkA on kd mt (64 + k)).stop = true
  | 0 => by
    have h := h1 63 hn
    rw [show 64 + 0 = 63 + 1 from rfl, bkA, bk_opens on kd mt h1 63 (by omega) (by omega), bkStep, if_neg (by rw [h.1, h.2]; simp), if_pos h.2, if_pos (by simp)]
    exact ⟨rfl, rfl⟩
  | k + 1 => by
    obtain ⟨i1, i2⟩ := bk_over hn h1 k
    rw [← Nat.add_assoc, bkA, bkStep, if_pos (.inl i2)]
    exact ⟨i1, i2⟩
end
end Go.Proofs.YtpddjojgcenlkaaGreat
/- Pairs of brackets: their places are of the class that was asked. No function of the program. -/
namespace Go.Proofs.YtpddjojgcenlkaaGreat
open Go.RowKit

theorem bk_on (on : Nat → Bool) (kd : Nat → Int) (mt : Nat → Nat → Bool) : ∀ k, (∀ o ∈ (bkA on kd mt k).st, on o = true) ∧ ∀ p ∈ (bkA on kd mt k).out, on p.1 = true ∧ on p.2 = true
  | 0 => ⟨by simp [bkA], by simp [bkA]⟩
  | k + 1 => by
    obtain ⟨h1, h2⟩ := bk_on on kd mt k
    rw [bkA]
    generalize bkA on kd mt k = s at h1 h2
    unfold bkStep
    split
    · exact ⟨h1, h2⟩
    · rename_i hc
      have hk : on k = true := by
        cases h : on k with
        | true => rfl
        | false => exact absurd (.inr (.inl h)) hc
      split
      · split
        · exact ⟨h1, h2⟩
        · refine ⟨fun o ho => ?_, h2⟩
          rcases List.mem_cons.1 ho with rfl | ho
          · exact hk
          · exact h1 o ho
      · split
        · exact ⟨h1, h2⟩
        · rename_i o st hpop
          obtain ⟨_, pre, hst⟩ := popTo_some hpop
          refine ⟨fun x hx => h1 x (by rw [hst]; simp [hx]), fun p hp => ?_⟩
          rcases mem_insP.1 hp with rfl | hp
          · exact ⟨h1 o (by rw [hst]; simp), hk⟩
          · exact h2 p hp
end Go.Proofs.YtpddjojgcenlkaaGreat
/- Spans as data: what a span is, the cells of a slice of spans; no function of the program. -/
namespace Go.Proofs.YtpddjojgcenlkaaGreat
open Go.RowKit

abbrev Sp := Int × Int
def rightB (s : Sp) : Bool := decide (0 ≤ s.1 ∧ s.1 < s.2)
def sizeS (s : Sp) : Int := if rightB s = true then s.2 - s.1 else 0
def hasB (s : Sp) (at_ : Int) : Bool := decide (s.1 ≤ at_ ∧ at_ < s.2)
def encS (s : Sp) : List Value := [.int .i64 s.1, .int .i64 s.2]
def cellsS (l : List Sp) : List Value := l.flatMap encS
def valS (s : Sp) : Value := .agg #[.int .i64 s.1, .int .i64 s.2]
def Fit (x : Int) : Prop := -9223372036854775808 ≤ x ∧ x ≤ 9223372036854775807

theorem cellsS_len (l : List Sp) : (cellsS l).length = l.length * 2 := by
  induction l with
  | nil => rfl
  | cons s l ih =>
    show (encS s ++ cellsS l).length = _
    rw [List.length_append, ih, List.length_cons]
    simp only [encS, List.length_cons, List.length_nil]
    omega
theorem cellsS_at {l : List Sp} {k : Nat} {s : Sp} (h : l[k]? = some s) : (cellsS l)[k * 2]? = some (.int .i64 s.1) ∧ (cellsS l)[k * 2 + 1]? = some (.int .i64 s.2) := by
  induction l generalizing k with
  | nil => simp at h
  | cons t l ih =>
    have hc : cellsS (t :: l) = .int .i64 t.1 :: .int .i64 t.2 :: cellsS l := rfl
    cases k with
    | zero =>
      simp at h
      subst h
      exact ⟨rfl, rfl⟩
    | succ k =>
      have := ih (k := k) (by simpa using h)
      rw [hc]
      have e1 : (k + 1) * 2 = k * 2 + 1 + 1 := by omega
      have e2 : (k + 1) * 2 + 1 = (k * 2 + 1) + 1 + 1 := by omega
      rw [e2, e1]
      simpa using this

theorem addNext (a : Addr) (j i : Nat) : a.add (j + (i + 1)) = ⟨(a.add j).block, (a.add j).off + (i + 1), none⟩ := by
  unfold Addr.add
  by_cases hj : j = 0
  · subst hj; simp
  · simp [hj]; omega
/-- The two cells of a span in a slice, as the walk spells them. -/
theorem Rd.span {w : World} {A : Option Addr} {n k : Nat} {l : List Sp} {s : Sp} (hr : Rd w 2 A n (cellsS l)) (h : l[k]? = some s) : ∃ ad, A = some ad ∧ ad.block < w.heap.size ∧ w.cell? (ad.add (k * 2)) = some (.int .i64 s.1) ∧ w.cell? ⟨(ad.add (k * 2)).block, (ad.add (k * 2)).off + 1, none⟩ = some (.int .i64 s.2) := by
  have hlen : l.length * 2 = n * 2 := by rw [← cellsS_len]; exact hr.1
  have hk := (List.getElem?_eq_some_iff.1 h).1
  obtain ⟨ad, rfl, hb, hc⟩ := hr.2 (by omega)
  obtain ⟨e1, e2⟩ := cellsS_at h
  refine ⟨ad, rfl, hb, hc _ _ e1, ?_⟩
  have := hc _ _ e2
  rwa [addNext ad (k * 2) 0] at this

end Go.Proofs.YtpddjojgcenlkaaGreat
/- Pairs of codes as data: the lists of mirrors, brackets and codes alike; what the project and the reference tell of them, as functions; they are the same. -/
namespace Go.Proofs.YtpddjojgcenlkaaGreat
open Go.RowKit

def mirL : List Sp := [(40, 41), (60, 62), (91, 93), (123, 125), (171, 187), (3898, 3899), (8249, 8250), (8261, 8262), (8317, 8318), (8333, 8334), (8712, 8715), (8804, 8805), (8810, 8811), (9001, 9002), (10088, 10089), (10090, 10091), (10092, 10093), (10094, 10095), (10096, 10097), (10098, 10099), (10100, 10101), (10214, 10215), (10216, 10217), (10218, 10219), (10220, 10221), (10222, 10223), (10627, 10628), (10629, 10630), (10631, 10632), (10633, 10634), (10635, 10636), (10641, 10642), (12296, 12297), (12298, 12299), (12300, 12301), (12302, 12303), (12304, 12305), (12308, 12309), (12310, 12311), (12312, 12313), (12314, 12315), (65113, 65114), (65115, 65116), (65117, 65118), (65124, 65125), (65288, 65289), (65308, 65310), (65339, 65341), (65371, 65373), (65375, 65376), (65378, 65379)]
def braL : List Sp := [(40, 41), (91, 93), (123, 125), (3898, 3899), (8261, 8262), (8317, 8318), (8333, 8334), (9001, 9002), (10088, 10089), (10090, 10091), (10092, 10093), (10094, 10095), (10096, 10097), (10098, 10099), (10100, 10101), (10214, 10215), (10216, 10217), (10218, 10219), (10220, 10221), (10222, 10223), (10627, 10628), (10629, 10630), (10631, 10632), (10633, 10634), (10635, 10636), (10641, 10642), (12296, 12297), (12298, 12299), (12300, 12301), (12302, 12303), (12304, 12305), (12308, 12309), (12310, 12311), (12312, 12313), (12314, 12315), (65113, 65114), (65115, 65116), (65117, 65118), (65288, 65289), (65339, 65341), (65371, 65373), (65375, 65376), (65378, 65379)]
def aliL : List Sp := [(9001, 12296), (9002, 12297)]
/-- What find tells: the first pair that fits, and whether there is one. -/
def hitP (P : Sp → Bool) (l : List Sp) : Int × Int × Bool := match l.find? P with | some s => (s.1, s.2, true) | none => (0, 0, false)
def opP (c : Int) (s : Sp) : Bool := decide (s.1 = c)
def clP (c : Int) (s : Sp) : Bool := decide (s.2 = c)
def mirF (c : Int) : Int := if (hitP (opP c) mirL).2.2 = true then (hitP (opP c) mirL).2.1 else if (hitP (clP c) mirL).2.2 = true then (hitP (clP c) mirL).1 else c
def canF (c : Int) : Int := if (hitP (opP c) aliL).2.2 = true then (hitP (opP c) aliL).2.1 else c
def braF (c : Int) : Int × Int := if (hitP (opP c) braL).2.2 = true then (1, canF (hitP (opP c) braL).2.1) else if (hitP (clP c) braL).2.2 = true then (2, canF c) else (0, 0)
def bmF (a b : Int) : Bool := decide ((braF a).1 = 1 ∧ (braF b).1 = 2 ∧ (braF a).2 = (braF b).2)
def mirR (c : Int) : List Sp → Int
  | [] => c
  | s :: l => if s.1 = c then s.2 else if s.2 = c then s.1 else mirR c l
def canR (c : Int) : List Sp → Int
  | [] => c
  | s :: l => if s.1 = c then s.2 else canR c l
def braR (c : Int) : List Sp → Int × Int
  | [] => (0, 0)
  | s :: l => if s.1 = c then (1, canR s.2 aliL) else if s.2 = c then (2, canR c aliL) else braR c l

/-- The codes of pairs. -/
def codesP (l : List Sp) : List Int := l.flatMap fun s => [s.1, s.2]
theorem apartP {c : Int} {l : List Sp} (h : c ∉ codesP l) {s : Sp} (hs : s ∈ l) : s.1 ≠ c ∧ s.2 ≠ c := by
  refine ⟨fun e => h ?_, fun e => h ?_⟩
  · exact List.mem_flatMap.2 ⟨s, hs, by simp [e]⟩
  · exact List.mem_flatMap.2 ⟨s, hs, by simp [e]⟩
theorem hit_none {P : Sp → Bool} {l : List Sp} (h : ∀ s ∈ l, P s = false) : hitP P l = (0, 0, false) := by
  unfold hitP
  rw [List.find?_eq_none.2 (fun s hs => by rw [h s hs]; decide)]
theorem op_apart {c : Int} {l : List Sp} (h : c ∉ codesP l) : hitP (opP c) l = (0, 0, false) := hit_none fun s hs => by simp [opP, (apartP h hs).1]
theorem cl_apart {c : Int} {l : List Sp} (h : c ∉ codesP l) : hitP (clP c) l = (0, 0, false) := hit_none fun s hs => by simp [clP, (apartP h hs).2]
theorem mirR_apart {c : Int} {l : List Sp} (h : ∀ s ∈ l, s.1 ≠ c ∧ s.2 ≠ c) : mirR c l = c := by
  induction l with
  | nil => rfl
  | cons s l ih =>
    have := h s (by simp)
    rw [mirR, if_neg this.1, if_neg this.2]
    exact ih fun t ht => h t (by simp [ht])
theorem canR_apart {c : Int} {l : List Sp} (h : ∀ s ∈ l, s.1 ≠ c ∧ s.2 ≠ c) : canR c l = c := by
  induction l with
  | nil => rfl
  | cons s l ih =>
    have := h s (by simp)
    rw [canR, if_neg this.1]
    exact ih fun t ht => h t (by simp [ht])
theorem braR_apart {c : Int} {l : List Sp} (h : ∀ s ∈ l, s.1 ≠ c ∧ s.2 ≠ c) : braR c l = (0, 0) := by
  induction l with
  | nil => rfl
  | cons s l ih =>
    have := h s (by simp)
    rw [braR, if_neg this.1, if_neg this.2]
    exact ih fun t ht => h t (by simp [ht])
theorem byCodes {α : Type} [DecidableEq α] (l : List Sp) (f g : Int → α) (hin : ((codesP l).all fun c => decide (f c = g c)) = true) (hout : ∀ c, c ∉ codesP l → f c = g c) (c : Int) : f c = g c := by
  by_cases h : c ∈ codesP l
  · simpa using List.all_eq_true.1 hin c h
  · exact hout c h
theorem canF_apart {c : Int} (h : c ∉ codesP aliL) : canF c = c := by rw [canF, op_apart h]; rfl
theorem mirF_apart {c : Int} (h : c ∉ codesP mirL) : mirF c = c := by rw [mirF, op_apart h, cl_apart h]; rfl
theorem braF_apart {c : Int} (h : c ∉ codesP braL) : braF c = (0, 0) := by rw [braF, op_apart h, cl_apart h]; rfl
theorem canF_eq (c : Int) : canF c = canR c aliL := byCodes aliL canF (fun c => canR c aliL) (by decide +kernel) (fun c h => by rw [canF_apart h, canR_apart fun s hs => apartP h hs]) c
theorem mirF_eq (c : Int) : mirF c = mirR c mirL := byCodes mirL mirF (fun c => mirR c mirL) (by decide +kernel) (fun c h => by rw [mirF_apart h, mirR_apart fun s hs => apartP h hs]) c
theorem braF_eq (c : Int) : braF c = braR c braL := byCodes braL braF (fun c => braR c braL) (by decide +kernel) (fun c h => by rw [braF_apart h, braR_apart fun s hs => apartP h hs]) c
theorem mirF_back (c : Int) : mirF (mirF c) = c := byCodes mirL (fun c => mirF (mirF c)) id (by decide +kernel) (fun c h => by simp only [mirF_apart h, id]) c
theorem canF_back (c : Int) : canF (canF c) = canF c := byCodes aliL (fun c => canF (canF c)) canF (by decide +kernel) (fun c h => by simp only [canF_apart h]) c
theorem bmF_iff (a b : Int) : bmF a b = true ↔ ((braF a).1 = 1 ∧ (braF b).1 = 2 ∧ (braF a).2 = (braF b).2) := by simp [bmF]
theorem bmF_back (a b : Int) (h : bmF a b = true) : (braF a).1 = 1 ∧ (braF b).1 = 2 ∧ bmF b a = false := by
  have h1 := (bmF_iff a b).1 h
  refine ⟨h1.1, h1.2.1, ?_⟩
  rw [Bool.eq_false_iff]
  intro h2
  have := ((bmF_iff b a).1 h2).1
  rw [h1.2.1] at this
  exact absurd this (by decide)
theorem bmF_of {a b p v p' v' : Int} (h1 : braF a = (p, v)) (h2 : braF b = (p', v')) : bmF a b = decide (p = 1 ∧ p' = 2 ∧ v = v') := by unfold bmF; rw [h1, h2]
end Go.Proofs.YtpddjojgcenlkaaGreat
/- The pairs of brackets of codes and their classes; numbers at places. No function of the program. -/
namespace Go.Proofs.YtpddjojgcenlkaaGreat
open Go.RowKit

/-- The numbers at some places. -/
def atF (l : List Int) (P : List Nat) : List Int := P.map fun i => l.getD i 0
theorem atF_len (l : List Int) (P : List Nat) : (atF l P).length = P.length := by simp [atF]
theorem atF_at {l : List Int} {P : List Nat} {k i : Nat} (h : P[k]? = some i) : (atF l P)[k]? = some (l.getD i 0) := by unfold atF; rw [List.getElem?_map, h]; rfl
/-- The pairs of brackets of codes and their classes. -/
def bkF (cs l : List Int) : List (Nat × Nat) := if cs.length = l.length then (bkA (fun i => decide (l.getD i 0 = 13)) (fun i => (braF (cs.getD i 0)).1) (fun o i => bmF (cs.getD o 0) (cs.getD i 0)) cs.length).out else []
theorem bkF_on {cs l : List Int} {p : Nat × Nat} (h : p ∈ bkF cs l) : l.getD p.1 0 = 13 ∧ l.getD p.2 0 = 13 := by
  unfold bkF at h
  split at h
  · obtain ⟨h1, h2⟩ := (bk_on _ _ _ cs.length).2 p h
    exact ⟨of_decide_eq_true h1, of_decide_eq_true h2⟩
  · cases h
end Go.Proofs.YtpddjojgcenlkaaGreat
/- More words for memory: make with a length and a capacity; values in an aggregate. -/
namespace Go.Proofs.YtpddjojgcenlkaaGreat
open Go.RowKit

/-- make([]T, l, c), T of one cell. -/
theorem wpList_mkN {P : Program} {w : World} {ops : Array Oper} {rest : List Oper} {o : Oper} {a : Act} {Q : Exit → Act → World → Prop}
    (hg : o.guard = none) (lo co : Operand) (t : TypeId) (hop : o.op = Op.makeSlice t lo co)
    {base : Nat} {e : TypeId} {bytes : Nat} {z : Value} (ht : P.underlying t = some (.slice e)) (hin : (P.info? e).map (fun i => (i.zero, i.size, i.bytes)) = some (some z, 1, bytes)) (hz : z.cells = #[z])
    {kl kc : IntKind} (L C : Int) (l c : Nat) (hl : a.eval lo = .int kl L) (hc : a.eval co = .int kc C) (hL : L = (l : Int)) (hC : C = (c : Int)) (hlc : l ≤ c) (b2 : bytes * c ≤ 281474976710656) (b3 : c ≤ maxLen) (b4 : base ≤ w.heap.size)
    (hK : ∀ w', w'.ownsRow base e 1 (.slice (some ⟨w.heap.size, 0, none⟩) l c) l (List.replicate l z) → w.grownBy w' none → wpList P ops Q rest (a.put o.dst (.slice (some ⟨w.heap.size, 0, none⟩) l c)) w') :
    wpList P ops Q (o :: rest) a w := by
  obtain ⟨i, h1, h2, h3, h4⟩ := info_parts hin
  subst hL hC
  have h63 : ((c : Nat) : Int) ≤ 9223372036854775807 := by unfold maxLen at b3; omega
  have hb' : (i.bytes : Int) * (c : Int) ≤ 281474976710656 := by
    have h : ((i.bytes * c : Nat) : Int) ≤ 281474976710656 := by rw [h4]; omega
    rwa [Int.natCast_mul] at h
  have hr := run_make (P := P) w t e i z ht h1 h2 kl kc l c (by omega) (by omega) hb' h63
  simp only [Int.toNat_natCast, h3, Nat.mul_one, hz] at hr
  have hown : (w.alloc (.cells (madeCells #[z] c) e)).ownsRow base e 1 (.slice (some ⟨w.heap.size, 0, none⟩) l c) l (List.replicate l z) := by
    refine ⟨by simp, .inr ⟨w.heap.size, c, madeCells #[z] c, rfl, b4, heap_alloc_new w _, hlc, b3, by rw [size_madeCells]; omega, ?_⟩⟩
    rw [toList_madeCells_one, Nat.mul_one, List.take_replicate]
    congr 1
    omega
  refine wpList_plain hg fun K hK' => ?_
  unfold Oper.wp
  simp [execOp, hop, hl, hc, hr, Result.andThen]
  exact hK' _ _ (hK _ hown (World.grownBy_alloc w _ none))

/-- A row of the call's own with at least one element: where it lies. -/
theorem own_at {w : World} {base : Nat} {e : TypeId} {v : Value} {n : Nat} {xs : List Value} (h : w.ownsRow base e 1 v n xs) (hn : 0 < n) :
    ∃ g c, v = .slice (some ⟨g, 0, none⟩) n c ∧ n ≤ c ∧ g < w.heap.size ∧ base ≤ g ∧ ∀ j u, xs[j]? = some u → w.cell? ⟨g, j, none⟩ = some u := by
  obtain ⟨g, c, hv, hbg, hlt⟩ := h.form hn
  obtain ⟨_, _, e, hnc⟩ := own_form h
  subst hv
  injection e with _ _ e
  subst e
  refine ⟨g, c, rfl, hnc, hlt, hbg, fun j u hj => ?_⟩
  have := h.cells (g := g) rfl j u hj
  rwa [addNew] at this
/-- What is owned from a later block on is owned from an earlier one on. -/
theorem own_base {w : World} {base b' : Nat} {e : TypeId} {size : Nat} {v : Value} {n : Nat} {xs : List Value} (h : w.ownsRow base e size v n xs) (hb : b' ≤ base) : w.ownsRow b' e size v n xs := by
  obtain ⟨h1, h2⟩ := h
  refine ⟨h1, ?_⟩
  rcases h2 with h2 | ⟨g, cap, cur, hv, hg, r⟩
  · exact .inl h2
  · exact .inr ⟨g, cap, cur, hv, Nat.le_trans hb hg, r⟩
/-- A block of the call's own that no row is, behind an append or a make. -/
theorem blk_grown {w w' : World} {b : Nat} {o : Obj} {row : Option Nat} (h : w.heap[b]? = some o) (hg : w.grownBy w' row) (hne : row ≠ some b) : w'.heap[b]? = some o :=
  (hg.block b (by
    rcases Nat.lt_or_ge b w.heap.size with h' | h'
    · exact h'
    · simp [Array.getElem?_eq_none h'] at h) (fun e => hne e.symm)).trans h
theorem blk_alloc {w : World} {b : Nat} {o : Obj} (h : w.heap[b]? = some o) (o' : Obj) : (w.alloc o').heap[b]? = some o :=
  blk_grown h (World.grownBy_alloc w _ none) (by simp)
/-- A callee that leaves the world alone, inside a quiet region. -/
theorem quiet_eq {P : Program} {f : FuncId} {args : Array Value} {w : World} {n : Nat} {v : Value}
    (h : Calls P f args (w.drewN n) fun e w' => e = .returned v ∧ w.drewN n = w') : Calls P f args (w.drewN n) fun e w'' => e = .returned v ∧ ∃ m, w'' = w.drewN m :=
  Calls.quiet_of_same (h.mono fun _ _ ⟨a, b⟩ => ⟨a, b.symm⟩)
theorem toList_madeSame (z : Array Value) (z0 : Value) (h0 : 0 < z.size) (hz : ∀ j, j < z.size → z[j]! = z0) (n : Nat) : (madeCells z n).toList = List.replicate n z0 := by
  rw [List.eq_replicate_iff]
  refine ⟨by simp [madeCells], fun b hb => ?_⟩
  simp only [madeCells, Array.toList_map, List.mem_map] at hb
  obtain ⟨j, _, rfl⟩ := hb
  exact hz _ (Nat.mod_lt _ h0)
/-- make([]T, n), T a struct whose cells are all the same at zero. -/
theorem wpList_mkZ {P : Program} {w : World} {ops : Array Oper} {rest : List Oper} {o : Oper} {a : Act} {Q : Exit → Act → World → Prop}
    (hg : o.guard = none) (l c : Operand) (t : TypeId) (hop : o.op = Op.makeSlice t l c)
    {base : Nat} {e : TypeId} {size bytes : Nat} {z z0 : Value} (ht : P.underlying t = some (.slice e)) (hin : (P.info? e).map (fun i => (i.zero, i.size, i.bytes)) = some (some z, size, bytes)) (h0 : 0 < z.cells.size) (hz : ∀ j, j < z.cells.size → z.cells[j]! = z0)
    {kl kc : IntKind} (L C : Int) (n : Nat) (hl : a.eval l = .int kl L) (hc : a.eval c = .int kc C) (hL : L = (n : Int)) (hC : C = (n : Int)) (b2 : bytes * n ≤ 281474976710656) (b3 : n ≤ maxLen) (b4 : base ≤ w.heap.size)
    (hK : ∀ w', w'.ownsRow base e size (.slice (some ⟨w.heap.size, 0, none⟩) n n) n (List.replicate (n * size) z0) → w.grownBy w' none → wpList P ops Q rest (a.put o.dst (.slice (some ⟨w.heap.size, 0, none⟩) n n)) w') :
    wpList P ops Q (o :: rest) a w := by
  obtain ⟨i, h1, h2, h3, h4⟩ := info_parts hin
  refine wpList_make_full w hg l c t hop base e i z size ht h1 h2 h3 kl kc L C n hl hc hL hC (by rw [h4]; exact b2) b3 b4 (fun w' a1 a2 => hK w' ?_ a2)
  rwa [toList_madeSame _ z0 h0 hz] at a1
/-- Two cells next to each other, stored into a row of the call's own. -/
theorem own_store2 {w : World} {base : Nat} {e : TypeId} {size g n cap : Nat} {xs : List Value} (h : w.ownsRow base e size (.slice (some ⟨g, 0, none⟩) n cap) n xs) (j : Nat) (u v : Value) :
    ((w.setCell ⟨g, j, none⟩ u).setCell ⟨g, j + 1, none⟩ v).ownsRow base e size (.slice (some ⟨g, 0, none⟩) n cap) n ((xs.set j u).set (j + 1) v) :=
  ((h.stored j u).1.stored (j + 1) v).1
/-- A cell of a row of the call's own is there and may be written. -/
theorem own_slot {w : World} {base : Nat} {e : TypeId} {size g n cap : Nat} {xs : List Value} (h : w.ownsRow base e size (.slice (some ⟨g, 0, none⟩) n cap) n xs) {j : Nat} (hj : j < n * size) :
    (∃ u, w.cell? ⟨g, j, none⟩ = some u) ∧ w.frozen? ⟨g, j, none⟩ = false :=
  ⟨⟨xs[j]'(by rw [h.1]; exact hj), by rw [h.cellAt j hj, List.getElem?_eq_getElem]⟩, h.frozenAt j⟩
end Go.Proofs.YtpddjojgcenlkaaGreat
/- A stack of places as a row: the first one first; a row's head. No function of the program. -/
namespace Go.Proofs.YtpddjojgcenlkaaGreat
open Go.RowKit

def intV (x : Int) : Value := .int .i64 x
theorem intSliceM : SliceOf Tryz.prog 22 3 1 8 := .mk_ (z := .int .i64 0) Tryz.underlying22 (by kernel_rfl) rfl
/-- The stack, as the program lays it: the first one first. -/
def stkL (s : List Nat) : List Int := s.reverse.map fun i => ((i : Nat) : Int)
theorem stkL_len (s : List Nat) : (stkL s).length = s.length := by simp [stkL]
theorem stkL_push (k : Nat) (s : List Nat) : stkL (k :: s) = stkL s ++ [((k : Nat) : Int)] := by simp [stkL]
theorem stkL_top (t : Nat) (r : List Nat) : (stkL (t :: r))[r.length]? = some ((t : Nat) : Int) := by
  rw [stkL_push, List.getElem?_append_right (by rw [stkL_len]; exact Nat.le_refl _), stkL_len, Nat.sub_self]
  rfl
theorem stkL_take (t : Nat) (r : List Nat) : (stkL (t :: r)).take r.length = stkL r := by
  rw [stkL_push, List.take_append_of_le_length (by rw [stkL_len]; exact Nat.le_refl _), ← stkL_len, List.take_length]
theorem headM {w : World} {base : Nat} {e : TypeId} {size g n m cap : Nat} {xs : List Value} (h : w.ownsRow base e size (.slice (some ⟨g, 0, none⟩) n cap) n xs) (hm : m ≤ n) : w.ownsRow base e size (.slice (some ⟨g, 0, none⟩) m cap) m (xs.take (m * size)) := by
  obtain ⟨h1, h2⟩ := h
  refine ⟨by rw [List.length_take, h1]; exact Nat.min_eq_left (Nat.mul_le_mul_right _ hm), ?_⟩
  rcases h2 with ⟨h', _⟩ | ⟨g', cap', cur, h', hb, hg, hnc, hcm, hcs, htake⟩
  · simp at h'
  · simp only [Value.slice.injEq, Option.some.injEq, Addr.mk.injEq, and_true, true_and] at h'
    obtain ⟨rfl, rfl⟩ := h'
    refine .inr ⟨g, cap, cur, rfl, hb, hg, Nat.le_trans hm hnc, hcm, hcs, ?_⟩
    rw [← htake, List.take_take, Nat.min_eq_left (Nat.mul_le_mul_right _ hm)]
end Go.Proofs.YtpddjojgcenlkaaGreat
/- append of whatever reads as cells onto a row of the call's own, at a step of a region that draws its order. -/
namespace Go.Proofs.YtpddjojgcenlkaaGreat
open Go.RowKit

theorem run_appR {P : Program} (w : World) (t ty : TypeId) {base : Nat} {e : TypeId} {size bytes : Nat} (S : SliceOf P t e size bytes) (hsz : 0 < size)
    (v : Value) (n : Nat) (xs : List Value) (hown : w.ownsRow base e size v n xs)
    (A : Option Addr) (m c : Nat) (news : List Value) (hr : Rd w size A m news) (h1 : ∀ u ∈ news, u.oneCell' = true)
    (hbytes : (n + m) * bytes ≤ 140737488355328) (h63 : n + m ≤ maxLen) (hbase : base ≤ w.heap.size) :
    ∃ v' w', (Builtin.append_ #[t, t] ty #[v, .slice A m c]).run P w = .ok v' w' ∧ w'.ownsRow base e size v' (n + m) (xs ++ news) ∧ w.grownBy w' v.ownBlock ∧ (v'.ownBlock = v.ownBlock ∨ v'.ownBlock = some w.heap.size) := by
  rcases A with _ | ad
  · have hm : m = 0 := by
      rcases Nat.eq_zero_or_pos m with h0 | h0
      · exact h0
      · obtain ⟨_, e, _⟩ := hr.2 h0
        cases e
    subst hm
    have hn : news = [] := List.eq_nil_of_length_eq_zero (by simpa using hr.1)
    subst hn
    exact ⟨v, w, run_app_nil w base t ty e size bytes S v n xs hown c, by simpa using hown, World.grownBy.refl w _, .inl rfl⟩
  · obtain ⟨ht, i, z, hi, hz, hs1, hb1, hzs⟩ := S
    obtain ⟨v', w', hrun, h2, h3, _, h5⟩ := run_append_own_at (P := P) w base t ty e i z size bytes ht hi hz hs1 hb1 hzs hsz v n xs hown ad m c news hr.1 hr.news h1 h63 hbytes hbase
    exact ⟨v', w', hrun, h2, h3, h5⟩

theorem step_appR {P : Program} {w : World} {ops : Array Oper} {o : Oper} {a : Act} {K : Act → World → Prop} {Q : Exit → Act → World → Prop} {E : Prop} (hgd : o.guard = none) (s x : Operand) (t : TypeId)
    (ho : o.op = .call { callee := .builtin .append, args := #[s, x], argTypes := #[t, t] })
    {base : Nat} {e : TypeId} {size bytes : Nat} (S : SliceOf P t e size bytes) (hsz : 0 < size)
    (v : Value) (n : Nat) (xs : List Value) (hs : a.eval s = v) (hown : w.ownsRow base e size v n xs)
    (A : Option Addr) (m c : Nat) (news : List Value) (hx : a.eval x = .slice A m c) (hr : Rd w size A m news) (h1 : ∀ u ∈ news, u.oneCell' = true)
    (hbytes : (n + m) * bytes ≤ 140737488355328) (h63 : n + m ≤ maxLen) (hbase : base ≤ w.heap.size) (H : Nat) (hH : w.heap.size = H)
    (h : ∀ v' w', w'.ownsRow base e size v' (n + m) (xs ++ news) → w.grownBy w' v.ownBlock → (v'.ownBlock = v.ownBlock ∨ v'.ownBlock = some H) → K (a.put o.dst v') w') :
    if Region.wanted o (yielded ops a.tmps) = true then Oper.wp P o a w K Q else E := by
  have hw : Region.wanted o (yielded ops a.tmps) = true := by simp [Region.wanted, hgd]
  rw [if_pos hw]
  obtain ⟨v', w', hrun, h2, h3, h5⟩ := run_appR (P := P) w t o.type S hsz v n xs hown A m c news hr h1 hbytes h63 hbase
  unfold Oper.wp execOp
  simp only [ho, resolve, invoke, builtin, Sem.run_bind, Sem.run_pure, Result.andThen_ok, List.map_toArray, List.map_cons, List.map_nil, hs, hx, hrun]
  exact h v' w' h2 h3 (by rw [← hH]; exact h5)
theorem own_below {w w' : World} {base : Nat} {e : TypeId} {size n : Nat} {v : Value} {xs : List Value} (h : w.ownsRow base e size v n xs) (hb : Below w.heap.size w w') : w'.ownsRow base e size v n xs := by
  rcases hv : v.ownBlock with _ | g
  · exact h.kept (row := none) ⟨hb.os, hb.tape, hb.output, hb.size, fun k hk _ => hb.block k hk⟩ (.inl hv)
  · exact h.kept (row := none) ⟨hb.os, hb.tape, hb.output, hb.size, fun k hk _ => hb.block k hk⟩ (.inr (by rw [hv]; exact fun e => by cases e))
theorem below_of_drew {w w' : World} (h : Below w.drew.heap.size w.drew w') : Below w.heap.size w w' := ⟨h.os, h.tape, h.output, h.size, h.block⟩
theorem grown_of_below' {w w' : World} (row : Option Nat) (hb : Below w.heap.size w w') : w.grownBy w' row := ⟨hb.os, hb.tape, hb.output, hb.size, fun k hk _ => hb.block k hk⟩
theorem grown_set {a w : World} {g : Nat} (h : a.grownBy w (some g)) (j : Nat) (u : Value) : a.grownBy (w.setCell ⟨g, j, none⟩ u) (some g) :=
  ⟨h.os, h.tape, h.output, by simpa [World.setCell] using h.size, fun i hi hne => (Below.heap_setCell w ⟨g, j, none⟩ u i (fun e => hne (by rw [e]))).trans (h.block i hi hne)⟩
/-- Four cells next to each other, stored into a row of the call's own. -/
theorem own_store4 {w : World} {base : Nat} {e : TypeId} {size g n cap : Nat} {xs : List Value} (h : w.ownsRow base e size (.slice (some ⟨g, 0, none⟩) n cap) n xs) (j : Nat) (a b c d : Value) :
    ((((w.setCell ⟨g, j, none⟩ a).setCell ⟨g, j + 1, none⟩ b).setCell ⟨g, j + 2, none⟩ c).setCell ⟨g, j + 3, none⟩ d).ownsRow base e size (.slice (some ⟨g, 0, none⟩) n cap) n ((((xs.set j a).set (j + 1) b).set (j + 2) c).set (j + 3) d) :=
  ((((h.stored j a).1.stored (j + 1) b).1.stored (j + 2) c).1.stored (j + 3) d).1
theorem rd_blk {w : World} {b m : Nat} {cs : List Value} {t : TypeId} (size : Nat) (h : w.heap[b]? = some (.cells cs.toArray t (0, 0))) (hl : cs.length = m * size) : Rd w size (some ⟨b, 0, none⟩) m cs :=
  ⟨hl, fun _ => ⟨_, rfl, (Array.getElem?_eq_some_iff.1 h).1, World.news_of_block (cs := cs.toArray) (fr := (0, 0)) h⟩⟩
end Go.Proofs.YtpddjojgcenlkaaGreat
/- neutral's Neutral, odd, above, Implicit, pick, walked. -/
namespace Go.Proofs.YtpddjojgcenlkaaGreat
open Go.RowKit

set_option maxRecDepth 100000 in
theorem nuNeu_10 (w : World) : Calls Tryz.prog 86 #[.int .i64 10] w fun e w' => e = .returned (.bool true) ∧ w = w' := by
  go_enter Tryz.func86, Tryz.ntmps86
  go_wp2; go_ret; exact ⟨rfl, rfl⟩
set_option maxRecDepth 100000 in
theorem nuNeu_11 (w : World) : Calls Tryz.prog 86 #[.int .i64 11] w fun e w' => e = .returned (.bool true) ∧ w = w' := by
  go_enter Tryz.func86, Tryz.ntmps86
  go_wp2; go_ret; exact ⟨rfl, rfl⟩
set_option maxRecDepth 100000 in
theorem nuNeu_12 (w : World) : Calls Tryz.prog 86 #[.int .i64 12] w fun e w' => e = .returned (.bool true) ∧ w = w' := by
  go_enter Tryz.func86, Tryz.ntmps86
  go_wp2; go_ret; exact ⟨rfl, rfl⟩
set_option maxRecDepth 100000 in
theorem nuNeu_13 (w : World) : Calls Tryz.prog 86 #[.int .i64 13] w fun e w' => e = .returned (.bool true) ∧ w = w' := by
  go_enter Tryz.func86, Tryz.ntmps86
  go_wp2; go_ret; exact ⟨rfl, rfl⟩
set_option maxRecDepth 100000 in
theorem nuNeu_19 (w : World) : Calls Tryz.prog 86 #[.int .i64 19] w fun e w' => e = .returned (.bool true) ∧ w = w' := by
  go_enter Tryz.func86, Tryz.ntmps86
  go_wp2; go_ret; exact ⟨rfl, rfl⟩
set_option maxRecDepth 100000 in
theorem nuNeu_20 (w : World) : Calls Tryz.prog 86 #[.int .i64 20] w fun e w' => e = .returned (.bool true) ∧ w = w' := by
  go_enter Tryz.func86, Tryz.ntmps86
  go_wp2; go_ret; exact ⟨rfl, rfl⟩
set_option maxRecDepth 100000 in
theorem nuNeu_21 (w : World) : Calls Tryz.prog 86 #[.int .i64 21] w fun e w' => e = .returned (.bool true) ∧ w = w' := by
  go_enter Tryz.func86, Tryz.ntmps86
  go_wp2; go_ret; exact ⟨rfl, rfl⟩
set_option maxRecDepth 100000 in
theorem nuNeu_22 (w : World) : Calls Tryz.prog 86 #[.int .i64 22] w fun e w' => e = .returned (.bool true) ∧ w = w' := by
  go_enter Tryz.func86, Tryz.ntmps86
  go_wp2; go_ret; exact ⟨rfl, rfl⟩
set_option maxRecDepth 100000 in
theorem nuNeu_any (x : Int) (b : Bool) (hb : neuB x = b) (w : World) : Calls Tryz.prog 86 #[.int .i64 x] w fun e w' => e = .returned (.bool b) ∧ w = w' := by
  by_cases h : x = 10 ∨ x = 11 ∨ x = 12 ∨ x = 13 ∨ x = 19 ∨ x = 20 ∨ x = 21 ∨ x = 22
  · have hbt : b = true := by
      rw [← hb]
      rcases h with rfl | rfl | rfl | rfl | rfl | rfl | rfl | rfl <;> rfl
    subst hbt
    rcases h with rfl | rfl | rfl | rfl | rfl | rfl | rfl | rfl
    · exact nuNeu_10 w
    · exact nuNeu_11 w
    · exact nuNeu_12 w
    · exact nuNeu_13 w
    · exact nuNeu_19 w
    · exact nuNeu_20 w
    · exact nuNeu_21 w
    · exact nuNeu_22 w
  · have hbf : b = false := by
      rw [← hb]
      unfold neuB
      simp
      omega
    subst hbf
    have g10 : (x == 10) = false := by simp; omega
    have g11 : (x == 11) = false := by simp; omega
    have g12 : (x == 12) = false := by simp; omega
    have g13 : (x == 13) = false := by simp; omega
    have g19 : (x == 19) = false := by simp; omega
    have g20 : (x == 20) = false := by simp; omega
    have g21 : (x == 21) = false := by simp; omega
    have g22 : (x == 22) = false := by simp; omega
    clear h hb
    go_enter Tryz.func86, Tryz.ntmps86
    go_wp2; go_ret; exact ⟨rfl, rfl⟩
set_option maxRecDepth 100000 in
theorem nuOdd_any (n y : Int) (hy : n % 2 = y) (w : World) : Calls Tryz.prog 36 #[.int .i64 n] w fun e w' => e = .returned (.bool (y == 1)) ∧ w = w' := by
  have hbit : bits .and .i64 n 1 = y := by rw [and1_i64, hy]
  clear hy
  go_enter Tryz.func36, Tryz.ntmps36
  go_wp2
  go_ret
  exact ⟨rfl, rfl⟩
/-- By how much a class lies above a level. -/
def abF (c level : Int) : Int := if level % 2 = 0 then (if c = 1 then 1 else if c = 3 ∨ c = 6 then 2 else 0) else (if c = 0 ∨ c = 3 ∨ c = 6 then 1 else 0)
theorem imp_ab (c level : Int) : impF c level = level + abF c level := by
  unfold impF abF
  repeat' split
  all_goals omega
theorem ab_in (c level : Int) : 0 ≤ abF c level ∧ abF c level ≤ 2 := by
  unfold abF
  repeat' split
  all_goals omega
set_option maxRecDepth 100000 in
theorem nuAbove_any (c level v : Int) (hv : abF c level = v) (w : World) : Calls Tryz.prog 21 #[.int .i64 c, .int .i64 level] w fun e w' => e = .returned (.int .i64 v) ∧ w = w' := by
  unfold abF at hv
  obtain ⟨y, hy⟩ : ∃ y, level % 2 = y := ⟨_, rfl⟩
  have HO := Lib.hid (fun W => nuOdd_any level y hy W)
  have hy2 : y = 0 ∨ y = 1 := by omega
  rw [hy] at hv
  clear hy
  rcases hy2 with h0 | h0
  · subst h0
    rw [if_pos (by omega)] at hv
    by_cases h : c = 0 ∨ c = 1 ∨ c = 3 ∨ c = 6
    · rcases h with rfl | rfl | rfl | rfl
      · obtain rfl : v = 0 := by simpa using hv.symm
        go_enter Tryz.func21, Tryz.ntmps21
        go_wp2_with (first
          | (go_at_call 36; refine (HO.out _).mono ?_; rintro e w1 ⟨rfl, rfl⟩)
          | fail)
        go_ret
        exact ⟨rfl, rfl⟩
      · obtain rfl : v = 1 := by simpa using hv.symm
        go_enter Tryz.func21, Tryz.ntmps21
        go_wp2_with (first
          | (go_at_call 36; refine (HO.out _).mono ?_; rintro e w1 ⟨rfl, rfl⟩)
          | fail)
        go_ret
        exact ⟨rfl, rfl⟩
      · obtain rfl : v = 2 := by simpa using hv.symm
        go_enter Tryz.func21, Tryz.ntmps21
        go_wp2_with (first
          | (go_at_call 36; refine (HO.out _).mono ?_; rintro e w1 ⟨rfl, rfl⟩)
          | fail)
        go_ret
        exact ⟨rfl, rfl⟩
      · obtain rfl : v = 2 := by simpa using hv.symm
        go_enter Tryz.func21, Tryz.ntmps21
        go_wp2_with (first
          | (go_at_call 36; refine (HO.out _).mono ?_; rintro e w1 ⟨rfl, rfl⟩)
          | fail)
        go_ret
        exact ⟨rfl, rfl⟩
    · obtain rfl : v = 0 := by
        rw [← hv]
        repeat rw [if_neg (by omega)]
      have g0 : (c == 0) = false := by simp; omega
      have g1 : (c == 1) = false := by simp; omega
      have g3 : (c != 3) = true := by simp; omega
      have g6 : (c != 6) = true := by simp; omega
      clear h
      go_enter Tryz.func21, Tryz.ntmps21
      go_wp2_with (first
        | (go_at_call 36; refine (HO.out _).mono ?_; rintro e w1 ⟨rfl, rfl⟩)
        | fail)
      go_ret
      exact ⟨rfl, rfl⟩
  · subst h0
    rw [if_neg (by omega)] at hv
    by_cases h : c = 0 ∨ c = 1 ∨ c = 3 ∨ c = 6
    · rcases h with rfl | rfl | rfl | rfl
      · obtain rfl : v = 1 := by simpa using hv.symm
        go_enter Tryz.func21, Tryz.ntmps21
        go_wp2_with (first
          | (go_at_call 36; refine (HO.out _).mono ?_; rintro e w1 ⟨rfl, rfl⟩)
          | fail)
        go_ret
        exact ⟨rfl, rfl⟩
      · obtain rfl : v = 0 := by simpa using hv.symm
        go_enter Tryz.func21, Tryz.ntmps21
        go_wp2_with (first
          | (go_at_call 36; refine (HO.out _).mono ?_; rintro e w1 ⟨rfl, rfl⟩)
          | fail)
        go_ret
        exact ⟨rfl, rfl⟩
      · obtain rfl : v = 1 := by simpa using hv.symm
        go_enter Tryz.func21, Tryz.ntmps21
        go_wp2_with (first
          | (go_at_call 36; refine (HO.out _).mono ?_; rintro e w1 ⟨rfl, rfl⟩)
          | fail)
        go_ret
        exact ⟨rfl, rfl⟩
      · obtain rfl : v = 1 := by simpa using hv.symm
        go_enter Tryz.func21, Tryz.ntmps21
        go_wp2_with (first
          | (go_at_call 36; refine (HO.out _).mono ?_; rintro e w1 ⟨rfl, rfl⟩)
          | fail)
        go_ret
        exact ⟨rfl, rfl⟩
    · obtain rfl : v = 0 := by
        rw [← hv]
        repeat rw [if_neg (by omega)]
      have g0 : (c == 0) = false := by simp; omega
      have g1 : (c == 1) = false := by simp; omega
      have g3 : (c != 3) = true := by simp; omega
      have g6 : (c != 6) = true := by simp; omega
      clear h
      go_enter Tryz.func21, Tryz.ntmps21
      go_wp2_with (first
        | (go_at_call 36; refine (HO.out _).mono ?_; rintro e w1 ⟨rfl, rfl⟩)
        | fail)
      go_ret
      exact ⟨rfl, rfl⟩
set_option maxRecDepth 100000 in
theorem nuImp_any (c level v : Int) (hv : impF c level = v) (h0 : 0 ≤ level) (h1 : level ≤ 1000) (w : World) : Calls Tryz.prog 11 #[.int .i64 c, .int .i64 level] w fun e w' => e = .returned (.int .i64 v) ∧ w = w' := by
  rw [imp_ab] at hv
  obtain ⟨a, ha⟩ : ∃ a, abF c level = a := ⟨_, rfl⟩
  have HA := Lib.hid (fun W => nuAbove_any c level a ha W)
  have hai := ab_in c level
  rw [ha] at hv hai
  obtain ⟨q, hq⟩ : ∃ q : Int, 9223372036854775807 - a = q := ⟨_, rfl⟩
  have hw : IntKind.i64.wrap (9223372036854775807 - a) = q := by rw [IntKind.wrap_i64]; omega
  have hlt : ¬ q < level := by omega
  have hadd : level + a = v := hv
  clear ha hv hq
  go_enter Tryz.func11, Tryz.ntmps11
  go_wp2_with (first
    | (go_at_call 21; refine (HA.out _).mono ?_; rintro e w1 ⟨rfl, rfl⟩)
    | fail)
  go_ret
  exact ⟨rfl, rfl⟩
end Go.Proofs.YtpddjojgcenlkaaGreat
/- Blocks of memory by their cells: what lies in one, what a store leaves of others. -/
namespace Go.Proofs.YtpddjojgcenlkaaGreat
open Go.RowKit

def intsZ (l : List Int) : List Value := l.map (Value.int .i64)
theorem intsZ_set (l : List Int) (i : Nat) (x : Int) : intsZ (l.set i x) = (intsZ l).set i (.int .i64 x) := by simp [intsZ, List.map_set]
theorem hp_lt {w : World} {g : Nat} {o : Obj} (h : w.heap[g]? = some o) : g < w.heap.size := by
  by_cases c : g < w.heap.size
  · exact c
  · rw [Array.getElem?_eq_none (by omega)] at h; exact absurd h (by simp)
theorem hp_cell {w : World} {g : Nat} {cs : Array Value} {t : TypeId} (h : w.heap[g]? = some (.cells cs t (0, 0))) {j : Nat} {v : Value} (hj : cs[j]? = some v) : w.cell? ⟨g, j, none⟩ = some v := by
  unfold World.cell?
  rw [show w.heap[(⟨g, j, none⟩ : Addr).block]? = _ from h]
  simpa using hj
theorem hp_froz {w : World} {g : Nat} {cs : Array Value} {t : TypeId} (h : w.heap[g]? = some (.cells cs t (0, 0))) (j : Nat) : w.frozen? ⟨g, j, none⟩ = false := by
  unfold World.frozen?
  rw [show w.heap[(⟨g, j, none⟩ : Addr).block]? = _ from h]
  rfl
theorem hp_far {w : World} {g k : Nat} (h : k ≠ g) (j : Nat) (u : Value) : (w.setCell ⟨g, j, none⟩ u).heap[k]? = w.heap[k]? := Below.heap_setCell w ⟨g, j, none⟩ u k h
theorem hp_row {w : World} {g : Nat} {l : List Int} {t : TypeId} (h : w.heap[g]? = some (.cells (intsZ l).toArray t (0, 0))) (i : Nat) (x : Int) : (w.setCell ⟨g, i, none⟩ (.int .i64 x)).heap[g]? = some (.cells (intsZ (l.set i x)).toArray t (0, 0)) := by
  rw [heap_setCell_same w g i _ t _ h]
  congr 2
  rw [intsZ_set, List.setIfInBounds_toArray]
theorem Rd.belowS {w w' : World} {size n s : Nat} {A : Option Addr} {xs : List Value} (h : Rd w size A n xs) (hA : 0 < n → ∀ ad, A = some ad → ad.block < s) (hb : Below s w w') : Rd w' size A n xs :=
  ⟨h.1, fun hn => by
    obtain ⟨ad, e, hlt, hc⟩ := h.2 hn
    exact ⟨ad, e, Nat.lt_of_lt_of_le hlt hb.size, fun j u hu => (hb.cell (by rw [blockAdd]; exact hA hn ad e)).trans (hc j u hu)⟩⟩
end Go.Proofs.YtpddjojgcenlkaaGreat
