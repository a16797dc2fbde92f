/- Texts of one claim, one behind the other. -/
import Derived.RegionTactic
import Derived.Laws.ResultCell
import Derived.Laws.Rows
import Derived.BigQuiet
import Derived.Test.YtcbiaeeifclieaaGreatDoorMgM1
/- The finest map: places of one side in sets that lie side by side; sets made one. No program in this text. -/
namespace Go.Proofs.YtcbiaeeifclieaaGreatDoor

/-- n places in sets: r tells the first place of each place's set, e where the set of a first place ends. -/
structure Part (n : Nat) (r e : Nat → Nat) : Prop where
  le : ∀ i, i < n → r i ≤ i
  lt : ∀ i, i < n → i < e (r i)
  top : ∀ i, i < n → e (r i) ≤ n
  same : ∀ i j, i < n → r i ≤ j → j < e (r i) → r j = r i
theorem Part.start (n : Nat) : Part n id (· + 1) := ⟨fun _ _ => Nat.le_refl _, fun _ _ => Nat.lt_succ_self _, fun i h => h, fun i j _ h1 h2 => by
  simp only [id] at h1 h2 ⊢
  omega⟩
theorem Part.root {n : Nat} {r e : Nat → Nat} (h : Part n r e) {i : Nat} (hi : i < n) : r (r i) = r i :=
  h.same i (r i) hi (Nat.le_refl _) (Nat.lt_of_le_of_lt (h.le i hi) (h.lt i hi))
/-- Where a set ends, the next one begins. -/
theorem Part.next {n : Nat} {r e : Nat → Nat} (h : Part n r e) {p : Nat} (hp : r p = p) (hpn : p < n) (hq : e p < n) : r (e p) = e p := by
  have h1 := h.le (e p) hq
  rcases Nat.lt_or_ge (r (e p)) (e p) with hlt | hge
  · exfalso
    have h2 := h.lt p hpn
    rw [hp] at h2
    have h3 := h.lt (e p) hq
    have h4 := h.same (e p) (e p - 1) hq (by omega) (by omega)
    have h5 := h.same p (e p - 1) hpn (by rw [hp]; omega) (by rw [hp]; omega)
    rw [hp, h4] at h5
    rw [h5] at h3
    omega
  · omega
/-- Two sets made one: the one of p, and the one that begins where it ends. -/
def uniR (r e : Nat → Nat) (p : Nat) (i : Nat) : Nat := if e p ≤ i ∧ i < e (e p) then p else r i
def uniE (e : Nat → Nat) (p : Nat) (x : Nat) : Nat := if x = p then e (e p) else e x
theorem Part.unite {n : Nat} {r e : Nat → Nat} (h : Part n r e) {p : Nat} (hp : r p = p) (hpn : p < n) (hq : e p < n) : Part n (uniR r e p) (uniE e p) := by
  have hqr := h.next hp hpn hq
  have hlp := h.lt p hpn
  rw [hp] at hlp
  have hlq := h.lt (e p) hq
  rw [hqr] at hlq
  have htq := h.top (e p) hq
  rw [hqr] at htq
  -- a place of neither set keeps its root, which is not p
  have hout : ∀ i, i < n → ¬ (e p ≤ i ∧ i < e (e p)) → r i ≠ e p := fun i hi hno heq => by
    have h1 := h.le i hi
    have h2 := h.lt i hi
    rw [heq] at h1 h2
    exact hno ⟨h1, h2⟩
  have hin : ∀ j, p ≤ j → j < e p → r j = p := fun j h1 h2 => (h.same p j hpn (by rw [hp]; exact h1) (by rw [hp]; exact h2)).trans hp
  have hin2 : ∀ j, e p ≤ j → j < e (e p) → r j = e p := fun j h1 h2 => (h.same (e p) j hq (by rw [hqr]; exact h1) (by rw [hqr]; exact h2)).trans hqr
  refine ⟨fun i hi => ?_, fun i hi => ?_, fun i hi => ?_, fun i j hi h1 h2 => ?_⟩
  · unfold uniR
    split
    · omega
    · exact h.le i hi
  · unfold uniR
    split
    · rename_i hc
      unfold uniE
      rw [if_pos rfl]
      omega
    · rename_i hc
      have h3 := h.lt i hi
      unfold uniE
      split
      · rename_i hc2
        rw [hc2] at h3
        omega
      · exact h3
  · unfold uniR
    split
    · unfold uniE
      rw [if_pos rfl]
      exact htq
    · unfold uniE
      split
      · exact htq
      · exact h.top i hi
  · -- which set is i's, which j's
    by_cases hi2 : e p ≤ i ∧ i < e (e p)
    · have e1 : uniR r e p i = p := if_pos hi2
      rw [e1] at h1 h2 ⊢
      have e2 : uniE e p p = e (e p) := if_pos rfl
      rw [e2] at h2
      unfold uniR
      split
      · rfl
      · rename_i hno
        exact hin j h1 (by omega)
    · have e1 : uniR r e p i = r i := if_neg hi2
      rw [e1] at h1 h2 ⊢
      by_cases hrp : r i = p
      · rw [hrp] at h1 h2 ⊢
        have e2 : uniE e p p = e (e p) := if_pos rfl
        rw [e2] at h2
        unfold uniR
        split
        · rfl
        · exact hin j h1 (by omega)
      · have e2 : uniE e p (r i) = e (r i) := if_neg hrp
        rw [e2] at h2
        have h3 := h.same i j hi h1 h2
        unfold uniR
        split
        · rename_i hc
          exfalso
          have h4 := hin2 j hc.1 hc.2
          exact hout i hi hi2 (h3.symm.trans h4)
        · exact h3
/-- Roots of the sets behind. -/
theorem uniR_root {n : Nat} {r e : Nat → Nat} (h : Part n r e) {p : Nat} (hp : r p = p) (hpn : p < n) : uniR r e p p = p := by
  have hlp := h.lt p hpn
  rw [hp] at hlp
  unfold uniR
  rw [if_neg (by omega), hp]
end Go.Proofs.YtcbiaeeifclieaaGreatDoor
/- append of whatever reads as cells onto a row of the call's own, at a step of a region that draws its order. -/
namespace Go.Proofs.YtcbiaeeifclieaaGreatDoor
open Go.RowKit

theorem run_appR {P : Program} (w : World) (t ty : TypeId) {base : Nat} {e : TypeId} {size bytes : Nat} (S : SliceOf P t e size bytes) (hsz : 0 < size)
    (v : Value) (n : Nat) (xs : List Value) (hown : w.ownsRow base e size v n xs)
    (A : Option Addr) (m c : Nat) (news : List Value) (hr : Rd w size A m news) (h1 : ∀ u ∈ news, u.oneCell' = true)
    (hbytes : (n + m) * bytes ≤ 140737488355328) (h63 : n + m ≤ maxLen) (hbase : base ≤ w.heap.size) :
    ∃ v' w', (Builtin.append_ #[t, t] ty #[v, .slice A m c]).run P w = .ok v' w' ∧ w'.ownsRow base e size v' (n + m) (xs ++ news) ∧ w.grownBy w' v.ownBlock ∧ (v'.ownBlock = v.ownBlock ∨ v'.ownBlock = some w.heap.size) := by
  rcases A with _ | ad
  · have hm : m = 0 := by
      rcases Nat.eq_zero_or_pos m with h0 | h0
      · exact h0
      · obtain ⟨_, e, _⟩ := hr.2 h0
        cases e
    subst hm
    have hn : news = [] := List.eq_nil_of_length_eq_zero (by simpa using hr.1)
    subst hn
    exact ⟨v, w, run_app_nil w base t ty e size bytes S v n xs hown c, by simpa using hown, World.grownBy.refl w _, .inl rfl⟩
  · obtain ⟨ht, i, z, hi, hz, hs1, hb1, hzs⟩ := S
    obtain ⟨v', w', hrun, h2, h3, _, h5⟩ := run_append_own_at (P := P) w base t ty e i z size bytes ht hi hz hs1 hb1 hzs hsz v n xs hown ad m c news hr.1 hr.news h1 h63 hbytes hbase
    exact ⟨v', w', hrun, h2, h3, h5⟩

theorem step_appR {P : Program} {w : World} {ops : Array Oper} {o : Oper} {a : Act} {K : Act → World → Prop} {Q : Exit → Act → World → Prop} {E : Prop} (hgd : o.guard = none) (s x : Operand) (t : TypeId)
    (ho : o.op = .call { callee := .builtin .append, args := #[s, x], argTypes := #[t, t] })
    {base : Nat} {e : TypeId} {size bytes : Nat} (S : SliceOf P t e size bytes) (hsz : 0 < size)
    (v : Value) (n : Nat) (xs : List Value) (hs : a.eval s = v) (hown : w.ownsRow base e size v n xs)
    (A : Option Addr) (m c : Nat) (news : List Value) (hx : a.eval x = .slice A m c) (hr : Rd w size A m news) (h1 : ∀ u ∈ news, u.oneCell' = true)
    (hbytes : (n + m) * bytes ≤ 140737488355328) (h63 : n + m ≤ maxLen) (hbase : base ≤ w.heap.size) (H : Nat) (hH : w.heap.size = H)
    (h : ∀ v' w', w'.ownsRow base e size v' (n + m) (xs ++ news) → w.grownBy w' v.ownBlock → (v'.ownBlock = v.ownBlock ∨ v'.ownBlock = some H) → K (a.put o.dst v') w') :
    if Region.wanted o (yielded ops a.tmps) = true then Oper.wp P o a w K Q else E := by
  have hw : Region.wanted o (yielded ops a.tmps) = true := by simp [Region.wanted, hgd]
  rw [if_pos hw]
  obtain ⟨v', w', hrun, h2, h3, h5⟩ := run_appR (P := P) w t o.type S hsz v n xs hown A m c news hr h1 hbytes h63 hbase
  unfold Oper.wp execOp
  simp only [ho, resolve, invoke, builtin, Sem.run_bind, Sem.run_pure, Result.andThen_ok, List.map_toArray, List.map_cons, List.map_nil, hs, hx, hrun]
  exact h v' w' h2 h3 (by rw [← hH]; exact h5)
theorem own_below {w w' : World} {base : Nat} {e : TypeId} {size n : Nat} {v : Value} {xs : List Value} (h : w.ownsRow base e size v n xs) (hb : Below w.heap.size w w') : w'.ownsRow base e size v n xs := by
  rcases hv : v.ownBlock with _ | g
  · exact h.kept (row := none) ⟨hb.os, hb.tape, hb.output, hb.size, fun k hk _ => hb.block k hk⟩ (.inl hv)
  · exact h.kept (row := none) ⟨hb.os, hb.tape, hb.output, hb.size, fun k hk _ => hb.block k hk⟩ (.inr (by rw [hv]; exact fun e => by cases e))
theorem below_of_drew {w w' : World} (h : Below w.drew.heap.size w.drew w') : Below w.heap.size w w' := ⟨h.os, h.tape, h.output, h.size, h.block⟩
theorem grown_of_below' {w w' : World} (row : Option Nat) (hb : Below w.heap.size w w') : w.grownBy w' row := ⟨hb.os, hb.tape, hb.output, hb.size, fun k hk _ => hb.block k hk⟩
theorem grown_set {a w : World} {g : Nat} (h : a.grownBy w (some g)) (j : Nat) (u : Value) : a.grownBy (w.setCell ⟨g, j, none⟩ u) (some g) :=
  ⟨h.os, h.tape, h.output, by simpa [World.setCell] using h.size, fun i hi hne => (Below.heap_setCell w ⟨g, j, none⟩ u i (fun e => hne (by rw [e]))).trans (h.block i hi hne)⟩
/-- Four cells next to each other, stored into a row of the call's own. -/
theorem own_store4 {w : World} {base : Nat} {e : TypeId} {size g n cap : Nat} {xs : List Value} (h : w.ownsRow base e size (.slice (some ⟨g, 0, none⟩) n cap) n xs) (j : Nat) (a b c d : Value) :
    ((((w.setCell ⟨g, j, none⟩ a).setCell ⟨g, j + 1, none⟩ b).setCell ⟨g, j + 2, none⟩ c).setCell ⟨g, j + 3, none⟩ d).ownsRow base e size (.slice (some ⟨g, 0, none⟩) n cap) n ((((xs.set j a).set (j + 1) b).set (j + 2) c).set (j + 3) d) :=
  ((((h.stored j a).1.stored (j + 1) b).1.stored (j + 2) c).1.stored (j + 3) d).1
theorem rd_blk {w : World} {b m : Nat} {cs : List Value} {t : TypeId} (size : Nat) (h : w.heap[b]? = some (.cells cs.toArray t (0, 0))) (hl : cs.length = m * size) : Rd w size (some ⟨b, 0, none⟩) m cs :=
  ⟨hl, fun _ => ⟨_, rfl, (Array.getElem?_eq_some_iff.1 h).1, World.news_of_block (cs := cs.toArray) (fr := (0, 0)) h⟩⟩
end Go.Proofs.YtcbiaeeifclieaaGreatDoor
/- cluster's sets in memory; the set that a place is in. -/
namespace Go.Proofs.YtcbiaeeifclieaaGreatDoor
open Go.RowKit

def ints (l : List Nat) : List Value := l.map fun (x : Nat) => Value.int .i64 (x : Int)
/-- The ways to the first place: each place names one of its set that is nearer to it; the first one itself. -/
def Forest (n : Nat) (ah : List Nat) (r : Nat → Nat) : Prop := ah.length = n ∧ ∀ (i a : Nat), ah[i]? = some a → a ≤ i ∧ r a = r i ∧ (a = i ↔ r i = i)
theorem Forest.halve {n : Nat} {ah : List Nat} {r : Nat → Nat} (h : Forest n ah r) {i a b : Nat} (ha : ah[i]? = some a) (hb : ah[a]? = some b) : Forest n (ah.set i b) r := by
  refine ⟨by rw [List.length_set]; exact h.1, fun j x hx => ?_⟩
  by_cases hj : j = i
  · subst hj
    rw [List.getElem?_set_self (List.getElem?_eq_some_iff.1 ha).1] at hx
    obtain rfl := Option.some.inj hx
    obtain ⟨a1, a2, a3⟩ := h.2 j a ha
    obtain ⟨b1, b2, b3⟩ := h.2 a b hb
    refine ⟨by omega, b2.trans a2, ⟨fun e => ?_, fun e => ?_⟩⟩
    · have : a = j := by omega
      exact a3.1 this
    · have e1 := a3.2 e
      subst e1
      exact b3.2 e
  · rw [List.getElem?_set_ne (fun e => hj e.symm)] at hx
    exact h.2 j x hx
/-- A side's sets: the ways, the ends. -/
structure SetsAt (w : World) (b gA gE n : Nat) (ah en : List Nat) : Prop where
  c0 : w.cell? ⟨b, 0, none⟩ = some (.slice (some ⟨gA, 0, none⟩) n n)
  c1 : w.cell? ⟨b, 1, none⟩ = some (.slice (some ⟨gE, 0, none⟩) n n)
  hA : w.heap[gA]? = some (.cells (ints ah).toArray 3 (0, 0))
  hE : w.heap[gE]? = some (.cells (ints en).toArray 3 (0, 0))
  lA : ah.length = n
  lE : en.length = n
  ne1 : gA ≠ b
  ne2 : gE ≠ b
  ne3 : gA ≠ gE
theorem cells_of_heap {w : World} {g : Nat} {l : List Nat} {t : TypeId} (h : w.heap[g]? = some (.cells (ints l).toArray t (0, 0))) {i x : Nat} (hx : l[i]? = some x) : w.cell? ⟨g, i, none⟩ = some (.int .i64 (x : Int)) := by
  have hl : (ints l).toArray[i]? = some (.int .i64 (x : Int)) := by
    rw [List.getElem?_toArray, ints, List.getElem?_map, hx]
    rfl
  unfold World.cell?
  rw [show w.heap[(⟨g, i, none⟩ : Addr).block]? = _ from h]
  exact hl
theorem SetsAt.grown {w w' : World} {b gA gE n : Nat} {ah en ah' : List Nat} (h : SetsAt w b gA gE n ah en) (hg : w.grownBy w' (some gA)) (hA : w'.heap[gA]? = some (.cells (ints ah').toArray 3 (0, 0))) (hl : ah'.length = n) : SetsAt w' b gA gE n ah' en := by
  have hb := cell_lt h.c0
  have hc : ∀ j, w'.cell? ⟨b, j, none⟩ = w.cell? ⟨b, j, none⟩ := fun j => by
    unfold World.cell?
    rw [show w'.heap[b]? = w.heap[b]? from hg.block b hb (fun e => h.ne1 (Option.some.inj e).symm)]
  refine ⟨(hc 0).trans h.c0, (hc 1).trans h.c1, hA, blk_grown h.hE hg (fun e => h.ne3 (Option.some.inj e)), hl, h.lE, h.ne1, h.ne2, h.ne3⟩
end Go.Proofs.YtcbiaeeifclieaaGreatDoor
/- cluster's sets: the set that a place is in, walked. -/
namespace Go.Proofs.YtcbiaeeifclieaaGreatDoor
open Go.RowKit

theorem setCell_heap {w : World} {g : Nat} {l : List Nat} {t : TypeId} (h : w.heap[g]? = some (.cells (ints l).toArray t (0, 0))) {i : Nat} (hi : i < l.length) (x : Nat) : (w.setCell ⟨g, i, none⟩ (.int .i64 (x : Int))).heap[g]? = some (.cells (ints (l.set i x)).toArray t (0, 0)) := by
  rw [heap_setCell_same w g i _ t _ h]
  congr 2
  unfold ints
  rw [List.map_set, List.setIfInBounds_toArray]
theorem grown_drew {a w : World} {row : Option Nat} (h : a.grownBy w row) : a.grownBy w.drew row := ⟨h.os, h.tape, h.output, h.size, h.block⟩
theorem grownTwo {a b c : World} {row : Option Nat} (h : a.grownBy b row) (k : b.grownBy c row) : a.grownBy c row := ⟨k.os.trans h.os, k.tape.trans h.tape, k.output.trans h.output, Nat.le_trans h.size k.size, fun i hi hr => (k.block i (Nat.lt_of_lt_of_le hi h.size) hr).trans (h.block i hi hr)⟩
theorem res_span {fn : Func} {p : Tmp} (hf : fn.results = #[.cell p 39]) (tmps : Array Value) (w : World) (g : Nat) (s : Sp) (hp : tmps.getD p undef = .pointer (some ⟨g, 0, none⟩))
    (hC : SpanBlk w g s) : (results fn tmps).run Tryz.prog w = .ok (valS s) w := by
  obtain ⟨c0, c1, _, _⟩ := hC
  have hp' : tmps[p]?.getD undef = .pointer (some ⟨g, 0, none⟩) := by simpa using hp
  unfold valS
  simp only [results, hf]
  clear hp hf
  go_simp
set_option maxRecDepth 100000 in
set_option maxHeartbeats 2000000 in
theorem set_any (b gA gE n : Nat) (ah en : List Nat) (r e : Nat → Nat) (at0 : Nat) (hat : at0 < n) (hn : n ≤ 100000000) (w : World) (hS : SetsAt w b gA gE n ah en) (hF : Forest n ah r) (hEn : ∀ i, r i = i → i < n → en[i]? = some (e i)) :
    Calls Tryz.prog 121 #[.pointer (some ⟨b, 0, none⟩), .int .i64 (at0 : Int)] w fun e' w' => e' = .returned (.agg #[.int .i64 (r at0 : Nat), .int .i64 (e (r at0) : Nat)]) ∧ ∃ ah', Forest n ah' r ∧ w'.heap[gA]? = some (.cells (ints ah').toArray 3 (0, 0)) ∧ w.grownBy w' (some gA) := by
  obtain ⟨w1, hw1⟩ : ∃ w1, w.alloc (.cells #[.int .i64 0, .int .i64 0] 39) = w1 := ⟨_, rfl⟩
  have hg1 : w.grownBy w1 (some gA) := by rw [← hw1]; exact World.grownBy_alloc w _ _
  have hS1 : SetsAt w1 b gA gE n ah en := hS.grown hg1 (blk_grown hS.hA (by rw [← hw1]; exact World.grownBy_alloc w _ none) (by simp)) hS.lA
  have HEN := Lib.hid hEn
  have HI := Lib.hid (show Forest n ah r ∧ SetsAt w1 b gA gE n ah en ∧ w.grownBy w1 (some gA) from ⟨hF, hS1, hg1⟩)
  clear hS hF hEn hg1 hS1
  go_enter Tryz.func121, Tryz.ntmps121
  go_wp2_with fail
  have HR := Lib.hid (show w1.heap[w.heap.size]? = some (.cells #[.int .i64 0, .int .i64 0] 39 (0, 0)) from by rw [← hw1]; exact heap_alloc_new _ _)
  have hRA : gA ≠ w.heap.size := by
    have := cell_lt HI.out.2.1.c0
    intro e9
    have h1 := HI.out.2.1.hA
    have h2 := HR.out
    rw [e9, h2] at h1
    injection h1 with h1
    injection h1 with _ h3 _
    cases h3
  clear hw1
  generalize hRe : w.heap.size = R at *
  have HRE := Lib.hid hRe
  clear hRe
  go_loopw [1] (fun i wr => ∃ (a : Nat) (ah' : List Nat), i = .int .i64 (a : Int) ∧ a < n ∧ r a = r at0 ∧ Forest n ah' r ∧ SetsAt wr b gA gE n ah' en ∧ w1.grownBy wr (some gA)) (fun i _ => (intOf i).toNat)
  case atStart => exact ⟨at0, ah, rfl, hat, rfl, HI.out.1, HI.out.2.1, World.grownBy.refl _ _⟩
  case round =>
    obtain ⟨a, ah', rfl, han, hra, hF, hS, hg⟩ := hrel
    obtain ⟨a1, ha1⟩ : ∃ a1, ah'[a]? = some a1 := ⟨_, List.getElem?_eq_getElem (by rw [hS.lA]; exact han)⟩
    obtain ⟨f1, f2, f3⟩ := hF.2 a a1 ha1
    have han1 : a1 < n := by omega
    have fA : wr.frozen? ⟨gA, a, none⟩ = false := by
      unfold World.frozen?
      rw [show wr.heap[(⟨gA, a, none⟩ : Addr).block]? = _ from hS.hA]
      rfl
    have c0 := hS.c0
    have cA := cells_of_heap hS.hA ha1
    have HF := Lib.hid hF
    have HS := Lib.hid hS
    have HG := Lib.hid hg
    by_cases he : a1 = a
    · subst he
      have hroot : r a1 = a1 := f3.1 rfl
      have cE := cells_of_heap hS.hE (HEN.out a1 hroot han)
      have c1 := hS.c1
      have hSp : SpanBlk wr R (0, 0) := (show SpanBlk w1 R (0, 0) from by
        unfold SpanBlk World.cell? World.frozen?
        rw [show w1.heap[(⟨R, 0, none⟩ : Addr).block]? = _ from HR.out]
        exact ⟨rfl, rfl, rfl, rfl⟩).grown hg (fun e9 => hRA (Option.some.inj e9))
      obtain ⟨q0, q1, q2, q3⟩ := hSp
      have HSP := Lib.hid (show SpanBlk wr R (0, 0) from ⟨q0, q1, q2, q3⟩)
      clear hF hS hg f1 f2 f3
      go_wp2_with fail
      (try simp only [Exit.inBlock, Exit.then])
      refine bodyPost_ret (v := valS ((r at0 : Nat), (e (r at0) : Nat))) ?_ rfl ⟨rfl, ah', HF.out, ?_, ?_⟩
      · rw [← hra, hroot]
        exact res_span rfl _ _ R ((a1 : Int), (e a1 : Int)) rfl (HSP.out.put _ _)
      · exact (Below.heap_setCell _ _ _ _ (show gA ≠ R from hRA)).trans ((Below.heap_setCell _ _ _ _ (show gA ≠ R from hRA)).trans HS.out.hA)
      · refine only_setCell (only_setCell ?_ (.inr ?_) _) (.inr ?_) _
        · exact grownTwo HI.out.2.2 HG.out
        · rw [HRE.out]; exact Nat.le_refl _
        · rw [HRE.out]; exact Nat.le_refl _
    · obtain ⟨a2, ha2⟩ : ∃ a2, ah'[a1]? = some a2 := ⟨_, List.getElem?_eq_getElem (by rw [hS.lA]; omega)⟩
      have cB := cells_of_heap hS.hA ha2
      have HH := Lib.hid (hF.halve ha1 ha2)
      have h1 : ((a1 : Int) != (a : Int)) = true := by simp; omega
      have hA2 : (wr.setCell ⟨gA, a, none⟩ (.int .i64 (a2 : Int))).heap[gA]? = some (.cells (ints (ah'.set a a2)).toArray 3 (0, 0)) := setCell_heap hS.hA (by rw [hS.lA]; exact han) a2
      have hg2 : w1.grownBy (wr.setCell ⟨gA, a, none⟩ (.int .i64 (a2 : Int))).drew (some gA) := grown_drew (only_setCell (p := ⟨gA, a, none⟩) hg (.inl rfl) _)
      have hg3 : wr.grownBy (wr.setCell ⟨gA, a, none⟩ (.int .i64 (a2 : Int))).drew (some gA) := grown_drew (only_setCell (p := ⟨gA, a, none⟩) (World.grownBy.refl wr _) (.inl rfl) _)
      have HS2 := Lib.hid (show SetsAt (wr.setCell ⟨gA, a, none⟩ (.int .i64 (a2 : Int))).drew b gA gE n (ah'.set a a2) en from hS.grown hg3 hA2 (by rw [List.length_set]; exact hS.lA))
      have hn2 : (wr.setCell ⟨gA, a, none⟩ (.int .i64 (a2 : Int))).drew.cell? ⟨gA, a, none⟩ = some (.int .i64 (a2 : Int)) := cells_of_heap HS2.out.hA (by rw [List.getElem?_set_self (by rw [hS.lA]; exact han)])
      have hn0 := HS2.out.c0
      have HG2 := Lib.hid hg2
      obtain ⟨b1, b2, b3⟩ := hF.2 a1 a2 ha2
      have hra2 : r a2 = r at0 := b2.trans (f2.trans hra)
      clear hF hS hg hA2 hg2 hg3 f3 b3
      go_wp2
      go_region
      generalize (wr.setCell ⟨gA, a, none⟩ (.int .i64 (a2 : Int))).drew = w5 at *
      go_wp2
      go_roundw
      case rel => exact ⟨a2, _, rfl, by omega, hra2, HH.out, HS2.out, HG2.out⟩
      case measure => simp [intOf]; omega
end Go.Proofs.YtcbiaeeifclieaaGreatDoor
/- cluster's sets: two made one, walked; which blocks a call may write. -/
namespace Go.Proofs.YtcbiaeeifclieaaGreatDoor
open Go.RowKit

/-- The set that a place is in: what becomes of the sets. -/
theorem set_kept (b gA gE n : Nat) (ah en : List Nat) (r e : Nat → Nat) (at0 : Nat) (hat : at0 < n) (hn : n ≤ 100000000) (w : World) (hS : SetsAt w b gA gE n ah en) (hF : Forest n ah r) (hEn : ∀ i, r i = i → i < n → en[i]? = some (e i)) :
    Calls Tryz.prog 121 #[.pointer (some ⟨b, 0, none⟩), .int .i64 (at0 : Int)] w fun e' w' => e' = .returned (.agg #[.int .i64 (r at0 : Nat), .int .i64 (e (r at0) : Nat)]) ∧ ∃ ah', Forest n ah' r ∧ SetsAt w' b gA gE n ah' en ∧ Kept w w' [gA] :=
  (set_any b gA gE n ah en r e at0 hat hn w hS hF hEn).mono fun _ _ ⟨he, ah', h1, h2, h3⟩ => ⟨he, ah', h1, hS.grown h3 h2 h1.1, Kept.of_grown h3 (List.mem_singleton_self _)⟩
set_option maxRecDepth 100000 in
set_option maxHeartbeats 2000000 in
theorem unite_any (b gA gE n : Nat) (ah en : List Nat) (p q q' z : Nat) (hp : p < n) (hq : q' < n) (hn : n ≤ 100000000) (w : World) (hS : SetsAt w b gA gE n ah en) :
    Calls Tryz.prog 123 #[.pointer (some ⟨b, 0, none⟩), .agg #[.int .i64 (p : Int), .int .i64 (q : Int)], .agg #[.int .i64 (q' : Int), .int .i64 (z : Int)]] w fun e' w' => e' = .returned (valS ((p : Int), (z : Int))) ∧ SetsAt w' b gA gE n (ah.set q' p) (en.set p z) ∧ Kept w w' [gA, gE] := by
  obtain ⟨W1, hW1⟩ : ∃ W1, w.alloc (.cells #[.int .i64 (p : Int), .int .i64 (q : Int)] 39) = W1 := ⟨_, rfl⟩
  have hs1 : SpanBlk W1 w.heap.size ((p : Int), (q : Int)) := by rw [← hW1]; exact SpanBlk.new_ w _ _ _
  have hb1 : Below w.heap.size w W1 := by rw [← hW1]; exact below_new _ _
  have hl1 : w.heap.size < W1.heap.size := cell_lt hs1.1
  obtain ⟨W2, hW2⟩ : ∃ W2, W1.alloc (.cells #[.int .i64 (q' : Int), .int .i64 (z : Int)] 39) = W2 := ⟨_, rfl⟩
  have hs2 : SpanBlk W2 W1.heap.size ((q' : Int), (z : Int)) := by rw [← hW2]; exact SpanBlk.new_ W1 _ _ _
  have hb2 : Below W1.heap.size W1 W2 := by rw [← hW2]; exact below_new _ _
  have hl2 : W1.heap.size < W2.heap.size := cell_lt hs2.1
  obtain ⟨W3, hW3⟩ : ∃ W3, W2.alloc (.cells #[.int .i64 0, .int .i64 0] 39) = W3 := ⟨_, rfl⟩
  have hs3 : SpanBlk W3 W2.heap.size (0, 0) := by rw [← hW3]; exact SpanBlk.new_ W2 _ _ _
  have hb3 : Below W2.heap.size W2 W3 := by rw [← hW3]; exact below_new _ _
  have hk3 : Kept w W3 [gA, gE] := ((Kept.of_below hb1 _).trans (Kept.of_below hb2 _)).trans (Kept.of_below hb3 _)
  have hb := cell_lt hS.c0
  have hgA := heap_lt hS.hA
  have hgE := heap_lt hS.hE
  simp only at hb
  have hbel : Below w.heap.size w W3 := below_self (below_self hb1 hb2) hb3
  have hA3 : W3.heap[gA]? = some (.cells (ints ah).toArray 3 (0, 0)) := (hbel.block gA hgA).trans hS.hA
  have hE3 : W3.heap[gE]? = some (.cells (ints en).toArray 3 (0, 0)) := (hbel.block gE hgE).trans hS.hE
  have c0 := cell_below hbel hS.c0
  have c1 := cell_below hbel hS.c1
  have hs1' : SpanBlk W3 w.heap.size ((p : Int), (q : Int)) := (hs1.below hb2).below hb3
  have hs2' : SpanBlk W3 W1.heap.size ((q' : Int), (z : Int)) := hs2.below hb3
  have HS := Lib.hid hS
  have HK3 := Lib.hid hk3
  have HA3 := Lib.hid hA3
  have HE3 := Lib.hid hE3
  have HX := Lib.hid (And.intro hs1' (And.intro hs2' hs3))
  obtain ⟨x0, hx0⟩ : ∃ x0, ah[q']? = some x0 := ⟨_, List.getElem?_eq_getElem (by rw [hS.lA]; exact hq)⟩
  have cx := cells_of_heap hA3 hx0
  have fx := frozen_of_heap hA3 q'
  obtain ⟨p0, p1, _, _⟩ := hs1'
  obtain ⟨q0, q1, _, _⟩ := hs2'
  have HL := Lib.hid (show gA < w.heap.size ∧ gE < w.heap.size ∧ b < w.heap.size ∧ w.heap.size < W1.heap.size ∧ W1.heap.size < W2.heap.size from ⟨hgA, hgE, hb, hl1, hl2⟩)
  clear hs1 hb1 hs2 hb2 hs3 hb3 hk3 hS hA3 hE3 hbel hgA hgE hb hx0 hl1 hl2
  go_enter Tryz.func123, Tryz.ntmps123
  go_wp2
  clear hW1 hW2 hW3
  generalize W1.heap.size = R2 at *
  generalize W2.heap.size = R3 at *
  generalize hR1 : w.heap.size = R1 at *
  have HR1 := Lib.hid hR1
  clear hR1
  obtain ⟨k1, k2, k3, k4, k5⟩ := HL.out
  have n1 : ¬ gA = gE := HS.out.ne3
  have n2 : ¬ gA = b := HS.out.ne1
  have n3 : ¬ gE = b := HS.out.ne2
  go_region
  have HA4 := Lib.hid (show (W3.setCell ⟨gA, q', none⟩ (.int .i64 (p : Int))).drew.heap[gA]? = some (.cells (ints (ah.set q' p)).toArray 3 (0, 0)) from setCell_heap HA3.out (by rw [HS.out.lA]; exact hq) p)
  have HE4 := Lib.hid (show (W3.setCell ⟨gA, q', none⟩ (.int .i64 (p : Int))).drew.heap[gE]? = some (.cells (ints en).toArray 3 (0, 0)) from (heap_setCell_far (fun e9 => n1 e9.symm) _ _).trans HE3.out)
  have hk4 : Kept W3 (W3.setCell ⟨gA, q', none⟩ (.int .i64 (p : Int))).drew [gA] := ((Kept.refl W3 [gA]).set (.inl (List.mem_singleton_self _)) _ _).drew
  have HK4 := Lib.hid (show Kept w (W3.setCell ⟨gA, q', none⟩ (.int .i64 (p : Int))).drew [gA, gE] from (HK3.out.set (.inl (List.mem_cons_self ..)) _ _).drew)
  have d1 := hk4.cell c1 (by simp; omega)
  have d0 := hk4.cell c0 (by simp; omega)
  have dp0 := hk4.cell p0 (by simp; omega)
  have dp1 := hk4.cell p1 (by simp; omega)
  have dq0 := hk4.cell q0 (by simp; omega)
  have dq1 := hk4.cell q1 (by simp; omega)
  have HX4 := Lib.hid (show SpanBlk (W3.setCell ⟨gA, q', none⟩ (.int .i64 (p : Int))).drew R3 (0, 0) from HX.out.2.2.grown (row := some gA) (grown_drew (only_setCell (p := ⟨gA, q', none⟩) (World.grownBy.refl W3 _) (.inl rfl) _)) (fun e9 => by have := Option.some.inj e9; omega))
  clear cx fx p0 p1 q0 q1 c0 c1 hk4
  generalize (W3.setCell ⟨gA, q', none⟩ (.int .i64 (p : Int))).drew = W4 at *
  obtain ⟨y0, hy0⟩ : ∃ y0, en[p]? = some y0 := ⟨_, List.getElem?_eq_getElem (by rw [HS.out.lE]; exact hp)⟩
  have cy := cells_of_heap HE4.out hy0
  have fy := frozen_of_heap HE4.out p
  clear hy0
  go_wp2
  go_region
  have HA5 := Lib.hid (show (W4.setCell ⟨gE, p, none⟩ (.int .i64 (z : Int))).drew.heap[gA]? = some (.cells (ints (ah.set q' p)).toArray 3 (0, 0)) from (heap_setCell_far n1 _ _).trans HA4.out)
  have HE5 := Lib.hid (show (W4.setCell ⟨gE, p, none⟩ (.int .i64 (z : Int))).drew.heap[gE]? = some (.cells (ints (en.set p z)).toArray 3 (0, 0)) from setCell_heap HE4.out (by rw [HS.out.lE]; exact hp) z)
  have hk5 : Kept W4 (W4.setCell ⟨gE, p, none⟩ (.int .i64 (z : Int))).drew [gE] := ((Kept.refl W4 [gE]).set (.inl (List.mem_singleton_self _)) _ _).drew
  have HK5 := Lib.hid (show Kept w (W4.setCell ⟨gE, p, none⟩ (.int .i64 (z : Int))).drew [gA, gE] from (HK4.out.set (.inl (by simp)) _ _).drew)
  have e1 := hk5.cell d1 (by simp; omega)
  have e0 := hk5.cell d0 (by simp; omega)
  have ep0 := hk5.cell dp0 (by simp; omega)
  have eq1 := hk5.cell dq1 (by simp; omega)
  have hX5 : SpanBlk (W4.setCell ⟨gE, p, none⟩ (.int .i64 (z : Int))).drew R3 (0, 0) := HX4.out.grown (row := some gE) (grown_drew (only_setCell (p := ⟨gE, p, none⟩) (World.grownBy.refl W4 _) (.inl rfl) _)) (fun e9 => by have := Option.some.inj e9; omega)
  clear cy fy d0 d1 dp0 dp1 dq0 dq1 hk5
  generalize (W4.setCell ⟨gE, p, none⟩ (.int .i64 (z : Int))).drew = W5 at *
  have HX5 := Lib.hid hX5
  have HC := Lib.hid (And.intro e0 e1)
  obtain ⟨r0, r1, r2, r3⟩ := hX5
  clear e0 e1
  go_wp2_with fail
  (try simp only [Exit.inBlock, Exit.then])
  refine bodyPost_ret (v := valS ((p : Int), (z : Int))) (res_span rfl _ _ R3 ((p : Int), (z : Int)) rfl (HX5.out.put _ _)) rfl ⟨rfl, ?_, ?_⟩
  · have far : ∀ k, k ≠ R3 → ((W5.setCell ⟨R3, 0, none⟩ (.int .i64 (p : Int))).setCell ⟨R3, 1, none⟩ (.int .i64 (z : Int))).heap[k]? = W5.heap[k]? := fun k hk => (heap_setCell_far hk _ _).trans (heap_setCell_far hk _ _)
    have hkf : Kept W5 ((W5.setCell ⟨R3, 0, none⟩ (.int .i64 (p : Int))).setCell ⟨R3, 1, none⟩ (.int .i64 (z : Int))) [R3] := ((Kept.refl W5 [R3]).set (.inl (List.mem_singleton_self _)) _ _).set (.inl (List.mem_singleton_self _)) _ _
    exact ⟨hkf.cell HC.out.1 (by simp; omega), hkf.cell HC.out.2 (by simp; omega), (far gA (by omega)).trans HA5.out, (far gE (by omega)).trans HE5.out, by rw [List.length_set]; exact HS.out.lA, by rw [List.length_set]; exact HS.out.lE, HS.out.ne1, HS.out.ne2, HS.out.ne3⟩
  · exact (HK5.out.set (.inr (by rw [HR1.out]; omega)) _ _).set (.inr (by rw [HR1.out]; omega)) _ _
end Go.Proofs.YtcbiaeeifclieaaGreatDoor
/- Cells in memory: the struct, its rows of codes; what is asked of them. -/
namespace Go.Proofs.YtcbiaeeifclieaaGreatDoor
open Go.RowKit

/-- A cell: its codes' slice, the end that is joined, its codes. -/
abbrev RC := Value × Int × List Int
def encRC (r : RC) : List Value := [r.1, .int .i64 r.2.1]
def cellsRC (R : List RC) : List Value := R.flatMap encRC
theorem cellsRC_cons (r : RC) (R : List RC) : cellsRC (r :: R) = r.1 :: .int .i64 r.2.1 :: cellsRC R := rfl
theorem cellsRC_len (R : List RC) : (cellsRC R).length = R.length * 2 := by
  induction R with
  | nil => rfl
  | cons r R ih => rw [cellsRC_cons, List.length_cons, List.length_cons, ih, List.length_cons]; omega
theorem cellsRC_at {R : List RC} {k : Nat} {r : RC} (h : R[k]? = some r) : (cellsRC R)[k * 2]? = some r.1 ∧ (cellsRC R)[k * 2 + 1]? = some (.int .i64 r.2.1) := by
  induction R generalizing k with
  | nil => simp at h
  | cons s R ih =>
    rw [cellsRC_cons]
    cases k with
    | zero =>
      simp at h
      subst h
      exact ⟨rfl, rfl⟩
    | succ k =>
      have := ih (k := k) (by simpa using h)
      have e0 : (k + 1) * 2 = k * 2 + 1 + 1 := by omega
      have e1 : (k + 1) * 2 + 1 = (k * 2 + 1) + 1 + 1 := by omega
      rw [e1, e0]
      simpa using this
theorem cellsRC_set {R : List RC} {k : Nat} {r : RC} (h : R[k]? = some r) (v : Value) (l : List Int) : (cellsRC R).set (k * 2) v = cellsRC (R.set k (v, r.2.1, l)) := by
  induction R generalizing k with
  | nil => simp at h
  | cons s R ih =>
    cases k with
    | zero => simp at h; subst h; rfl
    | succ k =>
      have e0 : (k + 1) * 2 = k * 2 + 1 + 1 := by omega
      rw [cellsRC_cons, e0, List.set_cons_succ, List.set_cons_succ, ih (by simpa using h), List.set_cons_succ, cellsRC_cons]
theorem cellsRC_setE {R : List RC} {k : Nat} {r : RC} (h : R[k]? = some r) (e : Int) : (cellsRC R).set (k * 2 + 1) (.int .i64 e) = cellsRC (R.set k (r.1, e, r.2.2)) := by
  induction R generalizing k with
  | nil => simp at h
  | cons s R ih =>
    cases k with
    | zero => simp at h; subst h; rfl
    | succ k =>
      have e0 : (k + 1) * 2 + 1 = (k * 2 + 1) + 1 + 1 := by omega
      rw [cellsRC_cons, e0, List.set_cons_succ, List.set_cons_succ, ih (by simpa using h), List.set_cons_succ, cellsRC_cons]
/-- Cells in memory: b the struct, gc its cells; all rows lie behind base, each in a block of its own. -/
structure CellsAt (w : World) (base b gc n : Nat) (R : List RC) (va : Value) (ah : List Int) : Prop where
  hb : w.heap[b]? = some (.cells #[.slice (some ⟨gc, 0, none⟩) n n, va] 94 (0, 0))
  hc : w.heap[gc]? = some (.cells (cellsRC R).toArray 139 (0, 0))
  len : R.length = n
  rows : ∀ (i : Nat) (r : RC), R[i]? = some r → w.ownsRow base 3 1 r.1 r.2.2.length (r.2.2.map (Value.int .i64))
  arow : w.ownsRow base 3 1 va ah.length (ah.map (Value.int .i64))
  ne : ∀ (i j : Nat) (r s : RC), i ≠ j → R[i]? = some r → R[j]? = some s → r.1.ownBlock = none ∨ r.1.ownBlock ≠ s.1.ownBlock
  nea : ∀ (i : Nat) (r : RC), R[i]? = some r → r.1.ownBlock = none ∨ r.1.ownBlock ≠ va.ownBlock
  far : b < base ∧ gc < base ∧ b ≠ gc ∧ base ≤ w.heap.size
theorem CellsAt.low {w w' : World} {base b gc n : Nat} {R : List RC} {va : Value} {ah : List Int} (h : CellsAt w base b gc n R va ah) (hb : Below w.heap.size w w') : CellsAt w' base b gc n R va ah :=
  ⟨(hb.block _ (hp_lt h.hb)).trans h.hb, (hb.block _ (hp_lt h.hc)).trans h.hc, h.len, fun i r hi => own_below (h.rows i r hi) hb, own_below h.arow hb, h.ne, h.nea, ⟨h.far.1, h.far.2.1, h.far.2.2.1, Nat.le_trans h.far.2.2.2 hb.size⟩⟩
/-- A part of the cells, as a slice. -/
theorem CellsAt.part {w : World} {base b gc n : Nat} {R : List RC} {va : Value} {ah : List Int} (h : CellsAt w base b gc n R va ah) {lo m : Nat} (hm : lo + m ≤ n) : Rd w 2 (some ⟨gc, lo * 2, none⟩) m (cellsRC ((R.drop lo).take m)) := by
  refine ⟨by rw [cellsRC_len, List.length_take, List.length_drop, h.len]; congr 1; omega, fun hm0 => ⟨_, rfl, hp_lt h.hc, fun j u hj => ?_⟩⟩
  have hadd : (⟨gc, lo * 2, none⟩ : Addr).add j = ⟨gc, lo * 2 + j, none⟩ := by
    unfold Addr.add; split <;> first | rfl | (simp_all)
  rw [hadd]
  refine hp_cell h.hc ?_
  have hlt : j < m * 2 := by
    have := (List.getElem?_eq_some_iff.1 hj).1
    rw [cellsRC_len, List.length_take] at this
    omega
  obtain ⟨r, hr⟩ : ∃ r, R[lo + j / 2]? = some r := ⟨_, List.getElem?_eq_getElem (by rw [h.len]; omega)⟩
  have hr2 : ((R.drop lo).take m)[j / 2]? = some r := by rw [List.getElem?_take, if_pos (by omega), List.getElem?_drop]; exact hr
  have a1 := cellsRC_at hr
  have a2 := cellsRC_at hr2
  rw [List.getElem?_toArray]
  rcases Nat.mod_two_eq_zero_or_one j with e | e
  · have e1 : j / 2 * 2 = j := by omega
    have e2 : (lo + j / 2) * 2 = lo * 2 + j := by omega
    rw [e1, hj] at a2
    rw [e2] at a1
    rw [a1.1, a2.1]
  · have e1 : j / 2 * 2 + 1 = j := by omega
    have e2 : (lo + j / 2) * 2 + 1 = lo * 2 + j := by omega
    rw [e1, hj] at a2
    rw [e2] at a1
    rw [a1.2, a2.2]
/-- One cell of a part. -/
theorem Rd.rc {w : World} {A : Option Addr} {n k : Nat} {R : List RC} {r : RC} (hr : Rd w 2 A n (cellsRC R)) (h : R[k]? = some r) : ∃ ad, A = some ad ∧ ad.block < w.heap.size ∧ w.cell? (ad.add (k * 2)) = some r.1 ∧ w.cell? ⟨(ad.add (k * 2)).block, (ad.add (k * 2)).off + 1, none⟩ = some (.int .i64 r.2.1) := by
  have hlen : R.length * 2 = n * 2 := by rw [← cellsRC_len]; exact hr.1
  have hk := (List.getElem?_eq_some_iff.1 h).1
  obtain ⟨ad, rfl, hb, hc⟩ := hr.2 (by omega)
  obtain ⟨e0, e1⟩ := cellsRC_at h
  have h1 := hc _ _ e1
  rw [addNext ad (k * 2) 0] at h1
  exact ⟨ad, rfl, hb, hc _ _ e0, h1⟩
def lenR (R : List RC) : Nat := (R.map fun r => r.2.2.length).sum
def codesR (R : List RC) : List Int := R.flatMap fun r => r.2.2
theorem lenR_codes (R : List RC) : (codesR R).length = lenR R := by
  induction R with
  | nil => rfl
  | cons r R ih => simp only [codesR, lenR, List.flatMap_cons, List.length_append, List.map_cons, List.sum_cons] at ih ⊢; omega
theorem lenR_take {R : List RC} {k : Nat} {r : RC} (h : R[k]? = some r) : lenR (R.take (k + 1)) = lenR (R.take k) + r.2.2.length := by
  unfold lenR; rw [List.take_add_one, h]; simp
theorem codesR_take {R : List RC} {k : Nat} {r : RC} (h : R[k]? = some r) : codesR (R.take (k + 1)) = codesR (R.take k) ++ r.2.2 := by
  unfold codesR; rw [List.take_add_one, h]; simp
theorem lenR_le (R : List RC) (k : Nat) : lenR (R.take k) ≤ lenR R := by
  have h : lenR R = lenR (R.take k) + lenR (R.drop k) := by
    unfold lenR; rw [← List.sum_append, ← List.map_append, List.take_append_drop]
  omega
theorem lenR_drop (R : List RC) (k : Nat) : lenR (R.drop k) ≤ lenR R := by
  have h : lenR R = lenR (R.take k) + lenR (R.drop k) := by
    unfold lenR; rw [← List.sum_append, ← List.map_append, List.take_append_drop]
  omega
/-- The part of the cells from lo to hi. -/
def partR (R : List RC) (lo hi : Nat) : List RC := (R.drop lo).take (hi - lo)
def cntR (R : List RC) (ah : List Int) (lo hi : Nat) : Nat := (if lo = 0 then ah.length else 0) + lenR (partR R lo hi)
def toldR (R : List RC) (ah : List Int) (lo hi : Nat) : List Int := (if lo = 0 then ah.reverse else []) ++ codesR (partR R lo hi)
theorem toldR_len (R : List RC) (ah : List Int) (lo hi : Nat) : (toldR R ah lo hi).length = cntR R ah lo hi := by
  unfold toldR cntR; rw [List.length_append, lenR_codes]; split <;> simp
theorem cntR_le (R : List RC) (ah : List Int) (lo hi : Nat) : cntR R ah lo hi ≤ ah.length + lenR R := by
  unfold cntR partR
  have h1 := lenR_le (R.drop lo) (hi - lo)
  have h2 := lenR_drop R lo
  split <;> omega
theorem partR_len {R : List RC} {lo hi n : Nat} (hn : R.length = n) (h : hi ≤ n) : (partR R lo hi).length = hi - lo := by
  unfold partR; rw [List.length_take, List.length_drop]; omega
end Go.Proofs.YtcbiaeeifclieaaGreatDoor
/- What a store at cells leaves: a row, what is ahead, an end. -/
namespace Go.Proofs.YtcbiaeeifclieaaGreatDoor
open Go.RowKit

section
variable {w : World} {base b gc n : Nat} {R : List RC} {va : Value} {ah : List Int}
theorem ne_swap {a c : Option Nat} (h : a = none ∨ a ≠ c) : c = none ∨ c ≠ a := by
  rcases h with rfl | h
  · rcases c with _ | g
    · exact .inl rfl
    · exact .inr (by simp)
  · exact .inr fun e => h e.symm
theorem own_not {v : Value} {k : Nat} {xs : List Value} (h : w.ownsRow base 3 1 v k xs) {g : Nat} (hg : g < base) : v.ownBlock ≠ some g := fun e => by have := (h.lt g e).1; omega
theorem CellsAt.put (h : CellsAt w base b gc n R va ah) {i : Nat} {r : RC} (hi : R[i]? = some r) {v : Value} {l : List Int} (hown : w.ownsRow base 3 1 v l.length (l.map (Value.int .i64)))
    (hne : ∀ (j : Nat) (s : RC), j ≠ i → R[j]? = some s → v.ownBlock = none ∨ v.ownBlock ≠ s.1.ownBlock) (hna : v.ownBlock = none ∨ v.ownBlock ≠ va.ownBlock) :
    CellsAt (w.setCell ⟨gc, i * 2, none⟩ v) base b gc n (R.set i (v, r.2.1, l)) va ah := by
  have hil := (List.getElem?_eq_some_iff.1 hi).1
  have get : ∀ (j : Nat) (s : RC), (R.set i (v, r.2.1, l))[j]? = some s → (j = i ∧ s = (v, r.2.1, l)) ∨ (j ≠ i ∧ R[j]? = some s) := fun j s hs => by
    by_cases e : j = i
    · subst e
      rw [List.getElem?_set_self hil] at hs
      exact .inl ⟨rfl, (Option.some.inj hs).symm⟩
    · rw [List.getElem?_set_ne (fun e9 => e e9.symm)] at hs
      exact .inr ⟨e, hs⟩
  refine ⟨(hp_far h.far.2.2.1 _ _).trans h.hb, ?_, by rw [List.length_set]; exact h.len, fun j s hs => ?_, own_set_far h.arow (own_not h.arow h.far.2.1), fun j k s t hjk hs ht => ?_, fun j s hs => ?_, ⟨h.far.1, h.far.2.1, h.far.2.2.1, by simpa [World.setCell] using h.far.2.2.2⟩⟩
  · rw [heap_setCell_same w gc (i * 2) _ _ v h.hc, List.setIfInBounds_toArray, cellsRC_set hi]
  · rcases get j s hs with ⟨_, rfl⟩ | ⟨_, hs'⟩
    · exact own_set_far hown (own_not hown h.far.2.1)
    · exact own_set_far (h.rows j s hs') (own_not (h.rows j s hs') h.far.2.1)
  · rcases get j s hs with ⟨rfl, rfl⟩ | ⟨hj, hs'⟩ <;> rcases get k t ht with ⟨rfl, rfl⟩ | ⟨hk, ht'⟩
    · exact absurd rfl hjk
    · exact hne k t hk ht'
    · exact ne_swap (hne j s hj hs')
    · exact h.ne j k s t hjk hs' ht'
  · rcases get j s hs with ⟨_, rfl⟩ | ⟨_, hs'⟩
    · exact hna
    · exact h.nea j s hs'
theorem CellsAt.putA (h : CellsAt w base b gc n R va ah) {v : Value} {l : List Int} (hown : w.ownsRow base 3 1 v l.length (l.map (Value.int .i64)))
    (hne : ∀ (j : Nat) (s : RC), R[j]? = some s → s.1.ownBlock = none ∨ s.1.ownBlock ≠ v.ownBlock) :
    CellsAt (w.setCell ⟨b, 1, none⟩ v) base b gc n R v l := by
  refine ⟨?_, (hp_far (Ne.symm h.far.2.2.1) _ _).trans h.hc, h.len, fun j s hs => own_set_far (h.rows j s hs) (own_not (h.rows j s hs) h.far.1), own_set_far hown (own_not hown h.far.1), h.ne, hne, ⟨h.far.1, h.far.2.1, h.far.2.2.1, by simpa [World.setCell] using h.far.2.2.2⟩⟩
  rw [heap_setCell_same w b 1 _ _ v h.hb]
  rfl
theorem CellsAt.putE (h : CellsAt w base b gc n R va ah) {i : Nat} {r : RC} (hi : R[i]? = some r) (e : Int) :
    CellsAt (w.setCell ⟨gc, i * 2 + 1, none⟩ (.int .i64 e)) base b gc n (R.set i (r.1, e, r.2.2)) va ah := by
  have hil := (List.getElem?_eq_some_iff.1 hi).1
  have get : ∀ (j : Nat) (s : RC), (R.set i (r.1, e, r.2.2))[j]? = some s → ∃ s', R[j]? = some s' ∧ s.1 = s'.1 ∧ s.2.2 = s'.2.2 := fun j s hs => by
    by_cases e : j = i
    · subst e
      rw [List.getElem?_set_self hil] at hs
      obtain rfl := Option.some.inj hs
      exact ⟨r, hi, rfl, rfl⟩
    · rw [List.getElem?_set_ne (fun e9 => e e9.symm)] at hs
      exact ⟨s, hs, rfl, rfl⟩
  refine ⟨(hp_far h.far.2.2.1 _ _).trans h.hb, ?_, by rw [List.length_set]; exact h.len, fun j s hs => ?_, own_set_far h.arow (own_not h.arow h.far.2.1), fun j k s t hjk hs ht => ?_, fun j s hs => ?_, ⟨h.far.1, h.far.2.1, h.far.2.2.1, by simpa [World.setCell] using h.far.2.2.2⟩⟩
  · rw [heap_setCell_same w gc (i * 2 + 1) _ _ _ h.hc, List.setIfInBounds_toArray, cellsRC_setE hi]
  · obtain ⟨s', h1, h2, h3⟩ := get j s hs
    rw [h2, h3]
    exact own_set_far (h.rows j s' h1) (own_not (h.rows j s' h1) h.far.2.1)
  · obtain ⟨s', h1, h2, _⟩ := get j s hs
    obtain ⟨t', k1, k2, _⟩ := get k t ht
    rw [h2, k2]
    exact h.ne j k s' t' hjk h1 k1
  · obtain ⟨s', h1, h2, _⟩ := get j s hs
    rw [h2]
    exact h.nea j s' h1
end
end Go.Proofs.YtcbiaeeifclieaaGreatDoor
/- slices.Clone at []int: a row of the call's own that reads as the argument does. -/
namespace Go.Proofs.YtcbiaeeifclieaaGreatDoor
open Go.RowKit

theorem cloneInt_slice : SliceOf Tryz.prog 22 3 1 8 := .mk_ (z := .int .i64 0) Tryz.underlying22 (by kernel_rfl) rfl
theorem cloneInt_any (A : Option Addr) (n c : Nat) (xs : List Value) (w : World) (hr : Rd w 1 A n xs) (h1 : ∀ u ∈ xs, u.oneCell' = true) (hm : n ≤ 16777216) :
    Calls Tryz.prog 93 #[.slice A n c] w fun e w' => ∃ v, e = .returned v ∧ w'.ownsRow w.heap.size 3 1 v n xs ∧ Below w.heap.size w w' := by
  rcases A with _ | ad
  · have h0 : n = 0 := by
      rcases Nat.eq_zero_or_pos n with h | h
      · exact h
      · obtain ⟨_, e, _⟩ := hr.2 h
        cases e
    subst h0
    have hx : xs = [] := List.eq_nil_of_length_eq_zero (by simpa using hr.1)
    subst hx
    have hq := fun w => Lib.run_eql_slice_nil (P := Tryz.prog) w 22 3 none 0 c 0 0 Tryz.underlying22
    go_enter Tryz.func93, Tryz.ntmps93
    go_wp2
    go_ret
    exact ⟨_, rfl, ⟨rfl, .inl ⟨rfl, rfl⟩⟩, Below.refl _ _⟩
  · have hq := fun w => Lib.run_eql_slice_nil (P := Tryz.prog) w 22 3 (some ad) n c 0 0 Tryz.underlying22
    have hown : (w.alloc (.cells #[] 3)).ownsRow w.heap.size 3 1 (.slice (some ⟨w.heap.size, 0, none⟩) 0 0) 0 [] := World.ownsRow_made w #[] 0 (Nat.le_refl _) (Nat.zero_le _) rfl
    go_enter Tryz.func93, Tryz.ntmps93
    go_wp2_with (at_builtin; refine wpList_app rfl _ _ _ rfl cloneInt_slice (by decide) _ 0 [] rfl hown ad n c xs rfl (by have := hr.1; omega) (hr.alloc _).news h1 (by omega) (by unfold maxLen; omega) (by simp) ?_; intro v1 w1 hown1 hg1 hat1)
    go_ret
    exact ⟨v1, rfl, by simpa using hown1, below_app ((Below.refl _ _).alloc (Nat.le_refl _) _) hg1 hown (by simp)⟩
end Go.Proofs.YtcbiaeeifclieaaGreatDoor
/- cells' all and count, walked. -/
namespace Go.Proofs.YtcbiaeeifclieaaGreatDoor
open Go.RowKit

set_option maxRecDepth 100000 in
set_option maxHeartbeats 1000000 in
theorem all_any (b : Nat) (A : Option Addr) (n c : Nat) (w : World) (hc : w.cell? ⟨b, 0, none⟩ = some (.slice A n c)) :
    Calls Tryz.prog 41 #[.pointer (some ⟨b, 0, none⟩)] w fun e w' => e = .returned (.agg #[.int .i64 0, .int .i64 (n : Int)]) ∧ Below w.heap.size w w' := by
  have s1 := SpanBlk.new_ w 0 0 39
  have hc2 := cell_below (below_new w (.cells #[.int .i64 0, .int .i64 0] 39)) hc
  have hbn := below_new w (.cells #[.int .i64 0, .int .i64 0] 39)
  obtain ⟨c0, c1, f0, f1⟩ := s1
  go_enter Tryz.func41, Tryz.ntmps41
  go_wp2_with fail
  refine bodyPost_ret (v := .agg #[.int .i64 0, .int .i64 (n : Int)]) (results_cell_row rfl _ _ w.heap.size 39 #[.int .i64 0, .int .i64 (n : Int)] (0, 0) _ rfl (heap_alloc_new w _) Tryz.underlying39 rfl (by kernel_rfl)) rfl ?_
  exact ⟨rfl, below_new w _⟩
/-- What a cell's place is, as the walk spells it. -/
theorem CellsAt.cell {w : World} {base b gc n : Nat} {R : List RC} {va : Value} {ah : List Int} (h : CellsAt w base b gc n R va ah) {i : Nat} {r : RC} (hi : R[i]? = some r) : w.cell? ⟨gc, i * 2, none⟩ = some r.1 ∧ w.cell? ⟨gc, i * 2 + 1, none⟩ = some (.int .i64 r.2.1) := by
  obtain ⟨h1, h2⟩ := cellsRC_at hi
  exact ⟨hp_cell h.hc (by rw [List.getElem?_toArray]; exact h1), hp_cell h.hc (by rw [List.getElem?_toArray]; exact h2)⟩
theorem partR_at {R : List RC} {lo hi k : Nat} (h : k < hi - lo) : (partR R lo hi)[k]? = R[lo + k]? := by
  unfold partR; rw [List.getElem?_take, if_pos h, List.getElem?_drop]
set_option maxRecDepth 100000 in
set_option maxHeartbeats 1000000 in
theorem count_any (base b gc n lo hi : Nat) (R : List RC) (va : Value) (ah : List Int) (w : World) (hC : CellsAt w base b gc n R va ah) (h1 : lo < hi) (h2 : hi ≤ n) (hn : n ≤ 100000000) (ht : ah.length + lenR R ≤ 100000000) :
    Calls Tryz.prog 44 #[.pointer (some ⟨b, 0, none⟩), .agg #[.int .i64 (lo : Int), .int .i64 (hi : Int)]] w fun e w' => e = .returned (.int .i64 (cntR R ah lo hi : Nat)) ∧ Below w.heap.size w w' := by
  obtain ⟨Aa, ca, rfl, _⟩ := own_form hC.arow
  have hbn := below_new w (.cells #[.int .i64 (lo : Int), .int .i64 (hi : Int)] 39)
  have hC2 := hC.low hbn
  have s1 := SpanBlk.new_ w (lo : Int) (hi : Int) 39
  obtain ⟨W1, hW1⟩ : ∃ W1, w.alloc (.cells #[.int .i64 (lo : Int), .int .i64 (hi : Int)] 39) = W1 := ⟨_, rfl⟩
  rw [hW1] at hbn hC2 s1
  have c0 := hp_cell (j := 0) hC2.hb rfl
  have c1 := hp_cell (j := 1) hC2.hb rfl
  obtain ⟨d0, d1, f0, f1⟩ := s1
  obtain ⟨bs, hbs⟩ : ∃ bs, w.heap.size = bs := ⟨_, rfl⟩
  rw [hbs] at d0 d1
  have HC := Lib.hid hC2
  have HP := Lib.hid (hC2.part (lo := lo) (m := hi - lo) (by omega))
  have HB := Lib.hid hbn
  have hlo : (lo : Int) < (n : Int) := by omega
  have hhi : (hi : Int) ≤ (n : Int) := by omega
  have hlh : (lo : Int) ≤ (hi : Int) := by omega
  have hne : ¬ (n = lo) := by omega
  clear hC hC2 hbn f0 f1
  go_enter Tryz.func44, Tryz.ntmps44
  by_cases hz : lo = 0
  · have g0 : ((lo : Int) == 0) = true := by simp; omega
    have HLO := Lib.hid hz
    clear hz
    go_wp2_with fail
    go_quiet (fail)
    go_wp2_with fail
    obtain ⟨z, hz⟩ : ∃ z : Nat, z = ah.length := ⟨_, rfl⟩
    have HZ := Lib.hid (show cntR R ah lo hi = z + lenR (partR R lo hi) by unfold cntR; rw [hz]; simp [HLO.out])
    have hzb : z ≤ 100000000 := by rw [hz]; omega
    have hzt : z + lenR (partR R lo hi) ≤ 100000000 := by rw [← HZ.out]; exact Nat.le_trans (cntR_le R ah lo hi) ht
    rw [← hz]
    clear hz
    go_loopw [5, 26] (fun s i ws => ∃ k : Nat, k ≤ hi - lo ∧ i = .int .i64 (k : Int) ∧ s = .int .i64 ((z + lenR ((partR R lo hi).take k) : Nat) : Int) ∧ Below W1.heap.size W1 ws) (fun _ i _ => (hi - lo) - (intOf i).toNat)
    case atStart => exact ⟨0, Nat.zero_le _, rfl, by simp [lenR], below_drew (Below.refl _ _) _⟩
    case round =>
      obtain ⟨k, hk, rfl, rfl, hb⟩ := hrel
      have hlk := lenR_le (partR R lo hi) k
      by_cases hlt : k < hi - lo
      · obtain ⟨r, hr⟩ : ∃ r, R[lo + k]? = some r := ⟨_, List.getElem?_eq_getElem (by rw [HC.out.len]; omega)⟩
        have HCW := HC.out.low hb
        obtain ⟨c0, c1⟩ := HCW.cell hr
        have hrow := HCW.rows _ _ hr
        have hpr : (partR R lo hi)[k]? = some r := by rw [partR_at hlt]; exact hr
        have HT := Lib.hid (lenR_take hpr)
        have hlk1 := lenR_le (partR R lo hi) (k + 1)
        rw [HT.out] at hlk1
        obtain ⟨v, e, l⟩ := r
        obtain ⟨Ai, ci, hv, _⟩ := own_form hrow
        simp only at hv
        subst hv
        rw [show (lo + k) * 2 = lo * 2 + k * 2 by omega] at c0 c1
        simp only at c0 c1 hlk1 HT
        have hbn := below_self hb (below_new wr (.cells #[.slice Ai l.length ci, .int .i64 e] 139))
        have hnw := cells_new wr [.slice Ai l.length ci, .int .i64 e] 139
        have d0 := hnw 0 _ rfl
        rw [addNew] at d0
        clear hnw HCW hrow hpr hr hb
        obtain ⟨y, hy⟩ : ∃ y, lenR ((partR R lo hi).take k) = y := ⟨_, rfl⟩
        rw [hy] at HT hlk hlk1 ⊢
        clear hy
        go_wp2_with fail
        go_roundw
        case rel => exact ⟨k + 1, by omega, by go_num, by rw [HT.out]; go_num, hbn⟩
        case measure => simp [intOf]; omega
      · have hkm : k = hi - lo := by omega
        have HE := Lib.hid (show z + lenR ((partR R lo hi).take k) = cntR R ah lo hi by rw [HZ.out, hkm, List.take_of_length_le (Nat.le_of_eq (partR_len HC.out.len h2))])
        rw [HE.out]
        have HBB := Lib.hid (below_self HB.out hb)
        clear hlk hkm
        go_wp2_with fail
        go_ret
        exact ⟨rfl, HBB.out⟩
  · have g0 : ((lo : Int) == 0) = false := by simp; omega
    have HLO := Lib.hid hz
    clear hz
    go_wp2_with fail
    go_quiet (fail)
    go_wp2_with fail
    obtain ⟨z, hz⟩ : ∃ z : Nat, z = 0 := ⟨_, rfl⟩
    have HZ := Lib.hid (show cntR R ah lo hi = z + lenR (partR R lo hi) by unfold cntR; rw [hz]; simp [HLO.out])
    have hzb : z ≤ 100000000 := by rw [hz]; omega
    have hzt : z + lenR (partR R lo hi) ≤ 100000000 := by rw [← HZ.out]; exact Nat.le_trans (cntR_le R ah lo hi) ht
    have HZ0 := Lib.hid hz
    clear hz
    go_loopw [5, 26] (fun s i ws => ∃ k : Nat, k ≤ hi - lo ∧ i = .int .i64 (k : Int) ∧ s = .int .i64 ((z + lenR ((partR R lo hi).take k) : Nat) : Int) ∧ Below W1.heap.size W1 ws) (fun _ i _ => (hi - lo) - (intOf i).toNat)
    case atStart => exact ⟨0, Nat.zero_le _, rfl, by rw [HZ0.out]; simp [lenR], below_drew (Below.refl _ _) _⟩
    case round =>
      obtain ⟨k, hk, rfl, rfl, hb⟩ := hrel
      have hlk := lenR_le (partR R lo hi) k
      by_cases hlt : k < hi - lo
      · obtain ⟨r, hr⟩ : ∃ r, R[lo + k]? = some r := ⟨_, List.getElem?_eq_getElem (by rw [HC.out.len]; omega)⟩
        have HCW := HC.out.low hb
        obtain ⟨c0, c1⟩ := HCW.cell hr
        have hrow := HCW.rows _ _ hr
        have hpr : (partR R lo hi)[k]? = some r := by rw [partR_at hlt]; exact hr
        have HT := Lib.hid (lenR_take hpr)
        have hlk1 := lenR_le (partR R lo hi) (k + 1)
        rw [HT.out] at hlk1
        obtain ⟨v, e, l⟩ := r
        obtain ⟨Ai, ci, hv, _⟩ := own_form hrow
        simp only at hv
        subst hv
        rw [show (lo + k) * 2 = lo * 2 + k * 2 by omega] at c0 c1
        simp only at c0 c1 hlk1 HT
        have hbn := below_self hb (below_new wr (.cells #[.slice Ai l.length ci, .int .i64 e] 139))
        have hnw := cells_new wr [.slice Ai l.length ci, .int .i64 e] 139
        have d0 := hnw 0 _ rfl
        rw [addNew] at d0
        clear hnw HCW hrow hpr hr hb
        obtain ⟨y, hy⟩ : ∃ y, lenR ((partR R lo hi).take k) = y := ⟨_, rfl⟩
        rw [hy] at HT hlk hlk1 ⊢
        clear hy
        go_wp2_with fail
        go_roundw
        case rel => exact ⟨k + 1, by omega, by go_num, by rw [HT.out]; go_num, hbn⟩
        case measure => simp [intOf]; omega
      · have hkm : k = hi - lo := by omega
        have HE := Lib.hid (show z + lenR ((partR R lo hi).take k) = cntR R ah lo hi by rw [HZ.out, hkm, List.take_of_length_le (Nat.le_of_eq (partR_len HC.out.len h2))])
        rw [HE.out]
        have HBB := Lib.hid (below_self HB.out hb)
        clear hlk hkm
        go_wp2_with fail
        go_ret
        exact ⟨rfl, HBB.out⟩
end Go.Proofs.YtcbiaeeifclieaaGreatDoor
/- prHas_any. -/
namespace Go.Proofs.YtcbiaeeifclieaaGreatDoor
open Go.RowKit

theorem prHas_any (lo hi p : Int) (w : World) :
    Calls Tryz.prog 59 #[.agg #[.int .i64 lo, .int .i64 hi], .int .i64 p] w fun e w' => e = .returned (.bool (hasB (lo, hi) p)) ∧ Below w.heap.size w w' := by
  have hc : p < lo ∨ (lo ≤ p ∧ p < hi) ∨ (lo ≤ p ∧ hi ≤ p) := by omega
  rcases hc with h | ⟨h, h'⟩ | ⟨h, h'⟩ <;>
    (go_enter Tryz.func59, Tryz.ntmps59
     go_wp2
     go_ret
     refine ⟨retB ?_, below_new _ _⟩
     simp [hasB]
     try omega)

end Go.Proofs.YtcbiaeeifclieaaGreatDoor
/- prRight_any. -/
namespace Go.Proofs.YtcbiaeeifclieaaGreatDoor
open Go.RowKit

theorem prRight_any (lo hi : Int) (w : World) :
    Calls Tryz.prog 42 #[.agg #[.int .i64 lo, .int .i64 hi]] w fun e w' => e = .returned (.bool (rightB (lo, hi))) ∧ Below w.heap.size w w' := by
  have hc : lo < 0 ∨ (0 ≤ lo ∧ lo < hi) ∨ (0 ≤ lo ∧ hi ≤ lo) := by omega
  rcases hc with h | ⟨h, h'⟩ | ⟨h, h'⟩ <;>
    (go_enter Tryz.func42, Tryz.ntmps42
     go_wp2
     go_ret
     refine ⟨retB ?_, below_new _ _⟩
     simp [rightB]
     try omega)

end Go.Proofs.YtcbiaeeifclieaaGreatDoor
/- The slice type of spans. -/
namespace Go.Proofs.YtcbiaeeifclieaaGreatDoor
open Go.RowKit
theorem spanSlice : SliceOf Tryz.prog 103 39 2 16 := .mk_ (z := .agg #[.int .i64 0, .int .i64 0]) Tryz.underlying103 (by kernel_rfl) rfl
end Go.Proofs.YtcbiaeeifclieaaGreatDoor
/- Cut of a span, as plain mathematics; small words. -/
namespace Go.Proofs.YtcbiaeeifclieaaGreatDoor
open Go.RowKit
theorem own_weak {w : World} {base base' : Nat} {e : TypeId} {size n : Nat} {v : Value} {xs : List Value} (h : w.ownsRow base e size v n xs) (hb : base' ≤ base) : w.ownsRow base' e size v n xs := by
  obtain ⟨h1, h2⟩ := h
  refine ⟨h1, ?_⟩
  rcases h2 with h2 | ⟨g, cap, cur, a, b, c⟩
  · exact .inl h2
  · exact .inr ⟨g, cap, cur, a, by omega, c⟩
theorem cellsS_snoc (l : List Sp) (s : Sp) : cellsS (l ++ [s]) = cellsS l ++ [.int .i64 s.1, .int .i64 s.2] := by simp [cellsS, encS]

/-- A span from lo to hi in parts, cut at what 'at' says; none where that does not rise within. -/
def cutFrom (lo hi : Int) : List Int → Option (List Sp)
  | [] => some [(lo, hi)]
  | a :: r => if a ≤ lo ∨ hi ≤ a then none else (cutFrom a hi r).map ((lo, a) :: ·)
/-- What Cut hands back. -/
def CutGives (w : World) (s : Sp) (at_ : List Int) (e : Ending) (w' : World) : Prop :=
  (rightB s = false ∧ e = .returned (.tuple #[.slice none 0 0, .int .i64 1]) ∧ Below w.heap.size w w') ∨
  (rightB s = true ∧ cutFrom s.1 s.2 at_ = none ∧ e = .returned (.tuple #[.slice none 0 0, .int .i64 10]) ∧ Below w.heap.size w w') ∨
  (rightB s = true ∧ ∃ l v, cutFrom s.1 s.2 at_ = some l ∧ e = .returned (.tuple #[v, .int .i64 0]) ∧ w'.ownsRow w.heap.size 39 2 v l.length (cellsS l) ∧ Below w.heap.size w w')
theorem cutFrom_len {lo hi : Int} {r : List Int} {l : List Sp} (h : cutFrom lo hi r = some l) : l.length = r.length + 1 := by
  induction r generalizing lo l with
  | nil => simp [cutFrom] at h; subst h; rfl
  | cons a r ih =>
    unfold cutFrom at h
    split at h
    · cases h
    · obtain ⟨l', h', rfl⟩ := Option.map_eq_some_iff.1 h
      simp [ih h']
end Go.Proofs.YtcbiaeeifclieaaGreatDoor
/- cells' joined, walked: the spans that were joined. -/
namespace Go.Proofs.YtcbiaeeifclieaaGreatDoor
open Go.RowKit

def joinB (R : List RC) (i : Nat) : Option Sp := match R[i]? with
  | some r => if rightB ((i : Int), r.2.1) = true then some ((i : Int), r.2.1) else none
  | none => none
def joinedTo (R : List RC) (k : Nat) : List Sp := (List.range k).filterMap (joinB R)
theorem joinedTo_len (R : List RC) (k : Nat) : (joinedTo R k).length ≤ k := Nat.le_trans (List.length_filterMap_le _ _) (by simp)
theorem joinedTo_yes {R : List RC} {k : Nat} {r : RC} (h : R[k]? = some r) (hr : rightB ((k : Int), r.2.1) = true) : joinedTo R (k + 1) = joinedTo R k ++ [((k : Int), r.2.1)] := by
  unfold joinedTo
  rw [List.range_succ, List.filterMap_append]
  simp [joinB, h, hr]
theorem joinedTo_no {R : List RC} {k : Nat} {r : RC} (h : R[k]? = some r) (hr : rightB ((k : Int), r.2.1) = false) : joinedTo R (k + 1) = joinedTo R k := by
  unfold joinedTo
  rw [List.range_succ, List.filterMap_append]
  simp [joinB, h, hr]
set_option maxRecDepth 100000 in
set_option maxHeartbeats 2000000 in
theorem joined_any (base b gc n : Nat) (R : List RC) (va : Value) (ah : List Int) (w : World) (hC : CellsAt w base b gc n R va ah) (hn : n ≤ 100000000) :
    Calls Tryz.prog 75 #[.pointer (some ⟨b, 0, none⟩)] w fun e w' => ∃ v, e = .returned v ∧ w'.ownsRow w.heap.size 39 2 v (joinedTo R n).length (cellsS (joinedTo R n)) ∧ Below w.heap.size w w' := by
  obtain ⟨Aa, ca, rfl, _⟩ := own_form hC.arow
  have c0 := hp_cell (j := 0) hC.hb rfl
  have HC := Lib.hid hC
  clear hC
  go_enter Tryz.func75, Tryz.ntmps75
  go_wp2_with fail
  go_loopw [3, 12] (fun v i ws => ∃ k : Nat, k ≤ n ∧ i = .int .i64 (k : Int) ∧ ws.ownsRow w.heap.size 39 2 v (joinedTo R k).length (cellsS (joinedTo R k)) ∧ Below w.heap.size w ws) (fun _ i _ => n - (intOf i).toNat)
  case atStart => exact ⟨0, Nat.zero_le _, rfl, ⟨rfl, .inl ⟨rfl, rfl⟩⟩, Below.refl _ _⟩
  case round =>
    clear c0
    obtain ⟨k, hk, rfl, hown, hb⟩ := hrel
    have hjl := joinedTo_len R k
    by_cases hlt : k < n
    · obtain ⟨r, hr⟩ : ∃ r, R[k]? = some r := ⟨_, List.getElem?_eq_getElem (by rw [HC.out.len]; omega)⟩
      have HCW := HC.out.low hb
      obtain ⟨c0, c1⟩ := HCW.cell hr
      have hrow := HCW.rows _ _ hr
      have HY := Lib.hid (fun h => joinedTo_yes hr h)
      have HN := Lib.hid (fun h => joinedTo_no hr h)
      obtain ⟨v, e, l⟩ := r
      obtain ⟨Ai, ci, hv, _⟩ := own_form hrow
      simp only at hv
      subst hv
      simp only at c0 c1 HY HN
      have hb1 := below_new wr (.cells #[.slice Ai l.length ci, .int .i64 e] 139)
      have hnw := cells_new wr [.slice Ai l.length ci, .int .i64 e] 139
      have d1 := hnw 1 _ rfl
      rw [addNew] at d1
      obtain ⟨W1, hW1⟩ : ∃ W1, wr.alloc (.cells #[.slice Ai l.length ci, .int .i64 e] 139) = W1 := ⟨_, rfl⟩
      rw [hW1] at d1 hb1
      have hb2 := below_new W1 (.cells #[.int .i64 (k : Int), .int .i64 e] 39)
      have s2 := SpanBlk.new_ W1 (k : Int) e 39
      have HO2 := Lib.hid (own_below (own_below hown hb1) hb2)
      have HB2 := Lib.hid (below_self (below_self hb hb1) hb2)
      obtain ⟨x0, x1, f0, f1⟩ := s2
      obtain ⟨W2, hW2⟩ : ∃ W2, W1.alloc (.cells #[.int .i64 (k : Int), .int .i64 e] 39) = W2 := ⟨_, rfl⟩
      rw [hW2] at HO2 HB2 x0 x1
      obtain ⟨bk, hbk⟩ : ∃ bk, W1.heap.size = bk := ⟨_, rfl⟩
      rw [hbk] at x0 x1
      clear hnw HCW hrow hr hown hb hb1 hb2 f0 f1
      go_wp2_with fail
      refine (prRight_any (k : Int) e W2).mono ?_
      rintro e' w3 ⟨rfl, hb3⟩
      have y0 := cell_below hb3 x0
      have y1 := cell_below hb3 x1
      have HO3 := Lib.hid (own_below HO2.out hb3)
      have HB3 := Lib.hid (below_self HB2.out hb3)
      clear x0 x1 c0 c1 d1 hW1 hW2 hbk
      cases hrb : rightB ((k : Int), e) with
      | false =>
        have HE := Lib.hid (HN.out hrb)
        clear hrb
        go_wp2_with fail
        go_roundw
        case rel => exact ⟨k + 1, by omega, by go_num, by rw [HE.out]; exact HO3.out, HB3.out⟩
        case measure => simp [intOf]; omega
      | true =>
        have HE := Lib.hid (HY.out hrb)
        clear hrb
        go_wp2_with (at_builtin; refine wpList_app rfl _ _ _ rfl spanSlice (by decide) u3 (joinedTo R k).length _ rfl (HO3.out.alloc _) ⟨w3.heap.size, 0, none⟩ 1 1 [.int .i64 (k : Int), .int .i64 e] rfl rfl (cells_new w3 [_, _] _) (oneInt2 _ _ _) (by omega) (by unfold maxLen; omega) (Nat.le_trans HB3.out.size (by simp)) ?_; intro v5 w5 hown5 hg5 hat5)
        have HB5 := Lib.hid ((HB3.out.alloc HB3.out.size (.cells #[.int .i64 (k : Int), .int .i64 e] 39)).grown hg5 (Nat.le_trans HB3.out.size (by simp)) (fun b hb => (HO3.out.lt b hb).1))
        have HO5 := Lib.hid (show w5.ownsRow w.heap.size 39 2 v5 (joinedTo R (k + 1)).length (cellsS (joinedTo R (k + 1))) by rw [HE.out, List.length_append, cellsS_snoc]; exact hown5)
        clear hown5 hg5 hat5 y0 y1
        go_roundw
        case rel => exact ⟨k + 1, by omega, by go_num, HO5.out, HB5.out⟩
        case measure => simp [intOf]; omega
    · have hkn : k = n := by omega
      have HO := Lib.hid hown
      have HB := Lib.hid hb
      rw [hkn] at HO
      clear hown hb hkn hjl
      go_wp2_with fail
      go_ret
      exact ⟨u3, rfl, HO.out, HB.out⟩
end Go.Proofs.YtcbiaeeifclieaaGreatDoor
/- Groups of spans as plain mathematics: the reference. -/
namespace Go.Proofs.YtcbiaeeifclieaaGreatDoor
open Go.RowKit
/-- Whether a span lies across a place. -/
def acrossB (p n : Int) (s : Sp) : Bool := rightB s && decide (s.2 ≤ n ∧ s.1 < p ∧ p < s.2)
def partedS (p n : Int) (l : List Sp) : Bool := !(l.any (acrossB p n))

/-- The parts from place 'lo' on, the next place to ask being 'p', with so many places to ask. -/
def groupsGo (n : Int) (l : List Sp) : Nat → Int → Int → List Sp
  | 0, _, _ => []
  | f + 1, lo, p => if p = n ∨ partedS p n l = true then (lo, p) :: groupsGo n l f p (p + 1) else groupsGo n l f lo (p + 1)
def groupsS (n : Int) (l : List Sp) : List Sp := groupsGo n l n.toNat 0 1
theorem groupsGo_yes {n : Int} {l : List Sp} {f : Nat} {lo p : Int} (h : p = n ∨ partedS p n l = true) : groupsGo n l (f + 1) lo p = (lo, p) :: groupsGo n l f p (p + 1) := if_pos h
theorem groupsGo_no {n : Int} {l : List Sp} {f : Nat} {lo p : Int} (h : ¬ (p = n ∨ partedS p n l = true)) : groupsGo n l (f + 1) lo p = groupsGo n l f lo (p + 1) := if_neg h
end Go.Proofs.YtcbiaeeifclieaaGreatDoor
/- Spans put in order by their Lo, as plain mathematics: put in one by one; which order does not matter where they are parts. -/
namespace Go.Proofs.YtcbiaeeifclieaaGreatDoor

def LoSorted (l : List Sp) : Prop := l.Pairwise fun a b => a.1 ≤ b.1
def insLo (acc : List Sp) (s : Sp) : List Sp := acc.takeWhile (fun t => decide (t.1 ≤ s.1)) ++ s :: acc.dropWhile (fun t => decide (t.1 ≤ s.1))
def sortR (l : List Sp) : List Sp := l.foldl insLo []
theorem insLo_at {acc : List Sp} {s : Sp} {j : Nat} (h1 : ∀ t ∈ acc.take j, t.1 ≤ s.1) (h2 : j = acc.length ∨ ∃ t, acc[j]? = some t ∧ ¬ t.1 ≤ s.1) : insLo acc s = acc.take j ++ s :: acc.drop j := by
  induction acc generalizing j with
  | nil => simp [insLo]
  | cons a acc ih =>
    cases j with
    | zero =>
      rcases h2 with h2 | ⟨t, ht, hn⟩
      · simp at h2
      · simp at ht
        subst ht
        have hd : decide (a.1 ≤ s.1) = false := decide_eq_false hn
        simp [insLo, List.takeWhile, List.dropWhile, hd]
    | succ j =>
      have ha := h1 a (by simp)
      have hd : decide (a.1 ≤ s.1) = true := decide_eq_true ha
      have := ih (j := j) (fun t ht => h1 t (by simp [ht])) (by
        rcases h2 with h2 | ⟨t, ht, hn⟩
        · exact .inl (by simpa using h2)
        · exact .inr ⟨t, by simpa using ht, hn⟩)
      unfold insLo at this ⊢
      simp only [List.takeWhile, List.dropWhile, hd, List.take_succ_cons, List.drop_succ_cons, List.cons_append]
      rw [this]
theorem insLo_len (acc : List Sp) (s : Sp) : (insLo acc s).length = acc.length + 1 := by
  have := congrArg List.length (List.takeWhile_append_dropWhile (p := fun t : Sp => decide (t.1 ≤ s.1)) (l := acc))
  rw [List.length_append] at this
  unfold insLo
  rw [List.length_append, List.length_cons]
  omega
theorem insLo_perm (acc : List Sp) (s : Sp) : (insLo acc s).Perm (s :: acc) := by
  unfold insLo
  refine List.perm_middle.trans ?_
  rw [List.takeWhile_append_dropWhile]
theorem insLo_sorted {acc : List Sp} (s : Sp) (h : LoSorted acc) : LoSorted (insLo acc s) := by
  unfold LoSorted at *
  induction acc with
  | nil => simp [insLo]
  | cons a acc ih =>
    rw [List.pairwise_cons] at h
    by_cases ha : a.1 ≤ s.1
    · have hd : decide (a.1 ≤ s.1) = true := decide_eq_true ha
      have e : insLo (a :: acc) s = a :: insLo acc s := by simp [insLo, List.takeWhile, List.dropWhile, hd]
      rw [e, List.pairwise_cons]
      refine ⟨fun b hb => ?_, ih h.2⟩
      have := (insLo_perm acc s).mem_iff.1 hb
      simp at this
      rcases this with rfl | hb'
      · exact ha
      · exact h.1 b hb'
    · have hd : decide (a.1 ≤ s.1) = false := decide_eq_false ha
      have e : insLo (a :: acc) s = s :: a :: acc := by simp [insLo, List.takeWhile, List.dropWhile, hd]
      rw [e, List.pairwise_cons, List.pairwise_cons]
      refine ⟨fun b hb => ?_, h.1, h.2⟩
      simp at hb
      rcases hb with rfl | hb'
      · omega
      · have := h.1 b hb'
        omega
theorem sortR_snoc (l : List Sp) (s : Sp) : sortR (l ++ [s]) = insLo (sortR l) s := by simp [sortR]
theorem sortR_len (l : List Sp) : (sortR l).length = l.length := by
  rw [← List.reverse_reverse l]
  induction l.reverse with
  | nil => rfl
  | cons a t ih => rw [List.reverse_cons, sortR_snoc, insLo_len, ih]; simp
theorem foldIns_perm (l : List Sp) : ∀ acc, (l.foldl insLo acc).Perm (l ++ acc) := by
  induction l with
  | nil => intro acc; exact List.Perm.refl _
  | cons s l ih =>
    intro acc
    refine (ih (insLo acc s)).trans ?_
    refine (List.Perm.append_left l (insLo_perm acc s)).trans ?_
    exact List.perm_middle
theorem sortR_perm (l : List Sp) : (sortR l).Perm l := by
  have := foldIns_perm l []
  rwa [List.append_nil] at this
theorem foldIns_sorted (l : List Sp) : ∀ acc, LoSorted acc → LoSorted (l.foldl insLo acc) := by
  induction l with
  | nil => intro acc h; exact h
  | cons s l ih => intro acc h; exact ih _ (insLo_sorted s h)
theorem sortR_sorted (l : List Sp) : LoSorted (sortR l) := foldIns_sorted l [] List.Pairwise.nil

theorem parts_rise {e n : Int} {l : List Sp} (h : partsFrom e l n = true) : (∀ s ∈ l, e ≤ s.1) ∧ l.Pairwise fun a b => a.1 < b.1 := by
  induction l generalizing e with
  | nil => simp
  | cons s l ih =>
    cases hr : rightB s with
    | false => rw [partsFrom_no (.inl hr)] at h; cases h
    | true =>
      cases he : (s.1 == e) with
      | false => rw [partsFrom_no (.inr he)] at h; cases h
      | true =>
        rw [partsFrom_yes hr he] at h
        have hs := of_decide_eq_true hr
        have he' : s.1 = e := by simpa using he
        obtain ⟨h1, h2⟩ := ih h
        refine ⟨fun t ht => ?_, List.pairwise_cons.2 ⟨fun t ht => ?_, h2⟩⟩
        · simp at ht
          rcases ht with rfl | ht
          · omega
          · have := h1 t ht
            omega
        · have := h1 t ht
          omega
theorem perm_sorted_eq {l l' : List Sp} (hp : l'.Perm l) (h : l.Pairwise fun a b => a.1 < b.1) (h' : LoSorted l') : l' = l := by
  induction l generalizing l' with
  | nil => exact List.Perm.eq_nil hp
  | cons a l ih =>
    cases l' with
    | nil => exact absurd hp.length_eq (by simp)
    | cons b l' =>
      rw [List.pairwise_cons] at h
      unfold LoSorted at h'
      rw [List.pairwise_cons] at h'
      have hb : b ∈ a :: l := hp.mem_iff.1 (by simp)
      have ha : a ∈ b :: l' := hp.mem_iff.2 (by simp)
      have hab : b = a := by
        simp at hb ha
        rcases hb with rfl | hb
        · rfl
        · rcases ha with rfl | ha
          · rfl
          · have := h.1 b hb
            have := h'.1 a ha
            omega
      subst hab
      rw [ih (List.Perm.cons_inv hp) h.2 h'.2]
theorem parts_perm {l l' : List Sp} (hp : l'.Perm l) (h : LoSorted l) (h' : LoSorted l') (m : Int) : partsS l' m = partsS l m := by
  cases h1 : partsS l m with
  | true => rw [perm_sorted_eq hp (parts_rise h1).2 h', h1]
  | false =>
    cases h2 : partsS l' m with
    | false => rfl
    | true =>
      rw [perm_sorted_eq hp.symm (parts_rise h2).2 h, h2] at h1
      cases h1
/-- Whether clusters are a map. -/
def checkC (l : List (Sp × Sp)) (n m : Int) : Bool := partsS (l.map Prod.fst) n && partsS (sortR (l.map Prod.snd)) m
end Go.Proofs.YtcbiaeeifclieaaGreatDoor
