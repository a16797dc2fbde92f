/- Texts of one claim, one behind the other. -/
import Derived.Deep.DeepCutAuto
import Derived.Test.YtcdogkabdhbjmaaDoorMgSb2
import Derived.Test.YtcdogkabdhbjmaaDoorMgSb3
/- option.Check's region that draws its order, whole. -/
namespace Go.Proofs.YtcdogkabdhbjmaaDoor
open Go.RowKit

section
variable {p : Prm} {w0 w : World} {a : Act} {Q : Exit → Act → World → Prop} {o : Oper} {ops : Array Oper}
set_option maxRecDepth 100000 in
theorem all_steps (hsz : ops.size = 43) (hops : ∀ i o, ops[i]? = some o → IsOp ops i o) (i : Nat) (o : Oper) (ho : ops[i]? = some o) (a : Act) (w : World) (h : HoldsAt p w0 w a) (hd : ∀ e ∈ o.after, Region.binds .any e = true → GoodAt p e.on a w) : StepOk p w0 Q ops i o a w := by
  have hi := hops i o ho
  have hlt : i < 43 := by have := (Array.getElem?_eq_some_iff.1 ho).1; omega
  have hg : ∀ k ∈ depF i, GoodAt p k a w := fun k hk => by
    obtain ⟨e, he, rfl, hb⟩ := hi.deps k hk
    exact hd e he hb
  have hyl : ∀ (j : Nat) (g : Bool), j < 43 → a.tmps[slotF j]? = some (.bool g) → yielded ops a.tmps j = some g := fun j g hj ht => by
    obtain ⟨oj, hoj⟩ : ∃ oj, ops[j]? = some oj := ⟨_, Array.getElem?_eq_getElem (by omega)⟩
    exact yielded_at hoj (hops j oj hoj).dst ht
  clear hd ho hops
  have hc : i = 0 ∨ i = 1 ∨ i = 2 ∨ i = 3 ∨ i = 4 ∨ i = 5 ∨ i = 6 ∨ i = 7 ∨ i = 8 ∨ i = 9 ∨ i = 10 ∨ i = 11 ∨ i = 12 ∨ i = 13 ∨ i = 14 ∨ i = 15 ∨ i = 16 ∨ i = 17 ∨ i = 18 ∨ i = 19 ∨ i = 20 ∨ i = 21 ∨ i = 22 ∨ i = 23 ∨ i = 24 ∨ i = 25 ∨ i = 26 ∨ i = 27 ∨ i = 28 ∨ i = 29 ∨ i = 30 ∨ i = 31 ∨ i = 32 ∨ i = 33 ∨ i = 34 ∨ i = 35 ∨ i = 36 ∨ i = 37 ∨ i = 38 ∨ i = 39 ∨ i = 40 ∨ i = 41 ∨ i = 42 := by omega
  rcases hc with rfl | rfl | rfl | rfl | rfl | rfl | rfl | rfl | rfl | rfl | rfl | rfl | rfl | rfl | rfl | rfl | rfl | rfl | rfl | rfl | rfl | rfl | rfl | rfl | rfl | rfl | rfl | rfl | rfl | rfl | rfl | rfl | rfl | rfl | rfl | rfl | rfl | rfl | rfl | rfl | rfl | rfl | rfl
  · exact step0 h hi hg
  · exact step1 h hi hg
  · exact step2 h hi hg
  · exact step3 h hi hg
  · exact step4 h hi hg (hyl 3 _ (by omega) (hg 3 (by simp [depF]) rfl))
  · exact step5 h hi hg (hyl 3 _ (by omega) (hg 3 (by simp [depF]) rfl))
  · exact step6 h hi hg (hyl 3 _ (by omega) (hg 3 (by simp [depF]) rfl))
  · exact step7 h hi hg (hyl 3 _ (by omega) (hg 3 (by simp [depF]) rfl))
  · exact step8 h hi hg (hyl 3 _ (by omega) (hg 3 (by simp [depF]) rfl))
  · exact step9 h hi hg (hyl 3 _ (by omega) (hg 3 (by simp [depF]) rfl))
  · exact step10 h hi hg (hyl 3 _ (by omega) (hg 3 (by simp [depF]) rfl))
  · exact step11 h hi hg (hyl 3 _ (by omega) (hg 3 (by simp [depF]) rfl))
  · exact step12 h hi hg (hyl 3 _ (by omega) (hg 3 (by simp [depF]) rfl))
  · exact step13 h hi hg (hyl 3 _ (by omega) (hg 3 (by simp [depF]) rfl))
  · exact step14 h hi hg
  · exact step15 h hi hg
  · exact step16 h hi hg
  · exact step17 h hi hg
  · exact step18 h hi hg (hyl 17 _ (by omega) (hg 17 (by simp [depF]) rfl))
  · exact step19 h hi hg (hyl 17 _ (by omega) (hg 17 (by simp [depF]) rfl))
  · exact step20 h hi hg
  · exact step21 h hi hg
  · exact step22 h hi hg
  · exact step23 h hi hg
  · exact step24 h hi hg (hyl 23 _ (by omega) (hg 23 (by simp [depF]) rfl))
  · exact step25 h hi hg (hyl 23 _ (by omega) (hg 23 (by simp [depF]) rfl))
  · exact step26 h hi hg (hyl 23 _ (by omega) (hg 23 (by simp [depF]) rfl))
  · exact step27 h hi hg (hyl 23 _ (by omega) (hg 23 (by simp [depF]) rfl))
  · exact step28 h hi hg (hyl 23 _ (by omega) (hg 23 (by simp [depF]) rfl))
  · exact step29 h hi hg (hyl 23 _ (by omega) (hg 23 (by simp [depF]) rfl))
  · exact step30 h hi hg (hyl 23 _ (by omega) (hg 23 (by simp [depF]) rfl))
  · exact step31 h hi hg (hyl 23 _ (by omega) (hg 23 (by simp [depF]) rfl))
  · exact step32 h hi hg
  · exact step33 h hi hg
  · exact step34 h hi hg
  · exact step35 h hi hg
  · exact step36 h hi hg (hyl 35 _ (by omega) (hg 35 (by simp [depF]) rfl))
  · exact step37 h hi hg (hyl 35 _ (by omega) (hg 35 (by simp [depF]) rfl))
  · exact step38 h hi hg (hyl 35 _ (by omega) (hg 35 (by simp [depF]) rfl))
  · exact step39 h hi hg
  · exact step40 h hi hg
  · exact step41 h hi hg
  · exact step42 h hi hg
def backB (ops : Array Oper) : Bool := (List.range ops.size).all fun i => ((ops[i]?).map fun o => o.after.all fun e => decide (e.on < i)).getD true
theorem back_of (h : backB ops = true) : ∀ (i : Nat) (o : Oper), ops[i]? = some o → ∀ e ∈ o.after, e.on < i := fun i o ho e he => by
  have hi := (Array.getElem?_eq_some_iff.1 ho).1
  have := List.all_eq_true.1 h i (List.mem_range.2 hi)
  rw [ho] at this
  simp only [Option.map_some, Option.getD_some] at this
  rw [Array.all_eq_true_iff_forall_mem] at this
  simpa using this e he
def depB (ops : Array Oper) : Bool := (List.range 43).all fun i => (depF i).all fun k => ((ops[i]?).map fun o => o.after.any fun e => e.on == k && Region.binds .any e).getD false
theorem isOp_of (h1 : ops.toList.map (fun o => (o.dst, o.op, o.guard)) = (List.range 43).map fun i => (some (slotF i), opF i, guF i)) (h2 : depB ops = true) : ops.size = 43 ∧ ∀ i o, ops[i]? = some o → IsOp ops i o := by
  have hsz : ops.size = 43 := by
    have := congrArg List.length h1
    simpa using this
  refine ⟨hsz, fun i o ho => ?_⟩
  have hi : i < 43 := by have := (Array.getElem?_eq_some_iff.1 ho).1; omega
  have e := congrArg (fun l => l[i]?) h1
  simp only [List.getElem?_map, Array.getElem?_toList, ho, Option.map_some, List.getElem?_range hi] at e
  injection e with e
  injection e with e1 e
  injection e with e2 e3
  refine ⟨e1, e2, e3, fun k hk => ?_⟩
  have := List.all_eq_true.1 (List.all_eq_true.1 h2 i (List.mem_range.2 hi)) k hk
  rw [ho] at this
  simp only [Option.map_some, Option.getD_some] at this
  rw [← Array.any_toList, List.any_eq_true] at this
  obtain ⟨x, hx, hv⟩ := this
  rw [Bool.and_eq_true] at hv
  exact ⟨x, Array.mem_toList_iff.1 hx, by simpa using hv.1, hv.2⟩
/-- Whether the options do not go together, as the region reckons it. -/
def oddP (p : Prm) : Bool := (!p.b1 && (p.lb || (p.tb || (p.b3 || (p.b4 || p.b5))))) || ((p.b2 && !p.lb) || ((p.b3 && ((p.t == 3) || (p.t == 4))) || (p.b7 && !p.b6)))
theorem check_region {id : Nat} (hm : Tryd.prog.follows .mixedOrders = true) (h1 : ops.toList.map (fun o => (o.dst, o.op, o.guard)) = (List.range 43).map fun i => (some (slotF i), opF i, guF i)) (h2 : depB ops = true) (h3 : backB ops = true) (h : HoldsAt p w0 w.drew a)
    (hend : ∀ a' w', HoldsAt p w0 w' a' → a'.tmps[19]? = some (.bool (oddP p)) → Q .normal a' w') : (Code.region id ops true).wp Tryd.prog Q a w := by
  obtain ⟨hsz, hops⟩ := isOp_of h1 h2
  exact wp_region_inv hm (fun a w => HoldsAt p w0 w a) (GoodAt p) (back_of h3) h (fun i o ho a w hS hd => all_steps hsz hops i o ho a w hS hd) (fun a' w' hS hG => hend a' w' hS (hG 42 (by omega) rfl))
end
set_option maxRecDepth 100000 in
theorem arr62 (t : Array Value) (h : t.size = 62) : ∃ u0 u1 u2 u3 u4 u5 u6 u7 u8 u9 u10 u11 u12 u13 u14 u15 u16 u17 u18 u19 u20 u21 u22 u23 u24 u25 u26 u27 u28 u29 u30 u31 u32 u33 u34 u35 u36 u37 u38 u39 u40 u41 u42 u43 u44 u45 u46 u47 u48 u49 u50 u51 u52 u53 u54 u55 u56 u57 u58 u59 u60 u61, t = #[u0, u1, u2, u3, u4, u5, u6, u7, u8, u9, u10, u11, u12, u13, u14, u15, u16, u17, u18, u19, u20, u21, u22, u23, u24, u25, u26, u27, u28, u29, u30, u31, u32, u33, u34, u35, u36, u37, u38, u39, u40, u41, u42, u43, u44, u45, u46, u47, u48, u49, u50, u51, u52, u53, u54, u55, u56, u57, u58, u59, u60, u61] := by
  obtain ⟨l⟩ := t
  simp only [List.size_toArray] at h
  rcases l with _ | ⟨u0, l⟩
  · simp at h
  rcases l with _ | ⟨u1, l⟩
  · simp at h
  rcases l with _ | ⟨u2, l⟩
  · simp at h
  rcases l with _ | ⟨u3, l⟩
  · simp at h
  rcases l with _ | ⟨u4, l⟩
  · simp at h
  rcases l with _ | ⟨u5, l⟩
  · simp at h
  rcases l with _ | ⟨u6, l⟩
  · simp at h
  rcases l with _ | ⟨u7, l⟩
  · simp at h
  rcases l with _ | ⟨u8, l⟩
  · simp at h
  rcases l with _ | ⟨u9, l⟩
  · simp at h
  rcases l with _ | ⟨u10, l⟩
  · simp at h
  rcases l with _ | ⟨u11, l⟩
  · simp at h
  rcases l with _ | ⟨u12, l⟩
  · simp at h
  rcases l with _ | ⟨u13, l⟩
  · simp at h
  rcases l with _ | ⟨u14, l⟩
  · simp at h
  rcases l with _ | ⟨u15, l⟩
  · simp at h
  rcases l with _ | ⟨u16, l⟩
  · simp at h
  rcases l with _ | ⟨u17, l⟩
  · simp at h
  rcases l with _ | ⟨u18, l⟩
  · simp at h
  rcases l with _ | ⟨u19, l⟩
  · simp at h
  rcases l with _ | ⟨u20, l⟩
  · simp at h
  rcases l with _ | ⟨u21, l⟩
  · simp at h
  rcases l with _ | ⟨u22, l⟩
  · simp at h
  rcases l with _ | ⟨u23, l⟩
  · simp at h
  rcases l with _ | ⟨u24, l⟩
  · simp at h
  rcases l with _ | ⟨u25, l⟩
  · simp at h
  rcases l with _ | ⟨u26, l⟩
  · simp at h
  rcases l with _ | ⟨u27, l⟩
  · simp at h
  rcases l with _ | ⟨u28, l⟩
  · simp at h
  rcases l with _ | ⟨u29, l⟩
  · simp at h
  rcases l with _ | ⟨u30, l⟩
  · simp at h
  rcases l with _ | ⟨u31, l⟩
  · simp at h
  rcases l with _ | ⟨u32, l⟩
  · simp at h
  rcases l with _ | ⟨u33, l⟩
  · simp at h
  rcases l with _ | ⟨u34, l⟩
  · simp at h
  rcases l with _ | ⟨u35, l⟩
  · simp at h
  rcases l with _ | ⟨u36, l⟩
  · simp at h
  rcases l with _ | ⟨u37, l⟩
  · simp at h
  rcases l with _ | ⟨u38, l⟩
  · simp at h
  rcases l with _ | ⟨u39, l⟩
  · simp at h
  rcases l with _ | ⟨u40, l⟩
  · simp at h
  rcases l with _ | ⟨u41, l⟩
  · simp at h
  rcases l with _ | ⟨u42, l⟩
  · simp at h
  rcases l with _ | ⟨u43, l⟩
  · simp at h
  rcases l with _ | ⟨u44, l⟩
  · simp at h
  rcases l with _ | ⟨u45, l⟩
  · simp at h
  rcases l with _ | ⟨u46, l⟩
  · simp at h
  rcases l with _ | ⟨u47, l⟩
  · simp at h
  rcases l with _ | ⟨u48, l⟩
  · simp at h
  rcases l with _ | ⟨u49, l⟩
  · simp at h
  rcases l with _ | ⟨u50, l⟩
  · simp at h
  rcases l with _ | ⟨u51, l⟩
  · simp at h
  rcases l with _ | ⟨u52, l⟩
  · simp at h
  rcases l with _ | ⟨u53, l⟩
  · simp at h
  rcases l with _ | ⟨u54, l⟩
  · simp at h
  rcases l with _ | ⟨u55, l⟩
  · simp at h
  rcases l with _ | ⟨u56, l⟩
  · simp at h
  rcases l with _ | ⟨u57, l⟩
  · simp at h
  rcases l with _ | ⟨u58, l⟩
  · simp at h
  rcases l with _ | ⟨u59, l⟩
  · simp at h
  rcases l with _ | ⟨u60, l⟩
  · simp at h
  rcases l with _ | ⟨u61, l⟩
  · simp at h
  rcases l with _ | ⟨x, l⟩
  · exact ⟨u0, u1, u2, u3, u4, u5, u6, u7, u8, u9, u10, u11, u12, u13, u14, u15, u16, u17, u18, u19, u20, u21, u22, u23, u24, u25, u26, u27, u28, u29, u30, u31, u32, u33, u34, u35, u36, u37, u38, u39, u40, u41, u42, u43, u44, u45, u46, u47, u48, u49, u50, u51, u52, u53, u54, u55, u56, u57, u58, u59, u60, u61, rfl⟩
  · simp at h
end Go.Proofs.YtcdogkabdhbjmaaDoor
/- naskhplain.Right's region that draws its order. -/
namespace Go.Proofs.YtcdogkabdhbjmaaDoor
open Go.RowKit

structure RPrm where
  B : Nat
  o : Opt
def oldX (o : Opt) : Nat → Int
  | 0 => o.d
  | 1 => o.l
  | 2 => o.t
  | _ => o.g
def mostX : Nat → Int
  | 0 => 3
  | _ => 4
def newX (o : Opt) (j : Nat) : Int := heldF (oldX o j) (mostX j)
theorem heldF_twice (n m : Int) (hm : 0 ≤ m ∧ m ≤ 4) : heldF (heldF n m) m = heldF n m := by
  have h := heldF_le n m hm.1
  have e : heldF (heldF n m) m = heldF n m % 18446744073709551616 % (m + 1) := rfl
  rw [e]
  have e1 : heldF n m % 18446744073709551616 = heldF n m := Int.emod_eq_of_lt h.1 (by omega)
  rw [e1]
  exact Int.emod_eq_of_lt h.1 (by omega)
def slotR (i : Nat) : Option Nat := if i < 12 then some (3 + i) else if i = 12 then some 15 else if i = 14 then some 16 else if i = 16 then some 17 else if i = 18 then some 18 else none
def valR (p : RPrm) (i : Nat) (v : Value) : Prop := match i with
  | 0 => v = .pointer (some ⟨p.B, 0, none⟩)
  | 1 => ∃ y, v = .int .i64 y ∧ heldF y 3 = newX p.o 0
  | 2 => v = .int .i64 (newX p.o 0)
  | 3 => v = .pointer (some ⟨p.B, 1, none⟩)
  | 4 => ∃ y, v = .int .i64 y ∧ heldF y 4 = newX p.o 1
  | 5 => v = .int .i64 (newX p.o 1)
  | 6 => v = .pointer (some ⟨p.B, 2, none⟩)
  | 7 => ∃ y, v = .int .i64 y ∧ heldF y 4 = newX p.o 2
  | 8 => v = .int .i64 (newX p.o 2)
  | 9 => v = .pointer (some ⟨p.B, 3, none⟩)
  | 10 => ∃ y, v = .int .i64 y ∧ heldF y 4 = newX p.o 3
  | 11 => v = .int .i64 (newX p.o 3)
  | 12 => v = .pointer (some ⟨p.B, 0, none⟩)
  | 14 => v = .pointer (some ⟨p.B, 1, none⟩)
  | 16 => v = .pointer (some ⟨p.B, 2, none⟩)
  | 18 => v = .pointer (some ⟨p.B, 3, none⟩)
  | _ => True
def cellOkR (p : RPrm) (i : Nat) (w : World) : Prop := match i with
  | 13 => w.cell? ⟨p.B, 0, none⟩ = some (.int .i64 (newX p.o 0))
  | 15 => w.cell? ⟨p.B, 1, none⟩ = some (.int .i64 (newX p.o 1))
  | 17 => w.cell? ⟨p.B, 2, none⟩ = some (.int .i64 (newX p.o 2))
  | 19 => w.cell? ⟨p.B, 3, none⟩ = some (.int .i64 (newX p.o 3))
  | _ => True
def GoodR (p : RPrm) (i : Nat) (a : Act) (w : World) : Prop := (∀ s, slotR i = some s → ∃ v, a.tmps[s]? = some v ∧ valR p i v) ∧ cellOkR p i w
structure HoldsR (p : RPrm) (w0 : World) (w : World) (a : Act) : Prop where
  defers : a.defers = []
  size : a.tmps.size = 45
  s1 : a.tmps[1]? = some (.pointer (some ⟨p.B, 0, none⟩))
  s2 : ∃ r, a.tmps[2]? = some (.pointer (some ⟨r, 0, none⟩)) ∧ r ≠ p.B ∧ OptAt w r Opt.zero ∧ p.B ≤ r
  cells : ∃ y0 y1 y2 y3, OptAt w p.B ⟨y0, y1, y2, y3, p.o.b0, p.o.b1, p.o.b2, p.o.b3, p.o.b4, p.o.b5, p.o.b6, p.o.b7, p.o.b8, p.o.b9⟩ ∧ heldF y0 3 = newX p.o 0 ∧ heldF y1 4 = newX p.o 1 ∧ heldF y2 4 = newX p.o 2 ∧ heldF y3 4 = newX p.o 3
  below : ∀ B ww, B ≤ p.B → Below B ww w0 → Below B ww w
theorem slotR_inj {i j s : Nat} (hi : slotR i = some s) (hj : slotR j = some s) : i = j := by
  unfold slotR at hi hj
  repeat' split at hi
  all_goals repeat' split at hj
  all_goals simp only [Option.some.injEq, reduceCtorEq] at hi hj
  all_goals omega
theorem slotR_lt {i s : Nat} (h : slotR i = some s) : 3 ≤ s ∧ s < 19 := by
  unfold slotR at h
  repeat' split at h
  all_goals first | cases h; omega | cases h
theorem tmps_put {a : Act} {s k : Nat} {v : Value} (h : k ≠ s) : (a.put (some s) v).tmps[k]? = a.tmps[k]? := by
  simp only [Act.put]
  exact Array.getElem?_setIfInBounds_ne (fun e => h e.symm)
/-- Behind an operation that yields v and leaves the memory as it is. -/
theorem doneR {p : RPrm} {w0 w : World} {a : Act} {i s : Nat} (h : HoldsR p w0 w a) (hs : slotR i = some s) (v : Value) (hv : valR p i v) (hc : cellOkR p i w) :
    HoldsR p w0 w (a.put (some s) v) ∧ GoodR p i (a.put (some s) v) w ∧ ∀ j, j ≠ i → GoodR p j a w → GoodR p j (a.put (some s) v) w := by
  obtain ⟨h3, h19⟩ := slotR_lt hs
  refine ⟨⟨h.defers, by simpa [Act.put] using h.size, by rw [tmps_put (by omega)]; exact h.s1, ?_, h.cells, h.below⟩, ⟨fun s' hs' => ?_, hc⟩, fun j hj hg => ⟨fun s' hs' => ?_, hg.2⟩⟩
  · obtain ⟨r, hr, hr2⟩ := h.s2
    exact ⟨r, by rw [tmps_put (by omega)]; exact hr, hr2⟩
  · rw [hs] at hs'
    obtain rfl := Option.some.inj hs'
    exact ⟨v, by
      have hsz := h.size
      simp only [Act.put]
      rw [Array.getElem?_setIfInBounds_self_of_lt (by omega)], hv⟩
  · obtain ⟨v', hv', hv2⟩ := hg.1 s' hs'
    exact ⟨v', by rw [tmps_put (k := s') (s := s) (fun e : s' = s => hj (slotR_inj hs' (by rw [e]; exact hs)))]; exact hv', hv2⟩
theorem OptAt.far {W : World} {b c : Nat} {o : Opt} (h : OptAt W b o) (hc : b ≠ c) (j : Nat) (u : Value) : OptAt (W.setCell ⟨c, j, none⟩ u) b o :=
  ⟨fun i v hv => (World.cell?_setCell_other (h := fun e => hc (by injection e with e1 _ _; exact e1.symm)) ..).trans (h.1 i v hv), fun i => (frozen_set ..).trans (h.2 i)⟩
theorem cell_far {p : RPrm} {k : Nat} {w : World} (hg : cellOkR p k w) (j : Nat) (_hj : j < 4) (hk : k ≠ 13 + 2 * j) (u : Value) : cellOkR p k (w.setCell ⟨p.B, j, none⟩ u) := by
  by_cases h1 : k = 13
  · subst h1
    exact set_other hg (by omega)
  · by_cases h2 : k = 15
    · subst h2
      exact set_other hg (by omega)
    · by_cases h3 : k = 17
      · subst h3
        exact set_other hg (by omega)
      · by_cases h4 : k = 19
        · subst h4
          exact set_other hg (by omega)
        · unfold cellOkR
          split <;> first | omega | trivial
def opR : Nat → Op
  | 0 => .fieldAddr 23 (.tmp 1) 0
  | 1 => .load 3 (.tmp 3)
  | 2 => .call { callee := .value (.func 39), args := #[.tmp 4, .const (.int .i64 3)], argTypes := #[3, 3] }
  | 3 => .fieldAddr 23 (.tmp 1) 1
  | 4 => .load 3 (.tmp 6)
  | 5 => .call { callee := .value (.func 39), args := #[.tmp 7, .const (.int .i64 4)], argTypes := #[3, 3] }
  | 6 => .fieldAddr 23 (.tmp 1) 2
  | 7 => .load 3 (.tmp 9)
  | 8 => .call { callee := .value (.func 39), args := #[.tmp 10, .const (.int .i64 4)], argTypes := #[3, 3] }
  | 9 => .fieldAddr 23 (.tmp 1) 3
  | 10 => .load 3 (.tmp 12)
  | 11 => .call { callee := .value (.func 39), args := #[.tmp 13, .const (.int .i64 4)], argTypes := #[3, 3] }
  | 12 => .fieldAddr 23 (.tmp 1) 0
  | 13 => .store 3 (.tmp 15) (.tmp 5)
  | 14 => .fieldAddr 23 (.tmp 1) 1
  | 15 => .store 3 (.tmp 16) (.tmp 8)
  | 16 => .fieldAddr 23 (.tmp 1) 2
  | 17 => .store 3 (.tmp 17) (.tmp 11)
  | 18 => .fieldAddr 23 (.tmp 1) 3
  | 19 => .store 3 (.tmp 18) (.tmp 14)
  | _ => .move (.tmp 0)
def depR : Nat → List Nat
  | 1 => [0]
  | 2 => [1]
  | 13 => [12, 2]
  | 4 => [3]
  | 5 => [4]
  | 15 => [14, 5]
  | 7 => [6]
  | 8 => [7]
  | 17 => [16, 8]
  | 10 => [9]
  | 11 => [10]
  | 19 => [18, 11]
  | _ => []
structure IsOpR (ops : Array Oper) (i : Nat) (o : Oper) : Prop where
  dst : o.dst = slotR i
  op : o.op = opR i
  guard : o.guard = none
  deps : ∀ k ∈ depR i, ∃ e ∈ o.after, e.on = k ∧ Region.binds .any e = true
section
variable {p : RPrm} {w0 w : World} {a : Act} {Q : Exit → Act → World → Prop} {o : Oper} {ops : Array Oper}
def StepR (p : RPrm) (w0 : World) (Q : Exit → Act → World → Prop) (ops : Array Oper) (i : Nat) (o : Oper) (a : Act) (w : World) : Prop :=
  if Region.wanted o (yielded ops a.tmps) = true then o.wp Tryd.prog a w (fun a' w' => HoldsR p w0 w' a' ∧ GoodR p i a' w' ∧ ∀ j, j ≠ i → GoodR p j a w → GoodR p j a' w') Q else HoldsR p w0 w (a.put o.dst undef) ∧ GoodR p i (a.put o.dst undef) w ∧ ∀ j, j ≠ i → GoodR p j a w → GoodR p j (a.put o.dst undef) w
theorem oper_skip {K : Act → World → Prop} {w' : World} (h : (execOp a.eval o).run Tryd.prog w = .ok .skip w') (hd : o.dst = none) (hk : K a w') : o.wp Tryd.prog a w K Q := by
  unfold Oper.wp
  rw [h]
  show K (a.put o.dst undef) w'
  rw [hd]
  exact hk
theorem fieldR0 (B : Nat) (w : World) : (Instr.fieldAt 23 (.pointer (some ⟨B, 0, none⟩)) 0).run Tryd.prog w = .ok (.pointer (some ⟨B, 0, none⟩)) w := by
  go_simp
theorem fieldR1 (B : Nat) (w : World) : (Instr.fieldAt 23 (.pointer (some ⟨B, 0, none⟩)) 1).run Tryd.prog w = .ok (.pointer (some ⟨B, 1, none⟩)) w := by
  go_simp
theorem fieldR2 (B : Nat) (w : World) : (Instr.fieldAt 23 (.pointer (some ⟨B, 0, none⟩)) 2).run Tryd.prog w = .ok (.pointer (some ⟨B, 2, none⟩)) w := by
  go_simp
theorem fieldR3 (B : Nat) (w : World) : (Instr.fieldAt 23 (.pointer (some ⟨B, 0, none⟩)) 3).run Tryd.prog w = .ok (.pointer (some ⟨B, 3, none⟩)) w := by
  go_simp
theorem stepR0 (h : HoldsR p w0 w a) (hi : IsOpR ops 0 o) (_hg : ∀ k ∈ depR 0, GoodR p k a w) : StepR p w0 Q ops 0 o a w := by
  unfold StepR
  rw [if_pos (wanted_none hi.guard)]
  refine oper_val (v := .pointer (some ⟨p.B, 0, none⟩)) (w' := w) ?_ ?_
  · unfold execOp
    simp only [hi.op, opR, evalT h.s1, Sem.run_bind, fieldR0, Result.andThen_ok]
    rfl
  · rw [hi.dst]
    exact doneR h (s := 3) rfl _ rfl trivial
theorem stepR12 (h : HoldsR p w0 w a) (hi : IsOpR ops 12 o) (_hg : ∀ k ∈ depR 12, GoodR p k a w) : StepR p w0 Q ops 12 o a w := by
  unfold StepR
  rw [if_pos (wanted_none hi.guard)]
  refine oper_val (v := .pointer (some ⟨p.B, 0, none⟩)) (w' := w) ?_ ?_
  · unfold execOp
    simp only [hi.op, opR, evalT h.s1, Sem.run_bind, fieldR0, Result.andThen_ok]
    rfl
  · rw [hi.dst]
    exact doneR h (s := 15) rfl _ rfl trivial
theorem stepR1 (h : HoldsR p w0 w a) (hi : IsOpR ops 1 o) (hg : ∀ k ∈ depR 1, GoodR p k a w) : StepR p w0 Q ops 1 o a w := by
  unfold StepR
  rw [if_pos (wanted_none hi.guard)]
  obtain ⟨v, hv, rfl⟩ := (hg 0 (by simp [depR])).1 3 rfl
  obtain ⟨y0, y1, y2, y3, hO, e0, e1, e2, e3⟩ := h.cells
  have hc : w.cell? ⟨p.B, 0, none⟩ = some (.int .i64 y0) := hO.1 0 _ rfl
  have e : a.eval (.tmp 3) = .pointer (some ⟨p.B, 0, none⟩) := evalT hv
  refine oper_val (v := .int .i64 y0) (w' := w) ?_ ?_
  · unfold execOp
    simp only [hi.op, opR]
    rw [e]
    go_simp
  · rw [hi.dst]
    exact doneR h (s := 4) rfl _ ⟨y0, rfl, e0⟩ trivial
theorem stepR2 (h : HoldsR p w0 w a) (hi : IsOpR ops 2 o) (hg : ∀ k ∈ depR 2, GoodR p k a w) : StepR p w0 Q ops 2 o a w := by
  unfold StepR
  rw [if_pos (wanted_none hi.guard)]
  obtain ⟨v, hv, y, rfl, hy⟩ := (hg 1 (by simp [depR])).1 4 rfl
  refine oper_enter (f := 39) (args := #[.int .i64 y, .int .i64 3]) ?_ (.int .i64 (newX p.o 0)) ?_ ?_
  · unfold execOp
    simp only [hi.op, opR]
    simp [hv, go_sem]
  · rw [← hy]
    exact held_any y 3 (by decide) w
  · rw [hi.dst]
    exact doneR h (s := 5) rfl _ rfl trivial
theorem stepR13 (h : HoldsR p w0 w a) (hi : IsOpR ops 13 o) (hg : ∀ k ∈ depR 13, GoodR p k a w) : StepR p w0 Q ops 13 o a w := by
  unfold StepR
  rw [if_pos (wanted_none hi.guard)]
  obtain ⟨v, hv, rfl⟩ := (hg 12 (by simp [depR])).1 15 rfl
  obtain ⟨u, hu, rfl⟩ := (hg 2 (by simp [depR])).1 5 rfl
  obtain ⟨y0, y1, y2, y3, hO, e0, e1, e2, e3⟩ := h.cells
  have hc : w.cell? ⟨p.B, 0, none⟩ = some (.int .i64 y0) := hO.1 0 _ rfl
  have hf := hO.2 0
  have ev : a.eval (.tmp 15) = .pointer (some ⟨p.B, 0, none⟩) := evalT hv
  have eu : a.eval (.tmp 5) = .int .i64 (newX p.o 0) := evalT hu
  refine oper_skip (w' := w.setCell ⟨p.B, 0, none⟩ (.int .i64 (newX p.o 0))) ?_ (by rw [hi.dst]; rfl) ?_
  · unfold execOp
    simp only [hi.op, opR]
    rw [ev, eu]
    go_simp
  · refine ⟨⟨h.defers, h.size, h.s1, ?_, ⟨newX p.o 0, y1, y2, y3, hO.set0 _, heldF_twice _ _ (by decide), e1, e2, e3⟩, fun B ww hB hb => below_setB (h.below B ww hB hb) hB _ _⟩, ⟨(fun s' hs' => by cases hs'), set_same hc⟩, fun k hk hg => ?_⟩
    · obtain ⟨r, hr, hne, hr2, hr3⟩ := h.s2
      exact ⟨r, hr, hne, hr2.far hne _ _, hr3⟩
    · refine ⟨hg.1, ?_⟩
      exact cell_far hg.2 0 (by decide) hk _
theorem stepR3 (h : HoldsR p w0 w a) (hi : IsOpR ops 3 o) (_hg : ∀ k ∈ depR 3, GoodR p k a w) : StepR p w0 Q ops 3 o a w := by
  unfold StepR
  rw [if_pos (wanted_none hi.guard)]
  refine oper_val (v := .pointer (some ⟨p.B, 1, none⟩)) (w' := w) ?_ ?_
  · unfold execOp
    simp only [hi.op, opR, evalT h.s1, Sem.run_bind, fieldR1, Result.andThen_ok]
    rfl
  · rw [hi.dst]
    exact doneR h (s := 6) rfl _ rfl trivial
theorem stepR14 (h : HoldsR p w0 w a) (hi : IsOpR ops 14 o) (_hg : ∀ k ∈ depR 14, GoodR p k a w) : StepR p w0 Q ops 14 o a w := by
  unfold StepR
  rw [if_pos (wanted_none hi.guard)]
  refine oper_val (v := .pointer (some ⟨p.B, 1, none⟩)) (w' := w) ?_ ?_
  · unfold execOp
    simp only [hi.op, opR, evalT h.s1, Sem.run_bind, fieldR1, Result.andThen_ok]
    rfl
  · rw [hi.dst]
    exact doneR h (s := 16) rfl _ rfl trivial
theorem stepR4 (h : HoldsR p w0 w a) (hi : IsOpR ops 4 o) (hg : ∀ k ∈ depR 4, GoodR p k a w) : StepR p w0 Q ops 4 o a w := by
  unfold StepR
  rw [if_pos (wanted_none hi.guard)]
  obtain ⟨v, hv, rfl⟩ := (hg 3 (by simp [depR])).1 6 rfl
  obtain ⟨y0, y1, y2, y3, hO, e0, e1, e2, e3⟩ := h.cells
  have hc : w.cell? ⟨p.B, 1, none⟩ = some (.int .i64 y1) := hO.1 1 _ rfl
  have e : a.eval (.tmp 6) = .pointer (some ⟨p.B, 1, none⟩) := evalT hv
  refine oper_val (v := .int .i64 y1) (w' := w) ?_ ?_
  · unfold execOp
    simp only [hi.op, opR]
    rw [e]
    go_simp
  · rw [hi.dst]
    exact doneR h (s := 7) rfl _ ⟨y1, rfl, e1⟩ trivial
theorem stepR5 (h : HoldsR p w0 w a) (hi : IsOpR ops 5 o) (hg : ∀ k ∈ depR 5, GoodR p k a w) : StepR p w0 Q ops 5 o a w := by
  unfold StepR
  rw [if_pos (wanted_none hi.guard)]
  obtain ⟨v, hv, y, rfl, hy⟩ := (hg 4 (by simp [depR])).1 7 rfl
  refine oper_enter (f := 39) (args := #[.int .i64 y, .int .i64 4]) ?_ (.int .i64 (newX p.o 1)) ?_ ?_
  · unfold execOp
    simp only [hi.op, opR]
    simp [hv, go_sem]
  · rw [← hy]
    exact held_any y 4 (by decide) w
  · rw [hi.dst]
    exact doneR h (s := 8) rfl _ rfl trivial
theorem stepR15 (h : HoldsR p w0 w a) (hi : IsOpR ops 15 o) (hg : ∀ k ∈ depR 15, GoodR p k a w) : StepR p w0 Q ops 15 o a w := by
  unfold StepR
  rw [if_pos (wanted_none hi.guard)]
  obtain ⟨v, hv, rfl⟩ := (hg 14 (by simp [depR])).1 16 rfl
  obtain ⟨u, hu, rfl⟩ := (hg 5 (by simp [depR])).1 8 rfl
  obtain ⟨y0, y1, y2, y3, hO, e0, e1, e2, e3⟩ := h.cells
  have hc : w.cell? ⟨p.B, 1, none⟩ = some (.int .i64 y1) := hO.1 1 _ rfl
  have hf := hO.2 1
  have ev : a.eval (.tmp 16) = .pointer (some ⟨p.B, 1, none⟩) := evalT hv
  have eu : a.eval (.tmp 8) = .int .i64 (newX p.o 1) := evalT hu
  refine oper_skip (w' := w.setCell ⟨p.B, 1, none⟩ (.int .i64 (newX p.o 1))) ?_ (by rw [hi.dst]; rfl) ?_
  · unfold execOp
    simp only [hi.op, opR]
    rw [ev, eu]
    go_simp
  · refine ⟨⟨h.defers, h.size, h.s1, ?_, ⟨y0, newX p.o 1, y2, y3, hO.set1 _, e0, heldF_twice _ _ (by decide), e2, e3⟩, fun B ww hB hb => below_setB (h.below B ww hB hb) hB _ _⟩, ⟨(fun s' hs' => by cases hs'), set_same hc⟩, fun k hk hg => ?_⟩
    · obtain ⟨r, hr, hne, hr2, hr3⟩ := h.s2
      exact ⟨r, hr, hne, hr2.far hne _ _, hr3⟩
    · refine ⟨hg.1, ?_⟩
      exact cell_far hg.2 1 (by decide) hk _
theorem stepR6 (h : HoldsR p w0 w a) (hi : IsOpR ops 6 o) (_hg : ∀ k ∈ depR 6, GoodR p k a w) : StepR p w0 Q ops 6 o a w := by
  unfold StepR
  rw [if_pos (wanted_none hi.guard)]
  refine oper_val (v := .pointer (some ⟨p.B, 2, none⟩)) (w' := w) ?_ ?_
  · unfold execOp
    simp only [hi.op, opR, evalT h.s1, Sem.run_bind, fieldR2, Result.andThen_ok]
    rfl
  · rw [hi.dst]
    exact doneR h (s := 9) rfl _ rfl trivial
theorem stepR16 (h : HoldsR p w0 w a) (hi : IsOpR ops 16 o) (_hg : ∀ k ∈ depR 16, GoodR p k a w) : StepR p w0 Q ops 16 o a w := by
  unfold StepR
  rw [if_pos (wanted_none hi.guard)]
  refine oper_val (v := .pointer (some ⟨p.B, 2, none⟩)) (w' := w) ?_ ?_
  · unfold execOp
    simp only [hi.op, opR, evalT h.s1, Sem.run_bind, fieldR2, Result.andThen_ok]
    rfl
  · rw [hi.dst]
    exact doneR h (s := 17) rfl _ rfl trivial
theorem stepR7 (h : HoldsR p w0 w a) (hi : IsOpR ops 7 o) (hg : ∀ k ∈ depR 7, GoodR p k a w) : StepR p w0 Q ops 7 o a w := by
  unfold StepR
  rw [if_pos (wanted_none hi.guard)]
  obtain ⟨v, hv, rfl⟩ := (hg 6 (by simp [depR])).1 9 rfl
  obtain ⟨y0, y1, y2, y3, hO, e0, e1, e2, e3⟩ := h.cells
  have hc : w.cell? ⟨p.B, 2, none⟩ = some (.int .i64 y2) := hO.1 2 _ rfl
  have e : a.eval (.tmp 9) = .pointer (some ⟨p.B, 2, none⟩) := evalT hv
  refine oper_val (v := .int .i64 y2) (w' := w) ?_ ?_
  · unfold execOp
    simp only [hi.op, opR]
    rw [e]
    go_simp
  · rw [hi.dst]
    exact doneR h (s := 10) rfl _ ⟨y2, rfl, e2⟩ trivial
theorem stepR8 (h : HoldsR p w0 w a) (hi : IsOpR ops 8 o) (hg : ∀ k ∈ depR 8, GoodR p k a w) : StepR p w0 Q ops 8 o a w := by
  unfold StepR
  rw [if_pos (wanted_none hi.guard)]
  obtain ⟨v, hv, y, rfl, hy⟩ := (hg 7 (by simp [depR])).1 10 rfl
  refine oper_enter (f := 39) (args := #[.int .i64 y, .int .i64 4]) ?_ (.int .i64 (newX p.o 2)) ?_ ?_
  · unfold execOp
    simp only [hi.op, opR]
    simp [hv, go_sem]
  · rw [← hy]
    exact held_any y 4 (by decide) w
  · rw [hi.dst]
    exact doneR h (s := 11) rfl _ rfl trivial
theorem stepR17 (h : HoldsR p w0 w a) (hi : IsOpR ops 17 o) (hg : ∀ k ∈ depR 17, GoodR p k a w) : StepR p w0 Q ops 17 o a w := by
  unfold StepR
  rw [if_pos (wanted_none hi.guard)]
  obtain ⟨v, hv, rfl⟩ := (hg 16 (by simp [depR])).1 17 rfl
  obtain ⟨u, hu, rfl⟩ := (hg 8 (by simp [depR])).1 11 rfl
  obtain ⟨y0, y1, y2, y3, hO, e0, e1, e2, e3⟩ := h.cells
  have hc : w.cell? ⟨p.B, 2, none⟩ = some (.int .i64 y2) := hO.1 2 _ rfl
  have hf := hO.2 2
  have ev : a.eval (.tmp 17) = .pointer (some ⟨p.B, 2, none⟩) := evalT hv
  have eu : a.eval (.tmp 11) = .int .i64 (newX p.o 2) := evalT hu
  refine oper_skip (w' := w.setCell ⟨p.B, 2, none⟩ (.int .i64 (newX p.o 2))) ?_ (by rw [hi.dst]; rfl) ?_
  · unfold execOp
    simp only [hi.op, opR]
    rw [ev, eu]
    go_simp
  · refine ⟨⟨h.defers, h.size, h.s1, ?_, ⟨y0, y1, newX p.o 2, y3, hO.set2 _, e0, e1, heldF_twice _ _ (by decide), e3⟩, fun B ww hB hb => below_setB (h.below B ww hB hb) hB _ _⟩, ⟨(fun s' hs' => by cases hs'), set_same hc⟩, fun k hk hg => ?_⟩
    · obtain ⟨r, hr, hne, hr2, hr3⟩ := h.s2
      exact ⟨r, hr, hne, hr2.far hne _ _, hr3⟩
    · refine ⟨hg.1, ?_⟩
      exact cell_far hg.2 2 (by decide) hk _
theorem stepR9 (h : HoldsR p w0 w a) (hi : IsOpR ops 9 o) (_hg : ∀ k ∈ depR 9, GoodR p k a w) : StepR p w0 Q ops 9 o a w := by
  unfold StepR
  rw [if_pos (wanted_none hi.guard)]
  refine oper_val (v := .pointer (some ⟨p.B, 3, none⟩)) (w' := w) ?_ ?_
  · unfold execOp
    simp only [hi.op, opR, evalT h.s1, Sem.run_bind, fieldR3, Result.andThen_ok]
    rfl
  · rw [hi.dst]
    exact doneR h (s := 12) rfl _ rfl trivial
theorem stepR18 (h : HoldsR p w0 w a) (hi : IsOpR ops 18 o) (_hg : ∀ k ∈ depR 18, GoodR p k a w) : StepR p w0 Q ops 18 o a w := by
  unfold StepR
  rw [if_pos (wanted_none hi.guard)]
  refine oper_val (v := .pointer (some ⟨p.B, 3, none⟩)) (w' := w) ?_ ?_
  · unfold execOp
    simp only [hi.op, opR, evalT h.s1, Sem.run_bind, fieldR3, Result.andThen_ok]
    rfl
  · rw [hi.dst]
    exact doneR h (s := 18) rfl _ rfl trivial
theorem stepR10 (h : HoldsR p w0 w a) (hi : IsOpR ops 10 o) (hg : ∀ k ∈ depR 10, GoodR p k a w) : StepR p w0 Q ops 10 o a w := by
  unfold StepR
  rw [if_pos (wanted_none hi.guard)]
  obtain ⟨v, hv, rfl⟩ := (hg 9 (by simp [depR])).1 12 rfl
  obtain ⟨y0, y1, y2, y3, hO, e0, e1, e2, e3⟩ := h.cells
  have hc : w.cell? ⟨p.B, 3, none⟩ = some (.int .i64 y3) := hO.1 3 _ rfl
  have e : a.eval (.tmp 12) = .pointer (some ⟨p.B, 3, none⟩) := evalT hv
  refine oper_val (v := .int .i64 y3) (w' := w) ?_ ?_
  · unfold execOp
    simp only [hi.op, opR]
    rw [e]
    go_simp
  · rw [hi.dst]
    exact doneR h (s := 13) rfl _ ⟨y3, rfl, e3⟩ trivial
theorem stepR11 (h : HoldsR p w0 w a) (hi : IsOpR ops 11 o) (hg : ∀ k ∈ depR 11, GoodR p k a w) : StepR p w0 Q ops 11 o a w := by
  unfold StepR
  rw [if_pos (wanted_none hi.guard)]
  obtain ⟨v, hv, y, rfl, hy⟩ := (hg 10 (by simp [depR])).1 13 rfl
  refine oper_enter (f := 39) (args := #[.int .i64 y, .int .i64 4]) ?_ (.int .i64 (newX p.o 3)) ?_ ?_
  · unfold execOp
    simp only [hi.op, opR]
    simp [hv, go_sem]
  · rw [← hy]
    exact held_any y 4 (by decide) w
  · rw [hi.dst]
    exact doneR h (s := 14) rfl _ rfl trivial
theorem stepR19 (h : HoldsR p w0 w a) (hi : IsOpR ops 19 o) (hg : ∀ k ∈ depR 19, GoodR p k a w) : StepR p w0 Q ops 19 o a w := by
  unfold StepR
  rw [if_pos (wanted_none hi.guard)]
  obtain ⟨v, hv, rfl⟩ := (hg 18 (by simp [depR])).1 18 rfl
  obtain ⟨u, hu, rfl⟩ := (hg 11 (by simp [depR])).1 14 rfl
  obtain ⟨y0, y1, y2, y3, hO, e0, e1, e2, e3⟩ := h.cells
  have hc : w.cell? ⟨p.B, 3, none⟩ = some (.int .i64 y3) := hO.1 3 _ rfl
  have hf := hO.2 3
  have ev : a.eval (.tmp 18) = .pointer (some ⟨p.B, 3, none⟩) := evalT hv
  have eu : a.eval (.tmp 14) = .int .i64 (newX p.o 3) := evalT hu
  refine oper_skip (w' := w.setCell ⟨p.B, 3, none⟩ (.int .i64 (newX p.o 3))) ?_ (by rw [hi.dst]; rfl) ?_
  · unfold execOp
    simp only [hi.op, opR]
    rw [ev, eu]
    go_simp
  · refine ⟨⟨h.defers, h.size, h.s1, ?_, ⟨y0, y1, y2, newX p.o 3, hO.set3 _, e0, e1, e2, heldF_twice _ _ (by decide)⟩, fun B ww hB hb => below_setB (h.below B ww hB hb) hB _ _⟩, ⟨(fun s' hs' => by cases hs'), set_same hc⟩, fun k hk hg => ?_⟩
    · obtain ⟨r, hr, hne, hr2, hr3⟩ := h.s2
      exact ⟨r, hr, hne, hr2.far hne _ _, hr3⟩
    · refine ⟨hg.1, ?_⟩
      exact cell_far hg.2 3 (by decide) hk _
theorem all_stepsR (hsz : ops.size = 20) (hops : ∀ i o, ops[i]? = some o → IsOpR ops i o) (i : Nat) (o : Oper) (ho : ops[i]? = some o) (a : Act) (w : World) (h : HoldsR p w0 w a) (hd : ∀ e ∈ o.after, Region.binds .any e = true → GoodR p e.on a w) : StepR p w0 Q ops i o a w := by
  have hi := hops i o ho
  have hlt : i < 20 := by have := (Array.getElem?_eq_some_iff.1 ho).1; omega
  have hg : ∀ k ∈ depR i, GoodR p k a w := fun k hk => by
    obtain ⟨e, he, rfl, hb⟩ := hi.deps k hk
    exact hd e he hb
  clear hd ho hops
  have hc : i = 0 ∨ i = 1 ∨ i = 2 ∨ i = 3 ∨ i = 4 ∨ i = 5 ∨ i = 6 ∨ i = 7 ∨ i = 8 ∨ i = 9 ∨ i = 10 ∨ i = 11 ∨ i = 12 ∨ i = 13 ∨ i = 14 ∨ i = 15 ∨ i = 16 ∨ i = 17 ∨ i = 18 ∨ i = 19 := by omega
  rcases hc with rfl | rfl | rfl | rfl | rfl | rfl | rfl | rfl | rfl | rfl | rfl | rfl | rfl | rfl | rfl | rfl | rfl | rfl | rfl | rfl
  · exact stepR0 h hi hg
  · exact stepR1 h hi hg
  · exact stepR2 h hi hg
  · exact stepR3 h hi hg
  · exact stepR4 h hi hg
  · exact stepR5 h hi hg
  · exact stepR6 h hi hg
  · exact stepR7 h hi hg
  · exact stepR8 h hi hg
  · exact stepR9 h hi hg
  · exact stepR10 h hi hg
  · exact stepR11 h hi hg
  · exact stepR12 h hi hg
  · exact stepR13 h hi hg
  · exact stepR14 h hi hg
  · exact stepR15 h hi hg
  · exact stepR16 h hi hg
  · exact stepR17 h hi hg
  · exact stepR18 h hi hg
  · exact stepR19 h hi hg
def depBR (ops : Array Oper) : Bool := (List.range 20).all fun i => (depR i).all fun k => ((ops[i]?).map fun o => o.after.any fun e => e.on == k && Region.binds .any e).getD false
theorem isOpR_of (h1 : ops.toList.map (fun o => (o.dst, o.op, o.guard)) = (List.range 20).map fun i => (slotR i, opR i, none)) (h2 : depBR ops = true) : ops.size = 20 ∧ ∀ i o, ops[i]? = some o → IsOpR ops i o := by
  have hsz : ops.size = 20 := by
    have := congrArg List.length h1
    simpa using this
  refine ⟨hsz, fun i o ho => ?_⟩
  have hi : i < 20 := by have := (Array.getElem?_eq_some_iff.1 ho).1; omega
  have e := congrArg (fun l => l[i]?) h1
  simp only [List.getElem?_map, Array.getElem?_toList, ho, Option.map_some, List.getElem?_range hi] at e
  injection e with e
  injection e with e1 e
  injection e with e2 e3
  refine ⟨e1, e2, e3, fun k hk => ?_⟩
  have := List.all_eq_true.1 (List.all_eq_true.1 h2 i (List.mem_range.2 hi)) k hk
  rw [ho] at this
  simp only [Option.map_some, Option.getD_some] at this
  rw [← Array.any_toList, List.any_eq_true] at this
  obtain ⟨x, hx, hv⟩ := this
  rw [Bool.and_eq_true] at hv
  exact ⟨x, Array.mem_toList_iff.1 hx, by simpa using hv.1, hv.2⟩
theorem right_region {id : Nat} (hm : Tryd.prog.follows .mixedOrders = true) (h1 : ops.toList.map (fun o => (o.dst, o.op, o.guard)) = (List.range 20).map fun i => (slotR i, opR i, none)) (h2 : depBR ops = true) (h3 : backB ops = true) (h : HoldsR p w0 w.drew a)
    (hend : ∀ a' w', HoldsR p w0 w' a' → OptAt w' p.B (heldO p.o) → Q .normal a' w') : (Code.region id ops true).wp Tryd.prog Q a w := by
  obtain ⟨hsz, hops⟩ := isOpR_of h1 h2
  refine wp_region_inv hm (fun a w => HoldsR p w0 w a) (GoodR p) (back_of h3) h (fun i o ho a w hS hd => all_stepsR hsz hops i o ho a w hS hd) (fun a' w' hS hG => hend a' w' hS ?_)
  obtain ⟨y0, y1, y2, y3, hO, _⟩ := hS.cells
  have g0 : w'.cell? ⟨p.B, 0, none⟩ = some (.int .i64 (newX p.o 0)) := (hG 13 (by omega)).2
  have g1 : w'.cell? ⟨p.B, 1, none⟩ = some (.int .i64 (newX p.o 1)) := (hG 15 (by omega)).2
  have g2 : w'.cell? ⟨p.B, 2, none⟩ = some (.int .i64 (newX p.o 2)) := (hG 17 (by omega)).2
  have g3 : w'.cell? ⟨p.B, 3, none⟩ = some (.int .i64 (newX p.o 3)) := (hG 19 (by omega)).2
  have c0 : w'.cell? ⟨p.B, 0, none⟩ = some (.int .i64 y0) := hO.1 0 _ rfl
  have c1 : w'.cell? ⟨p.B, 1, none⟩ = some (.int .i64 y1) := hO.1 1 _ rfl
  have c2 : w'.cell? ⟨p.B, 2, none⟩ = some (.int .i64 y2) := hO.1 2 _ rfl
  have c3 : w'.cell? ⟨p.B, 3, none⟩ = some (.int .i64 y3) := hO.1 3 _ rfl
  rw [g0] at c0
  rw [g1] at c1
  rw [g2] at c2
  rw [g3] at c3
  injection c0 with c0
  injection c0 with _ c0
  injection c1 with c1
  injection c1 with _ c1
  injection c2 with c2
  injection c2 with _ c2
  injection c3 with c3
  injection c3 with _ c3
  subst c0 c1 c2 c3
  exact hO
end
end Go.Proofs.YtcdogkabdhbjmaaDoor
/- Options that go together, made of any: naskhplain.Right. -/
namespace Go.Proofs.YtcdogkabdhbjmaaDoor
open Go.RowKit

/-- Where the options and the result's cell stand. -/
def RInv (B r : Nat) (w : World) (o : Opt) (wx : World) : Prop := OptAt wx B o ∧ OptAt wx r Opt.zero ∧ Below B w wx
theorem res_opt1 {fn : Func} {p : Tmp} (hf : fn.results = #[.cell p 23]) (tmps : Array Value) (w : World) (g : Nat) (o : Opt) (hp : tmps.getD p undef = .pointer (some ⟨g, 0, none⟩))
    (hO : OptAt w g o) : (results fn tmps).run Tryd.prog w = .ok o.val w := by
  have hc := hO.1
  have c0 := hc 0 _ rfl
  have c1 := hc 1 _ rfl
  have c2 := hc 2 _ rfl
  have c3 := hc 3 _ rfl
  have c4 := hc 4 _ rfl
  have c5 := hc 5 _ rfl
  have c6 := hc 6 _ rfl
  have c7 := hc 7 _ rfl
  have c8 := hc 8 _ rfl
  have c9 := hc 9 _ rfl
  have c10 := hc 10 _ rfl
  have c11 := hc 11 _ rfl
  have c12 := hc 12 _ rfl
  have c13 := hc 13 _ rfl
  have hp' : tmps[p]?.getD undef = .pointer (some ⟨g, 0, none⟩) := by simpa using hp
  obtain ⟨d, l, t, g, b0, b1, b2, b3, b4, b5, b6, b7, b8, b9⟩ := o
  simp only [Opt.val, Opt.cells] at *
  simp only [results, hf]
  clear hc hp hf hO
  go_simp
theorem arr45 (t : Array Value) (h : t.size = 45) : ∃ u0 u1 u2 u3 u4 u5 u6 u7 u8 u9 u10 u11 u12 u13 u14 u15 u16 u17 u18 u19 u20 u21 u22 u23 u24 u25 u26 u27 u28 u29 u30 u31 u32 u33 u34 u35 u36 u37 u38 u39 u40 u41 u42 u43 u44, t = #[u0, u1, u2, u3, u4, u5, u6, u7, u8, u9, u10, u11, u12, u13, u14, u15, u16, u17, u18, u19, u20, u21, u22, u23, u24, u25, u26, u27, u28, u29, u30, u31, u32, u33, u34, u35, u36, u37, u38, u39, u40, u41, u42, u43, u44] := by
  obtain ⟨l⟩ := t
  simp only [List.size_toArray] at h
  rcases l with _ | ⟨u0, l⟩
  · simp at h
  rcases l with _ | ⟨u1, l⟩
  · simp at h
  rcases l with _ | ⟨u2, l⟩
  · simp at h
  rcases l with _ | ⟨u3, l⟩
  · simp at h
  rcases l with _ | ⟨u4, l⟩
  · simp at h
  rcases l with _ | ⟨u5, l⟩
  · simp at h
  rcases l with _ | ⟨u6, l⟩
  · simp at h
  rcases l with _ | ⟨u7, l⟩
  · simp at h
  rcases l with _ | ⟨u8, l⟩
  · simp at h
  rcases l with _ | ⟨u9, l⟩
  · simp at h
  rcases l with _ | ⟨u10, l⟩
  · simp at h
  rcases l with _ | ⟨u11, l⟩
  · simp at h
  rcases l with _ | ⟨u12, l⟩
  · simp at h
  rcases l with _ | ⟨u13, l⟩
  · simp at h
  rcases l with _ | ⟨u14, l⟩
  · simp at h
  rcases l with _ | ⟨u15, l⟩
  · simp at h
  rcases l with _ | ⟨u16, l⟩
  · simp at h
  rcases l with _ | ⟨u17, l⟩
  · simp at h
  rcases l with _ | ⟨u18, l⟩
  · simp at h
  rcases l with _ | ⟨u19, l⟩
  · simp at h
  rcases l with _ | ⟨u20, l⟩
  · simp at h
  rcases l with _ | ⟨u21, l⟩
  · simp at h
  rcases l with _ | ⟨u22, l⟩
  · simp at h
  rcases l with _ | ⟨u23, l⟩
  · simp at h
  rcases l with _ | ⟨u24, l⟩
  · simp at h
  rcases l with _ | ⟨u25, l⟩
  · simp at h
  rcases l with _ | ⟨u26, l⟩
  · simp at h
  rcases l with _ | ⟨u27, l⟩
  · simp at h
  rcases l with _ | ⟨u28, l⟩
  · simp at h
  rcases l with _ | ⟨u29, l⟩
  · simp at h
  rcases l with _ | ⟨u30, l⟩
  · simp at h
  rcases l with _ | ⟨u31, l⟩
  · simp at h
  rcases l with _ | ⟨u32, l⟩
  · simp at h
  rcases l with _ | ⟨u33, l⟩
  · simp at h
  rcases l with _ | ⟨u34, l⟩
  · simp at h
  rcases l with _ | ⟨u35, l⟩
  · simp at h
  rcases l with _ | ⟨u36, l⟩
  · simp at h
  rcases l with _ | ⟨u37, l⟩
  · simp at h
  rcases l with _ | ⟨u38, l⟩
  · simp at h
  rcases l with _ | ⟨u39, l⟩
  · simp at h
  rcases l with _ | ⟨u40, l⟩
  · simp at h
  rcases l with _ | ⟨u41, l⟩
  · simp at h
  rcases l with _ | ⟨u42, l⟩
  · simp at h
  rcases l with _ | ⟨u43, l⟩
  · simp at h
  rcases l with _ | ⟨u44, l⟩
  · simp at h
  have : l = [] := by
    rw [← List.length_eq_zero_iff]
    simp only [List.length_cons] at h
    omega
  subst this
  exact ⟨_, _, _, _, _, _, _, _, _, _, _, _, _, _, _, _, _, _, _, _, _, _, _, _, _, _, _, _, _, _, _, _, _, _, _, _, _, _, _, _, _, _, _, _, _, rfl⟩
set_option maxRecDepth 100000 in
set_option maxHeartbeats 8000000 in
theorem right_any (d l t g : Int) (b0 b1 b2 b3 b4 b5 b6 b7 b8 b9 : Bool) (R : Opt) (hR : rightF ⟨d, l, t, g, b0, b1, b2, b3, b4, b5, b6, b7, b8, b9⟩ = R) (w : World) :
    Calls Tryd.prog 19 #[.agg #[.int .i64 d, .int .i64 l, .int .i64 t, .int .i64 g, .bool b0, .bool b1, .bool b2, .bool b3, .bool b4, .bool b5, .bool b6, .bool b7, .bool b8, .bool b9]] w fun e w' => e = .returned R.val ∧ Below w.heap.size w w' := by
  have HR := Lib.hid hR
  clear hR
  obtain ⟨W1, hW1⟩ : ∃ W1, w.alloc (.cells #[.int .i64 d, .int .i64 l, .int .i64 t, .int .i64 g, .bool b0, .bool b1, .bool b2, .bool b3, .bool b4, .bool b5, .bool b6, .bool b7, .bool b8, .bool b9] 23) = W1 := ⟨_, rfl⟩
  have hO1 : OptAt W1 w.heap.size ⟨d, l, t, g, b0, b1, b2, b3, b4, b5, b6, b7, b8, b9⟩ := by rw [← hW1]; exact OptAt.new_ w ⟨d, l, t, g, b0, b1, b2, b3, b4, b5, b6, b7, b8, b9⟩ 23
  have hb1 : Below w.heap.size w W1 := by rw [← hW1]; exact below_new _ _
  obtain ⟨W2, hW2⟩ : ∃ W2, W1.alloc (.cells #[.int .i64 0, .int .i64 0, .int .i64 0, .int .i64 0, .bool false, .bool false, .bool false, .bool false, .bool false, .bool false, .bool false, .bool false, .bool false, .bool false] 23) = W2 := ⟨_, rfl⟩
  have hR2 : OptAt W2 W1.heap.size Opt.zero := by rw [← hW2]; exact OptAt.new_ W1 Opt.zero 23
  have hb2 : Below W1.heap.size W1 W2 := by rw [← hW2]; exact below_new _ _
  have hO2 := hO1.below hb2
  have hl1 := hO1.lt
  have HB2 := Lib.hid (below_self hb1 hb2)
  have HO2 := Lib.hid hO2
  have HR2 := Lib.hid hR2
  clear hO1 hb1 hb2 hO2 hR2
  go_enter Tryd.func19, Tryd.ntmps19
  go_wp2_with fail
  refine right_region (p := ⟨w.heap.size, ⟨d, l, t, g, b0, b1, b2, b3, b4, b5, b6, b7, b8, b9⟩⟩) (w0 := W2) (by rfl) (by kernel_rfl) (by kernel_rfl) (by kernel_rfl) ?hH ?_
  case hH => exact ⟨rfl, rfl, rfl, ⟨W1.heap.size, rfl, (by show W1.heap.size ≠ w.heap.size; omega), ⟨fun j u hu => HR2.out.1 j u hu, HR2.out.2⟩, (by show w.heap.size ≤ W1.heap.size; omega)⟩, ⟨d, l, t, g, ⟨fun j u hu => HO2.out.1 j u hu, HO2.out.2⟩, rfl, rfl, rfl, rfl⟩, fun B ww hB hb => hb.drew⟩
  intro a' w' hA hO
  obtain ⟨tm, df⟩ := a'
  have hdf := hA.defers
  have hsz := hA.size
  obtain ⟨r, hs2, hne, hRO, hBr⟩ := hA.s2
  have hs1 := hA.s1
  have hbf := hA.below w.heap.size w (Nat.le_refl _) HB2.out
  simp only at hdf hsz hs1 hs2 hO hne hBr
  subst hdf
  obtain ⟨u0, u1, u2, u3, u4, u5, u6, u7, u8, u9, u10, u11, u12, u13, u14, u15, u16, u17, u18, u19, u20, u21, u22, u23, u24, u25, u26, u27, u28, u29, u30, u31, u32, u33, u34, u35, u36, u37, u38, u39, u40, u41, u42, u43, u44, rfl⟩ := arr45 tm hsz
  obtain rfl := Option.some.inj hs1
  obtain rfl := Option.some.inj hs2
  have hR3 : cut4 (cut3 (cut2 (cut1 (heldO ⟨d, l, t, g, b0, b1, b2, b3, b4, b5, b6, b7, b8, b9⟩)))) = R := HR.out
  unfold heldO at hR3 hO
  simp only at hR3 hO
  generalize heldF d 3 = d' at *
  generalize heldF l 4 = l' at *
  generalize heldF t 4 = t' at *
  generalize heldF g 4 = g' at *
  have HBF := Lib.hid hbf
  have HR3 := Lib.hid hR3
  have HRO := Lib.hid hRO
  have HO := Lib.hid hO
  clear hR3 hA hsz hs1 hs2 HR HB2 HO2 HR2 hbf hW1 hW2 hl1
  generalize hB : w.heap.size = B at *
  have HB := Lib.hid hB
  clear hB
  clear hO hRO
  have HI := Lib.hid (show RInv B r w ⟨d', l', t', g', b0, b1, b2, b3, b4, b5, b6, b7, b8, b9⟩ w' from ⟨HO.out, HRO.out, HBF.out⟩)
  clear HO HRO HBF
  have c1 : w'.cell? ⟨B, 1, none⟩ = some (.int .i64 l') := HI.out.1.1 1 _ rfl
  have f1 := HI.out.1.2 1
  have c2 : w'.cell? ⟨B, 2, none⟩ = some (.int .i64 t') := HI.out.1.1 2 _ rfl
  have f2 := HI.out.1.2 2
  have c5 : w'.cell? ⟨B, 5, none⟩ = some (.bool b1) := HI.out.1.1 5 _ rfl
  have f5 := HI.out.1.2 5
  have c7 : w'.cell? ⟨B, 7, none⟩ = some (.bool b3) := HI.out.1.1 7 _ rfl
  have f7 := HI.out.1.2 7
  have c8 : w'.cell? ⟨B, 8, none⟩ = some (.bool b4) := HI.out.1.1 8 _ rfl
  have f8 := HI.out.1.2 8
  have c9 : w'.cell? ⟨B, 9, none⟩ = some (.bool b5) := HI.out.1.1 9 _ rfl
  have f9 := HI.out.1.2 9
  go_upto_if 21 with fail
  go_cut [] (fun wx => RInv B r w (cut1 ⟨d', l', t', g', b0, b1, b2, b3, b4, b5, b6, b7, b8, b9⟩) wx)
  case first =>
    cases b1 with
    | false =>
      go_wp2_with fail
      go_meet
      exact ⟨((((HI.out.1.set1 0).set2 0).setF3 false).setF4 false).setF5 false, (((((HI.out.2.1.far hne _ _).far hne _ _).far hne _ _).far hne _ _).far hne _ _), (below_setB (below_setB (below_setB (below_setB (below_setB HI.out.2.2 (Nat.le_refl _) _ _) (Nat.le_refl _) _ _) (Nat.le_refl _) _ _) (Nat.le_refl _) _ _) (Nat.le_refl _) _ _)⟩
    | true =>
      go_wp2_with fail
      go_meet
      exact HI.out
  case rest =>
    clear c1 f1 c2 f2 c5 f5 c7 f7 c8 f8 c9 f9
    clear HI
    obtain ⟨o1, ho1⟩ : ∃ o1, cut1 ⟨d', l', t', g', b0, b1, b2, b3, b4, b5, b6, b7, b8, b9⟩ = o1 := ⟨_, rfl⟩
    rw [ho1] at hcut
    have hR3 := HR3.out
    rw [ho1] at hR3
    clear HR3 ho1
    obtain ⟨d1, l1, t1, g1, p0, p1, p2, p3, p4, p5, p6, p7, p8, p9⟩ := o1
    have HR3 := Lib.hid hR3
    have HI := Lib.hid hcut
    clear hR3 hcut
    have c1 : wc.cell? ⟨B, 1, none⟩ = some (.int .i64 l1) := HI.out.1.1 1 _ rfl
    have f1 := HI.out.1.2 1
    have c6 : wc.cell? ⟨B, 6, none⟩ = some (.bool p2) := HI.out.1.1 6 _ rfl
    have f6 := HI.out.1.2 6
    go_upto_if 29 with fail
    go_cut [] (fun wx => RInv B r w (cut2 ⟨d1, l1, t1, g1, p0, p1, p2, p3, p4, p5, p6, p7, p8, p9⟩) wx)
    case first =>
      by_cases hl : l1 = 0
      · subst hl
        go_wp2_with fail
        go_meet
        exact ⟨HI.out.1.setF2 false, (HI.out.2.1.far hne _ _), (below_setB HI.out.2.2 (Nat.le_refl _) _ _)⟩
      · have gl : (l1 == 0) = false := by simp [hl]
        have e : cut2 ⟨d1, l1, t1, g1, p0, p1, p2, p3, p4, p5, p6, p7, p8, p9⟩ = ⟨d1, l1, t1, g1, p0, p1, p2, p3, p4, p5, p6, p7, p8, p9⟩ := if_neg hl
        have E := Lib.hid e
        clear hl e
        go_wp2_with fail
        go_meet
        rw [E.out]
        exact HI.out
    case rest =>
      clear c1 f1 c6 f6
      clear HI
      rename_i wcO
      obtain ⟨o2, ho2⟩ : ∃ o2, cut2 ⟨d1, l1, t1, g1, p0, p1, p2, p3, p4, p5, p6, p7, p8, p9⟩ = o2 := ⟨_, rfl⟩
      rw [ho2] at hcut
      have hR3 := HR3.out
      rw [ho2] at hR3
      clear HR3 ho2
      obtain ⟨d2, l2, t2, g2, q0, q1, q2, q3, q4, q5, q6, q7, q8, q9⟩ := o2
      have HR3 := Lib.hid hR3
      have HI := Lib.hid hcut
      clear hR3 hcut
      have c2 : wc.cell? ⟨B, 2, none⟩ = some (.int .i64 t2) := HI.out.1.1 2 _ rfl
      have f2 := HI.out.1.2 2
      have c7 : wc.cell? ⟨B, 7, none⟩ = some (.bool q3) := HI.out.1.1 7 _ rfl
      have f7 := HI.out.1.2 7
      go_upto_region 6 with fail
      go_cut [38] (fun s38 wx => s38 = .bool ((t2 == 3) || (t2 == 4)) ∧ wx = wc)
      case first =>
        by_cases h3 : t2 = 3
        · subst h3
          go_wp2_with fail
          go_meet
          exact ⟨rfl, rfl⟩
        · have e3 : (t2 == 3) = false := by simp [h3]
          clear h3
          go_wp2_with fail
          go_meet
          exact ⟨by rw [e3]; rfl, rfl⟩
      case rest =>
        obtain ⟨rfl, hwx⟩ := hcut
        obtain rfl := hwx.symm
        clear hwx
        obtain ⟨y, hy⟩ : ∃ y, ((t2 == 3) || (t2 == 4)) = y := ⟨_, rfl⟩
        rw [hy]
        have E := Lib.hid (show cut3 ⟨d2, l2, t2, g2, q0, q1, q2, q3, q4, q5, q6, q7, q8, q9⟩ = if y = true then { (⟨d2, l2, t2, g2, q0, q1, q2, q3, q4, q5, q6, q7, q8, q9⟩ : Opt) with b3 := false } else ⟨d2, l2, t2, g2, q0, q1, q2, q3, q4, q5, q6, q7, q8, q9⟩ by
          unfold cut3
          rw [← hy]
          simp)
        clear hy
        go_upto_if 38 with fail
        go_cut [] (fun wx => RInv B r w (cut3 ⟨d2, l2, t2, g2, q0, q1, q2, q3, q4, q5, q6, q7, q8, q9⟩) wx)
        case first =>
          cases y with
          | true =>
            go_wp2_with fail
            go_meet
            rw [E.out]
            exact ⟨HI.out.1.setF3 false, (HI.out.2.1.far hne _ _), (below_setB HI.out.2.2 (Nat.le_refl _) _ _)⟩
          | false =>
            go_wp2_with fail
            go_meet
            rw [E.out]
            exact HI.out
        case rest =>
          clear c2 f2 c7 f7
          clear HI
          obtain ⟨o3, ho3⟩ : ∃ o3, cut3 ⟨d2, l2, t2, g2, q0, q1, q2, q3, q4, q5, q6, q7, q8, q9⟩ = o3 := ⟨_, rfl⟩
          rw [ho3] at hcut
          have hR3 := HR3.out
          rw [ho3] at hR3
          clear HR3 ho3
          obtain ⟨d3, l3, t3, g3, v0, v1, v2, v3, v4, v5, v6, v7, v8, v9⟩ := o3
          have HR3 := Lib.hid hR3
          have HI := Lib.hid hcut
          clear hR3 hcut
          have c10 : wc.cell? ⟨B, 10, none⟩ = some (.bool v6) := HI.out.1.1 10 _ rfl
          have f10 := HI.out.1.2 10
          have c11 : wc.cell? ⟨B, 11, none⟩ = some (.bool v7) := HI.out.1.1 11 _ rfl
          have f11 := HI.out.1.2 11
          go_upto_if 42 with fail
          go_cut [] (fun wx => RInv B r w (cut4 ⟨d3, l3, t3, g3, v0, v1, v2, v3, v4, v5, v6, v7, v8, v9⟩) wx)
          case first =>
            cases v6 with
            | false =>
              go_wp2_with fail
              go_meet
              exact ⟨HI.out.1.setF7 false, (HI.out.2.1.far hne _ _), (below_setB HI.out.2.2 (Nat.le_refl _) _ _)⟩
            | true =>
              go_wp2_with fail
              go_meet
              exact HI.out
          case rest =>
            clear c10 f10 c11 f11
            clear HI
            rw [HR3.out] at hcut
            clear HR3
            obtain ⟨d4, l4, t4, g4, z0, z1, z2, z3, z4, z5, z6, z7, z8, z9⟩ := R
            have HI := Lib.hid hcut
            clear hcut
            have c0 : wc.cell? ⟨B, 0, none⟩ = some (.int .i64 d4) := HI.out.1.1 0 _ rfl
            have f0 := HI.out.1.2 0
            have c1 : wc.cell? ⟨B, 1, none⟩ = some (.int .i64 l4) := HI.out.1.1 1 _ rfl
            have f1 := HI.out.1.2 1
            have c2 : wc.cell? ⟨B, 2, none⟩ = some (.int .i64 t4) := HI.out.1.1 2 _ rfl
            have f2 := HI.out.1.2 2
            have c3 : wc.cell? ⟨B, 3, none⟩ = some (.int .i64 g4) := HI.out.1.1 3 _ rfl
            have f3 := HI.out.1.2 3
            have c4 : wc.cell? ⟨B, 4, none⟩ = some (.bool z0) := HI.out.1.1 4 _ rfl
            have f4 := HI.out.1.2 4
            have c5 : wc.cell? ⟨B, 5, none⟩ = some (.bool z1) := HI.out.1.1 5 _ rfl
            have f5 := HI.out.1.2 5
            have c6 : wc.cell? ⟨B, 6, none⟩ = some (.bool z2) := HI.out.1.1 6 _ rfl
            have f6 := HI.out.1.2 6
            have c7 : wc.cell? ⟨B, 7, none⟩ = some (.bool z3) := HI.out.1.1 7 _ rfl
            have f7 := HI.out.1.2 7
            have c8 : wc.cell? ⟨B, 8, none⟩ = some (.bool z4) := HI.out.1.1 8 _ rfl
            have f8 := HI.out.1.2 8
            have c9 : wc.cell? ⟨B, 9, none⟩ = some (.bool z5) := HI.out.1.1 9 _ rfl
            have f9 := HI.out.1.2 9
            have c10 : wc.cell? ⟨B, 10, none⟩ = some (.bool z6) := HI.out.1.1 10 _ rfl
            have f10 := HI.out.1.2 10
            have c11 : wc.cell? ⟨B, 11, none⟩ = some (.bool z7) := HI.out.1.1 11 _ rfl
            have f11 := HI.out.1.2 11
            have c12 : wc.cell? ⟨B, 12, none⟩ = some (.bool z8) := HI.out.1.1 12 _ rfl
            have f12 := HI.out.1.2 12
            have c13 : wc.cell? ⟨B, 13, none⟩ = some (.bool z9) := HI.out.1.1 13 _ rfl
            have f13 := HI.out.1.2 13
            have r0 : wc.cell? ⟨r, 0, none⟩ = some (.int .i64 0) := HI.out.2.1.1 0 _ rfl
            have h0 := HI.out.2.1.2 0
            have r1 : wc.cell? ⟨r, 1, none⟩ = some (.int .i64 0) := HI.out.2.1.1 1 _ rfl
            have h1 := HI.out.2.1.2 1
            have r2 : wc.cell? ⟨r, 2, none⟩ = some (.int .i64 0) := HI.out.2.1.1 2 _ rfl
            have h2 := HI.out.2.1.2 2
            have r3 : wc.cell? ⟨r, 3, none⟩ = some (.int .i64 0) := HI.out.2.1.1 3 _ rfl
            have h3 := HI.out.2.1.2 3
            have r4 : wc.cell? ⟨r, 4, none⟩ = some (.bool false) := HI.out.2.1.1 4 _ rfl
            have h4 := HI.out.2.1.2 4
            have r5 : wc.cell? ⟨r, 5, none⟩ = some (.bool false) := HI.out.2.1.1 5 _ rfl
            have h5 := HI.out.2.1.2 5
            have r6 : wc.cell? ⟨r, 6, none⟩ = some (.bool false) := HI.out.2.1.1 6 _ rfl
            have h6 := HI.out.2.1.2 6
            have r7 : wc.cell? ⟨r, 7, none⟩ = some (.bool false) := HI.out.2.1.1 7 _ rfl
            have h7 := HI.out.2.1.2 7
            have r8 : wc.cell? ⟨r, 8, none⟩ = some (.bool false) := HI.out.2.1.1 8 _ rfl
            have h8 := HI.out.2.1.2 8
            have r9 : wc.cell? ⟨r, 9, none⟩ = some (.bool false) := HI.out.2.1.1 9 _ rfl
            have h9 := HI.out.2.1.2 9
            have r10 : wc.cell? ⟨r, 10, none⟩ = some (.bool false) := HI.out.2.1.1 10 _ rfl
            have h10 := HI.out.2.1.2 10
            have r11 : wc.cell? ⟨r, 11, none⟩ = some (.bool false) := HI.out.2.1.1 11 _ rfl
            have h11 := HI.out.2.1.2 11
            have r12 : wc.cell? ⟨r, 12, none⟩ = some (.bool false) := HI.out.2.1.1 12 _ rfl
            have h12 := HI.out.2.1.2 12
            have r13 : wc.cell? ⟨r, 13, none⟩ = some (.bool false) := HI.out.2.1.1 13 _ rfl
            have h13 := HI.out.2.1.2 13
            go_wp2_with fail
            (try simp only [Exit.inBlock, Exit.then])
            refine bodyPost_ret (v := Opt.val ⟨d4, l4, t4, g4, z0, z1, z2, z3, z4, z5, z6, z7, z8, z9⟩) ?_ rfl ⟨rfl, by rw [HB.out]; exact below_stored ⟨d4, l4, t4, g4, z0, z1, z2, z3, z4, z5, z6, z7, z8, z9⟩ hBr HI.out.2.2⟩
            exact res_opt1 rfl _ _ r ⟨d4, l4, t4, g4, z0, z1, z2, z3, z4, z5, z6, z7, z8, z9⟩ rfl (HI.out.2.1.stored ⟨d4, l4, t4, g4, z0, z1, z2, z3, z4, z5, z6, z7, z8, z9⟩)
end Go.Proofs.YtcdogkabdhbjmaaDoor
