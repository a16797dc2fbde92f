/- option.Check's region that draws its order, whole. -/
import Derived.Test.YtcdogkabdhbjmaaDoorOpS
namespace Go.Proofs.YtcdogkabdhbjmaaDoor
open Go.RowKit

section
variable {p : Prm} {w0 w : World} {a : Act} {Q : Exit → Act → World → Prop} {o : Oper} {ops : Array Oper}
set_option maxRecDepth 100000 in
theorem all_steps (hsz : ops.size = 43) (hops : ∀ i o, ops[i]? = some o → IsOp ops i o) (i : Nat) (o : Oper) (ho : ops[i]? = some o) (a : Act) (w : World) (h : HoldsAt p w0 w a) (hd : ∀ e ∈ o.after, Region.binds .any e = true → GoodAt p e.on a w) : StepOk p w0 Q ops i o a w := by
  have hi := hops i o ho
  have hlt : i < 43 := by have := (Array.getElem?_eq_some_iff.1 ho).1; omega
  have hg : ∀ k ∈ depF i, GoodAt p k a w := fun k hk => by
    obtain ⟨e, he, rfl, hb⟩ := hi.deps k hk
    exact hd e he hb
  have hyl : ∀ (j : Nat) (g : Bool), j < 43 → a.tmps[slotF j]? = some (.bool g) → yielded ops a.tmps j = some g := fun j g hj ht => by
    obtain ⟨oj, hoj⟩ : ∃ oj, ops[j]? = some oj := ⟨_, Array.getElem?_eq_getElem (by omega)⟩
    exact yielded_at hoj (hops j oj hoj).dst ht
  clear hd ho hops
  have hc : i = 0 ∨ i = 1 ∨ i = 2 ∨ i = 3 ∨ i = 4 ∨ i = 5 ∨ i = 6 ∨ i = 7 ∨ i = 8 ∨ i = 9 ∨ i = 10 ∨ i = 11 ∨ i = 12 ∨ i = 13 ∨ i = 14 ∨ i = 15 ∨ i = 16 ∨ i = 17 ∨ i = 18 ∨ i = 19 ∨ i = 20 ∨ i = 21 ∨ i = 22 ∨ i = 23 ∨ i = 24 ∨ i = 25 ∨ i = 26 ∨ i = 27 ∨ i = 28 ∨ i = 29 ∨ i = 30 ∨ i = 31 ∨ i = 32 ∨ i = 33 ∨ i = 34 ∨ i = 35 ∨ i = 36 ∨ i = 37 ∨ i = 38 ∨ i = 39 ∨ i = 40 ∨ i = 41 ∨ i = 42 := by omega
  rcases hc with rfl | rfl | rfl | rfl | rfl | rfl | rfl | rfl | rfl | rfl | rfl | rfl | rfl | rfl | rfl | rfl | rfl | rfl | rfl | rfl | rfl | rfl | rfl | rfl | rfl | rfl | rfl | rfl | rfl | rfl | rfl | rfl | rfl | rfl | rfl | rfl | rfl | rfl | rfl | rfl | rfl | rfl | rfl
  · exact step0 h hi hg
  · exact step1 h hi hg
  · exact step2 h hi hg
  · exact step3 h hi hg
  · exact step4 h hi hg (hyl 3 _ (by omega) (hg 3 (by simp [depF]) rfl))
  · exact step5 h hi hg (hyl 3 _ (by omega) (hg 3 (by simp [depF]) rfl))
  · exact step6 h hi hg (hyl 3 _ (by omega) (hg 3 (by simp [depF]) rfl))
  · exact step7 h hi hg (hyl 3 _ (by omega) (hg 3 (by simp [depF]) rfl))
  · exact step8 h hi hg (hyl 3 _ (by omega) (hg 3 (by simp [depF]) rfl))
  · exact step9 h hi hg (hyl 3 _ (by omega) (hg 3 (by simp [depF]) rfl))
  · exact step10 h hi hg (hyl 3 _ (by omega) (hg 3 (by simp [depF]) rfl))
  · exact step11 h hi hg (hyl 3 _ (by omega) (hg 3 (by simp [depF]) rfl))
  · exact step12 h hi hg (hyl 3 _ (by omega) (hg 3 (by simp [depF]) rfl))
  · exact step13 h hi hg (hyl 3 _ (by omega) (hg 3 (by simp [depF]) rfl))
  · exact step14 h hi hg
  · exact step15 h hi hg
  · exact step16 h hi hg
  · exact step17 h hi hg
  · exact step18 h hi hg (hyl 17 _ (by omega) (hg 17 (by simp [depF]) rfl))
  · exact step19 h hi hg (hyl 17 _ (by omega) (hg 17 (by simp [depF]) rfl))
  · exact step20 h hi hg
  · exact step21 h hi hg
  · exact step22 h hi hg
  · exact step23 h hi hg
  · exact step24 h hi hg (hyl 23 _ (by omega) (hg 23 (by simp [depF]) rfl))
  · exact step25 h hi hg (hyl 23 _ (by omega) (hg 23 (by simp [depF]) rfl))
  · exact step26 h hi hg (hyl 23 _ (by omega) (hg 23 (by simp [depF]) rfl))
  · exact step27 h hi hg (hyl 23 _ (by omega) (hg 23 (by simp [depF]) rfl))
  · exact step28 h hi hg (hyl 23 _ (by omega) (hg 23 (by simp [depF]) rfl))
  · exact step29 h hi hg (hyl 23 _ (by omega) (hg 23 (by simp [depF]) rfl))
  · exact step30 h hi hg (hyl 23 _ (by omega) (hg 23 (by simp [depF]) rfl))
  · exact step31 h hi hg (hyl 23 _ (by omega) (hg 23 (by simp [depF]) rfl))
  · exact step32 h hi hg
  · exact step33 h hi hg
  · exact step34 h hi hg
  · exact step35 h hi hg
  · exact step36 h hi hg (hyl 35 _ (by omega) (hg 35 (by simp [depF]) rfl))
  · exact step37 h hi hg (hyl 35 _ (by omega) (hg 35 (by simp [depF]) rfl))
  · exact step38 h hi hg (hyl 35 _ (by omega) (hg 35 (by simp [depF]) rfl))
  · exact step39 h hi hg
  · exact step40 h hi hg
  · exact step41 h hi hg
  · exact step42 h hi hg
def backB (ops : Array Oper) : Bool := (List.range ops.size).all fun i => ((ops[i]?).map fun o => o.after.all fun e => decide (e.on < i)).getD true
theorem back_of (h : backB ops = true) : ∀ (i : Nat) (o : Oper), ops[i]? = some o → ∀ e ∈ o.after, e.on < i := fun i o ho e he => by
  have hi := (Array.getElem?_eq_some_iff.1 ho).1
  have := List.all_eq_true.1 h i (List.mem_range.2 hi)
  rw [ho] at this
  simp only [Option.map_some, Option.getD_some] at this
  rw [Array.all_eq_true_iff_forall_mem] at this
  simpa using this e he
def depB (ops : Array Oper) : Bool := (List.range 43).all fun i => (depF i).all fun k => ((ops[i]?).map fun o => o.after.any fun e => e.on == k && Region.binds .any e).getD false
theorem isOp_of (h1 : ops.toList.map (fun o => (o.dst, o.op, o.guard)) = (List.range 43).map fun i => (some (slotF i), opF i, guF i)) (h2 : depB ops = true) : ops.size = 43 ∧ ∀ i o, ops[i]? = some o → IsOp ops i o := by
  have hsz : ops.size = 43 := by
    have := congrArg List.length h1
    simpa using this
  refine ⟨hsz, fun i o ho => ?_⟩
  have hi : i < 43 := by have := (Array.getElem?_eq_some_iff.1 ho).1; omega
  have e := congrArg (fun l => l[i]?) h1
  simp only [List.getElem?_map, Array.getElem?_toList, ho, Option.map_some, List.getElem?_range hi] at e
  injection e with e
  injection e with e1 e
  injection e with e2 e3
  refine ⟨e1, e2, e3, fun k hk => ?_⟩
  have := List.all_eq_true.1 (List.all_eq_true.1 h2 i (List.mem_range.2 hi)) k hk
  rw [ho] at this
  simp only [Option.map_some, Option.getD_some] at this
  rw [← Array.any_toList, List.any_eq_true] at this
  obtain ⟨x, hx, hv⟩ := this
  rw [Bool.and_eq_true] at hv
  exact ⟨x, Array.mem_toList_iff.1 hx, by simpa using hv.1, hv.2⟩
/-- Whether the options do not go together, as the region reckons it. -/
def oddP (p : Prm) : Bool := (!p.b1 && (p.lb || (p.tb || (p.b3 || (p.b4 || p.b5))))) || ((p.b2 && !p.lb) || ((p.b3 && ((p.t == 3) || (p.t == 4))) || (p.b7 && !p.b6)))
theorem check_region {id : Nat} (hm : Tryd.prog.follows .mixedOrders = true) (h1 : ops.toList.map (fun o => (o.dst, o.op, o.guard)) = (List.range 43).map fun i => (some (slotF i), opF i, guF i)) (h2 : depB ops = true) (h3 : backB ops = true) (h : HoldsAt p w0 w.drew a)
    (hend : ∀ a' w', HoldsAt p w0 w' a' → a'.tmps[19]? = some (.bool (oddP p)) → Q .normal a' w') : (Code.region id ops true).wp Tryd.prog Q a w := by
  obtain ⟨hsz, hops⟩ := isOp_of h1 h2
  exact wp_region_inv hm (fun a w => HoldsAt p w0 w a) (GoodAt p) (back_of h3) h (fun i o ho a w hS hd => all_steps hsz hops i o ho a w hS hd) (fun a' w' hS hG => hend a' w' hS (hG 42 (by omega) rfl))
end
set_option maxRecDepth 100000 in
theorem arr62 (t : Array Value) (h : t.size = 62) : ∃ u0 u1 u2 u3 u4 u5 u6 u7 u8 u9 u10 u11 u12 u13 u14 u15 u16 u17 u18 u19 u20 u21 u22 u23 u24 u25 u26 u27 u28 u29 u30 u31 u32 u33 u34 u35 u36 u37 u38 u39 u40 u41 u42 u43 u44 u45 u46 u47 u48 u49 u50 u51 u52 u53 u54 u55 u56 u57 u58 u59 u60 u61, t = #[u0, u1, u2, u3, u4, u5, u6, u7, u8, u9, u10, u11, u12, u13, u14, u15, u16, u17, u18, u19, u20, u21, u22, u23, u24, u25, u26, u27, u28, u29, u30, u31, u32, u33, u34, u35, u36, u37, u38, u39, u40, u41, u42, u43, u44, u45, u46, u47, u48, u49, u50, u51, u52, u53, u54, u55, u56, u57, u58, u59, u60, u61] := by
  obtain ⟨l⟩ := t
  simp only [List.size_toArray] at h
  rcases l with _ | ⟨u0, l⟩
  · simp at h
  rcases l with _ | ⟨u1, l⟩
  · simp at h
  rcases l with _ | ⟨u2, l⟩
  · simp at h
  rcases l with _ | ⟨u3, l⟩
  · simp at h
  rcases l with _ | ⟨u4, l⟩
  · simp at h
  rcases l with _ | ⟨u5, l⟩
  · simp at h
  rcases l with _ | ⟨u6, l⟩
  · simp at h
  rcases l with _ | ⟨u7, l⟩
  · simp at h
  rcases l with _ | ⟨u8, l⟩
  · simp at h
  rcases l with _ | ⟨u9, l⟩
  · simp at h
  rcases l with _ | ⟨u10, l⟩
  · simp at h
  rcases l with _ | ⟨u11, l⟩
  · simp at h
  rcases l with _ | ⟨u12, l⟩
  · simp at h
  rcases l with _ | ⟨u13, l⟩
  · simp at h
  rcases l with _ | ⟨u14, l⟩
  · simp at h
  rcases l with _ | ⟨u15, l⟩
  · simp at h
  rcases l with _ | ⟨u16, l⟩
  · simp at h
  rcases l with _ | ⟨u17, l⟩
  · simp at h
  rcases l with _ | ⟨u18, l⟩
  · simp at h
  rcases l with _ | ⟨u19, l⟩
  · simp at h
  rcases l with _ | ⟨u20, l⟩
  · simp at h
  rcases l with _ | ⟨u21, l⟩
  · simp at h
  rcases l with _ | ⟨u22, l⟩
  · simp at h
  rcases l with _ | ⟨u23, l⟩
  · simp at h
  rcases l with _ | ⟨u24, l⟩
  · simp at h
  rcases l with _ | ⟨u25, l⟩
  · simp at h
  rcases l with _ | ⟨u26, l⟩
  · simp at h
  rcases l with _ | ⟨u27, l⟩
  · simp at h
  rcases l with _ | ⟨u28, l⟩
  · simp at h
  rcases l with _ | ⟨u29, l⟩
  · simp at h
  rcases l with _ | ⟨u30, l⟩
  · simp at h
  rcases l with _ | ⟨u31, l⟩
  · simp at h
  rcases l with _ | ⟨u32, l⟩
  · simp at h
  rcases l with _ | ⟨u33, l⟩
  · simp at h
  rcases l with _ | ⟨u34, l⟩
  · simp at h
  rcases l with _ | ⟨u35, l⟩
  · simp at h
  rcases l with _ | ⟨u36, l⟩
  · simp at h
  rcases l with _ | ⟨u37, l⟩
  · simp at h
  rcases l with _ | ⟨u38, l⟩
  · simp at h
  rcases l with _ | ⟨u39, l⟩
  · simp at h
  rcases l with _ | ⟨u40, l⟩
  · simp at h
  rcases l with _ | ⟨u41, l⟩
  · simp at h
  rcases l with _ | ⟨u42, l⟩
  · simp at h
  rcases l with _ | ⟨u43, l⟩
  · simp at h
  rcases l with _ | ⟨u44, l⟩
  · simp at h
  rcases l with _ | ⟨u45, l⟩
  · simp at h
  rcases l with _ | ⟨u46, l⟩
  · simp at h
  rcases l with _ | ⟨u47, l⟩
  · simp at h
  rcases l with _ | ⟨u48, l⟩
  · simp at h
  rcases l with _ | ⟨u49, l⟩
  · simp at h
  rcases l with _ | ⟨u50, l⟩
  · simp at h
  rcases l with _ | ⟨u51, l⟩
  · simp at h
  rcases l with _ | ⟨u52, l⟩
  · simp at h
  rcases l with _ | ⟨u53, l⟩
  · simp at h
  rcases l with _ | ⟨u54, l⟩
  · simp at h
  rcases l with _ | ⟨u55, l⟩
  · simp at h
  rcases l with _ | ⟨u56, l⟩
  · simp at h
  rcases l with _ | ⟨u57, l⟩
  · simp at h
  rcases l with _ | ⟨u58, l⟩
  · simp at h
  rcases l with _ | ⟨u59, l⟩
  · simp at h
  rcases l with _ | ⟨u60, l⟩
  · simp at h
  rcases l with _ | ⟨u61, l⟩
  · simp at h
  rcases l with _ | ⟨x, l⟩
  · exact ⟨u0, u1, u2, u3, u4, u5, u6, u7, u8, u9, u10, u11, u12, u13, u14, u15, u16, u17, u18, u19, u20, u21, u22, u23, u24, u25, u26, u27, u28, u29, u30, u31, u32, u33, u34, u35, u36, u37, u38, u39, u40, u41, u42, u43, u44, u45, u46, u47, u48, u49, u50, u51, u52, u53, u54, u55, u56, u57, u58, u59, u60, u61, rfl⟩
  · simp at h
end Go.Proofs.YtcdogkabdhbjmaaDoor
