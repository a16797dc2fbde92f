/- Texts of one claim, one behind the other. -/
import Derived.Great.Frames
import Derived.Handy
import Derived.Test.YtcbiaeeifclieaaMgCL2
import Derived.Test.YtcbiaeeifclieaaMgCL5
import Derived.Test.YtcbiaeeifclieaaMgCL14
/- The drawn region of cells' Ahead: what each of its operations does. -/
namespace Go.Proofs.Ytcbiaeeifclieaa
open Go.RowKit

def opA : Nat → Op
  | 0 => .load 24 (.tmp 2)
  | 1 => .load 24 (.tmp 2)
  | 2 => .nilCheck (.tmp 16)
  | 3 => .fieldAddr 66 (.tmp 17) 0
  | 4 => .fieldAddr 64 (.tmp 18) 1
  | 5 => .load 31 (.tmp 19)
  | 6 => .move (.tmp 6)
  | 7 => .buildSlice 31 1 #[(0, .tmp 21)]
  | 8 => .call { callee := .builtin .append, args := #[.tmp 20, .tmp 22], argTypes := #[31, 31] }
  | 9 => .nilCheck (.tmp 15)
  | 10 => .fieldAddr 66 (.tmp 24) 0
  | 11 => .fieldAddr 64 (.tmp 25) 1
  | _ => .store 31 (.tmp 26) (.tmp 23)
def dstA (i : Nat) : Option Tmp := if i = 12 then none else some (15 + i)
def depA : Nat → List Nat
  | 2 => [1]
  | 3 => [2]
  | 4 => [3]
  | 5 => [4]
  | 7 => [6]
  | 8 => [5, 7]
  | 9 => [0]
  | 10 => [9]
  | 11 => [10]
  | 12 => [11, 8]
  | _ => []
/-- What each operation yields. -/
def valA (b : Nat) (va : Value) (x : Int) (g : Nat) (v' : Value) : Nat → Value
  | 4 => .pointer (some ⟨b, 1, none⟩)
  | 5 => va
  | 6 => .int .i64 x
  | 7 => .slice (some ⟨g, 0, none⟩) 1 1
  | 8 => v'
  | 11 => .pointer (some ⟨b, 1, none⟩)
  | _ => .pointer (some ⟨b, 0, none⟩)
theorem valA_g (b : Nat) (va : Value) (x : Int) (g g2 : Nat) (v' : Value) {k : Nat} (h : k ≠ 7) : valA b va x g v' k = valA b va x g2 v' k := by
  unfold valA; split <;> first | rfl | omega
theorem valA_v (b : Nat) (va : Value) (x : Int) (g : Nat) (v' v2 : Value) {k : Nat} (h : k ≠ 8) : valA b va x g v' k = valA b va x g v2 k := by
  unfold valA; split <;> first | rfl | omega
theorem vals_step {a : Act} {L : Array Bool} {V V' : Nat → Value} {i : Nat} (hi : i < 12) (hs : a.tmps.size = 27) (hL : L.size = 13) (hno : L.getD i false = false) (hV : ∀ k, k ≠ i → V k = V' k) (h : ∀ k, k < 12 → L.getD k false = true → a.eval (.tmp (15 + k)) = V k) :
    ∀ k, k < 12 → (L.setIfInBounds i true).getD k false = true → (a.put (some (15 + i)) (V' i)).eval (.tmp (15 + k)) = V' k := fun k hk hl => by
  rw [getDI_set _ _ _ (by omega)] at hl
  by_cases e : k = i
  · subst e
    exact Act.eval_put_same a _ _ (by omega)
  · rw [if_neg e] at hl
    rw [Act.eval_put_ne a _ _ _ (by omega), h k hk hl, hV k e]

section
variable {base b gc n Bc Bs : Nat} {K : Nat → Prop} {q c : Nat} {R : List RC} {A : Option Addr} {W w : World} {va : Value} {ah : List Int} {x : Int}
/-- What holds of the world between two rounds, and within one. -/
structure GdA (base b gc n Bc Bs : Nat) (K : Nat → Prop) (q c : Nat) (R : List RC) (A : Option Addr) (W w : World) (va : Value) (ah : List Int) : Prop where
  cl : CellsAt w base b gc n R va ah
  bel : Below b W w
  ko : KeepsOthers W w
  kt : KeepT b W w
  kp : KpB Bs K W w
  vn : ∀ k, K k → some k ≠ va.ownBlock
  bc : Boxed w Bc 24 (.pointer (some ⟨b, 0, none⟩))
  bs : Boxed w Bs 31 (.slice A q c)
def PhA (base b gc n Bc Bs : Nat) (K : Nat → Prop) (q c : Nat) (R : List RC) (A : Option Addr) (W w : World) (va : Value) (ah : List Int) (x : Int) (l7 l8 l12 : Bool) (g : Nat) (v' : Value) : Prop :=
  if l12 = true then GdA base b gc n Bc Bs K q c R A W w v' (ah ++ [x])
  else if l8 = true then GdA base b gc n Bc Bs K q c R A W (w.setCell ⟨b, 1, none⟩ v') v' (ah ++ [x]) ∧ Boxed w Bc 24 (.pointer (some ⟨b, 0, none⟩)) ∧ w.cell? ⟨b, 1, none⟩ = some va ∧ w.frozen? ⟨b, 1, none⟩ = false ∧ ∃ g' c', v' = .slice (some ⟨g', 0, none⟩) (ah.length + 1) c'
  else GdA base b gc n Bc Bs K q c R A W w va ah ∧ (l7 = true → w.cell? ⟨g, 0, none⟩ = some (.int .i64 x))
structure StA (base b gc n Bc Bs : Nat) (K : Nat → Prop) (q c : Nat) (R : List RC) (A : Option Addr) (W : World) (va : Value) (ah : List Int) (x : Int) (g : Nat) (v' : Value) (L : Array Bool) (a : Act) (w : World) : Prop where
  sz : a.tmps.size = 27
  e2 : a.eval (.tmp 2) = .pointer (some ⟨Bc, 0, none⟩)
  e6 : a.eval (.tmp 6) = .int .i64 x
  vals : ∀ k, k < 12 → L.getD k false = true → a.eval (.tmp (15 + k)) = valA b va x g v' k
  ph : PhA base b gc n Bc Bs K q c R A W w va ah x (L.getD 7 false) (L.getD 8 false) (L.getD 12 false) g v'
theorem PhA.box {l7 l8 l12 : Bool} {g : Nat} {v' : Value} (h : PhA base b gc n Bc Bs K q c R A W w va ah x l7 l8 l12 g v') : Boxed w Bc 24 (.pointer (some ⟨b, 0, none⟩)) := by
  unfold PhA at h
  split at h
  · exact h.bc
  · split at h
    · exact h.2.1
    · exact h.1.bc
theorem putA_keep (a : Act) (i : Nat) (v : Value) : (a.put (some (15 + i)) v).tmps.size = a.tmps.size ∧ (a.put (some (15 + i)) v).eval (.tmp 2) = a.eval (.tmp 2) ∧ (a.put (some (15 + i)) v).eval (.tmp 6) = a.eval (.tmp 6) :=
  ⟨by simp [Act.put], Act.eval_put_ne a _ _ _ (by omega), Act.eval_put_ne a _ _ _ (by omega)⟩
/-- An operation that leaves the world as it is. -/
theorem StA.pure {g : Nat} {v' : Value} {L : Array Bool} {a : Act} (h : StA base b gc n Bc Bs K q c R A W va ah x g v' L a w) {i : Nat} (hi : i < 12) (h7 : i ≠ 7) (h8 : i ≠ 8) (hL : L.size = 13) (hno : L.getD i false = false) :
    StA base b gc n Bc Bs K q c R A W va ah x g v' (L.setIfInBounds i true) (a.put (some (15 + i)) (valA b va x g v' i)) w := by
  obtain ⟨k1, k2, k3⟩ := putA_keep a i (valA b va x g v' i)
  refine ⟨k1.trans h.sz, k2.trans h.e2, k3.trans h.e6, vals_step hi h.sz hL hno (fun _ _ => rfl) h.vals, ?_⟩
  rw [getDI_set _ _ _ (by omega), getDI_set _ _ _ (by omega), getDI_set _ _ _ (by omega), if_neg (by omega), if_neg (by omega), if_neg (by omega)]
  exact h.ph
theorem PhA.early {L : Array Bool} {g : Nat} {v' : Value} (h : PhA base b gc n Bc Bs K q c R A W w va ah x (L.getD 7 false) (L.getD 8 false) (L.getD 12 false) g v') (h8 : L.getD 8 false = false) (h12 : L.getD 12 false = false) :
    GdA base b gc n Bc Bs K q c R A W w va ah ∧ (L.getD 7 false = true → w.cell? ⟨g, 0, none⟩ = some (.int .i64 x)) := by
  unfold PhA at h
  rw [h8, h12] at h
  exact h
theorem no8 {L : Array Bool} (hcl : ∀ j k, j < 13 → k ∈ depA j → L.getD j false = true → L.getD k false = true) {k : Nat} (hk : L.getD k false = false) (h : k ∈ depA 8) : L.getD 8 false = false ∧ L.getD 12 false = false := by
  have h8 : L.getD 8 false = false := by
    rcases e : L.getD 8 false with _ | _
    · rfl
    · rw [hcl 8 k (by omega) h e] at hk; cases hk
  refine ⟨h8, ?_⟩
  rcases e : L.getD 12 false with _ | _
  · rfl
  · rw [hcl 12 8 (by omega) (by simp [depA]) e] at h8; cases h8
theorem GdA.alloc (h : GdA base b gc n Bc Bs K q c R A W w va ah) (hB : Bs < w.heap.size) (hgk : ∀ k, K k → k < w.heap.size) (o : Obj) : GdA base b gc n Bc Bs K q c R A W (w.alloc o) va ah :=
  ⟨h.cl.low ((Below.refl _ w).alloc (Nat.le_refl _) o), h.bel.alloc (Nat.le_trans (Nat.le_of_lt (hp_lt h.cl.hb)) (Nat.le_refl _)) o, h.ko.trans (KeepsOthers.alloc w o), h.kt.trans (.of_below ((Below.refl _ w).alloc (Nat.le_refl _) o)),
   h.kp.trans ⟨(Below.heap_alloc w o Bs hB), fun k hk => (Below.heap_alloc w o k (hgk k hk))⟩, h.vn, h.bc.alloc o, h.bs.alloc o⟩
set_option maxRecDepth 100000 in
set_option maxHeartbeats 1000000 in
theorem stepA {i : Nat} (hi : i < 13) {o : Oper} (hop : o.op = opA i) (hdst : o.dst = dstA i) {L : Array Bool} {a : Act} {g : Nat} {v' : Value} (hL : L.size = 13)
    (hcl : ∀ j k, j < 13 → k ∈ depA j → L.getD j false = true → L.getD k false = true) (hno : L.getD i false = false) (hd : ∀ k ∈ depA i, L.getD k false = true)
    (h : StA base b gc n Bc Bs K q c R A W va ah x g v' L a w) (hah : ah.length + 1 ≤ 100000000) (hgk : ∀ k, K k → k < W.heap.size ∧ k ≠ b) (hBs : Bs ≠ b) (hBc : Bc ≠ b) :
    ∃ v w', DoesI Try.prog o a w v w' ∧ ∃ g2 v2, StA base b gc n Bc Bs K q c R A W va ah x g2 v2 (L.setIfInBounds i true) (a.put o.dst v) w' := by
  have hbx := h.ph.box.cell
  have pure_ : i < 12 → i ≠ 7 → i ≠ 8 → DoesI Try.prog o a w (valA b va x g v' i) w → ∃ v w', DoesI Try.prog o a w v w' ∧ ∃ g2 v2, StA base b gc n Bc Bs K q c R A W va ah x g2 v2 (L.setIfInBounds i true) (a.put o.dst v) w' := fun h12 h7 h8 hD => by
    refine ⟨_, _, hD, g, v', ?_⟩
    rw [hdst, dstA, if_neg (by omega)]
    exact h.pure h12 h7 h8 hL hno
  obtain rfl | rfl | rfl | rfl | rfl | rfl | rfl | rfl | rfl | rfl | rfl | rfl | rfl : i = 0 ∨ i = 1 ∨ i = 2 ∨ i = 3 ∨ i = 4 ∨ i = 5 ∨ i = 6 ∨ i = 7 ∨ i = 8 ∨ i = 9 ∨ i = 10 ∨ i = 11 ∨ i = 12 := by omega
  · refine pure_ (by omega) (by omega) (by omega) (.inl ?_)
    unfold execOp
    simp only [hop, opA]
    rw [h.e2]
    go_simp
    rfl
  · refine pure_ (by omega) (by omega) (by omega) (.inl ?_)
    unfold execOp
    simp only [hop, opA]
    rw [h.e2]
    go_simp
    rfl
  · have e := h.vals 1 (by omega) (hd 1 (by simp [depA]))
    refine pure_ (by omega) (by omega) (by omega) (.inl ?_)
    unfold execOp
    simp only [hop, opA]
    rw [e]
    rfl
  · have e := h.vals 2 (by omega) (hd 2 (by simp [depA]))
    refine pure_ (by omega) (by omega) (by omega) (.inl ?_)
    unfold execOp
    simp only [hop, opA]
    rw [e]
    simp only [valA]
    go_simp
  · have e := h.vals 3 (by omega) (hd 3 (by simp [depA]))
    refine pure_ (by omega) (by omega) (by omega) (.inl ?_)
    unfold execOp
    simp only [hop, opA]
    rw [e]
    simp only [valA]
    go_simp
  · have e := h.vals 4 (by omega) (hd 4 (by simp [depA]))
    obtain ⟨n8, n12⟩ := no8 hcl hno (by simp [depA])
    have hc : w.cell? ⟨b, 1, none⟩ = some va := hp_cell (j := 1) (h.ph.early n8 n12).1.cl.hb rfl
    refine pure_ (by omega) (by omega) (by omega) (.inl ?_)
    unfold execOp
    simp only [hop, opA]
    rw [e]
    simp only [valA]
    go_simp
  · refine pure_ (by omega) (by omega) (by omega) (.inl ?_)
    unfold execOp
    simp only [hop, opA]
    rw [h.e6]
    rfl
  · have e := h.vals 6 (by omega) (hd 6 (by simp [depA]))
    obtain ⟨n8, n12⟩ := no8 hcl hno (by simp [depA])
    have G := (h.ph.early n8 n12).1
    refine ⟨.slice (some ⟨w.heap.size, 0, none⟩) 1 1, w.alloc (.cells #[.int .i64 x] 3), .inl ?_, w.heap.size, v', ?_⟩
    · unfold execOp
      simp only [hop, opA, List.map_toArray, List.map_cons, List.map_nil]
      rw [e]
      simp only [valA]
      go_simp
    · obtain ⟨k1, k2, k3⟩ := putA_keep a 7 (.slice (some ⟨w.heap.size, 0, none⟩) 1 1)
      rw [hdst, dstA, if_neg (by omega)]
      refine ⟨k1.trans h.sz, k2.trans h.e2, k3.trans h.e6, vals_step (V := valA b va x g v') (V' := valA b va x w.heap.size v') (by omega) h.sz hL hno (fun k hk => valA_g _ _ _ _ _ _ hk) h.vals, ?_⟩
      rw [getDI_set _ _ _ (by omega), getDI_set _ _ _ (by omega), getDI_set _ _ _ (by omega), if_pos rfl, if_neg (by omega), if_neg (by omega), n8, n12]
      refine ⟨G.alloc (hp_lt G.bs) (fun k hk => Nat.lt_of_lt_of_le (hgk k hk).1 G.bel.size) _, fun _ => ?_⟩
      exact (Boxed.new w 3 (.int .i64 x)).cell
  · have e := h.vals 5 (by omega) (hd 5 (by simp [depA]))
    have e7 := h.vals 7 (by omega) (hd 7 (by simp [depA]))
    have n12 : L.getD 12 false = false := by
      rcases e : L.getD 12 false with _ | _
      · rfl
      · rw [hcl 12 8 (by omega) (by simp [depA]) e] at hno; cases hno
    obtain ⟨G, hx0⟩ := h.ph.early hno n12
    have hx := hx0 (hd 7 (by simp [depA]))
    obtain ⟨u, w1, hrun, hown, hgr, hwh⟩ := run_appR (P := Try.prog) w 31 o.type intSliceT (by omega) va ah.length _ G.cl.arow (some ⟨g, 0, none⟩) 1 1 [.int .i64 x]
      ⟨rfl, fun _ => ⟨_, rfl, World.block_lt_of_cell? w ⟨g, 0, none⟩ hx, fun j y hj => by
        rcases j with _ | j
        · simp at hj; subst hj; exact hx
        · simp at hj⟩⟩ (by simp [Value.oneCell']) (by omega) (by simp only [maxLen]; omega) G.cl.far.2.2.2
    have hown2 : w1.ownsRow base 3 1 u (ah ++ [x]).length ((ah ++ [x]).map (Value.int .i64)) := by
      rw [List.length_append, List.map_append]; exact hown
    obtain ⟨g', c', rfl⟩ := ownsRow_succ hown
    have hbcv : some Bc ≠ va.ownBlock := G.bc.not_row (by decide) G.cl.arow
    have hbsv : some Bs ≠ va.ownBlock := G.bs.not_row (by decide) G.cl.arow
    have hbv : some b ≠ va.ownBlock := fun e => own_not G.cl.arow G.cl.far.1 e.symm
    have hgs : ∀ k, K k → k < w.heap.size := fun k hk => Nat.lt_of_lt_of_le (hgk k hk).1 G.bel.size
    have hvn : ∀ k, K k → some k ≠ (Value.slice (some ⟨g', 0, none⟩) (ah.length + 1) c').ownBlock := fun k hk e => by
      rcases hwh with h9 | h9
      · exact G.vn k hk (e.trans h9)
      · have h8 := e.trans h9
        have h7 : k = w.heap.size := by simpa using h8
        have := hgs k hk
        omega
    have hb1 := (hgr.block b (hp_lt G.cl.hb) hbv).trans G.cl.hb
    refine ⟨.slice (some ⟨g', 0, none⟩) (ah.length + 1) c', w1, .inl ?_, g, .slice (some ⟨g', 0, none⟩) (ah.length + 1) c', ?_⟩
    · unfold execOp
      simp only [hop, opA, resolve, invoke, builtin, Sem.run_bind, Sem.run_pure, Result.andThen_ok, List.map_toArray, List.map_cons, List.map_nil]
      rw [e, e7]
      simp only [valA]
      rw [hrun]
      rfl
    · obtain ⟨k1, k2, k3⟩ := putA_keep a 8 (.slice (some ⟨g', 0, none⟩) (ah.length + 1) c')
      rw [hdst, dstA, if_neg (by omega)]
      refine ⟨k1.trans h.sz, k2.trans h.e2, k3.trans h.e6, vals_step (V := valA b va x g v') (V' := valA b va x g (.slice (some ⟨g', 0, none⟩) (ah.length + 1) c')) (by omega) h.sz hL hno (fun k hk => valA_v _ _ _ _ _ _ hk) h.vals, ?_⟩
      rw [getDI_set _ _ _ (by omega), getDI_set _ _ _ (by omega), getDI_set _ _ _ (by omega), if_neg (by omega), if_pos rfl, if_neg (by omega), n12]
      refine ⟨⟨G.cl.more hgr hown2 hwh, G.bel.trans (G.cl.moreB _ hgr), G.ko.trans (G.cl.moreK _ hgr), G.kt.trans (G.cl.moreT _ hgr), G.kp.trans ⟨G.cl.moreP _ hgr (hp_lt G.bs) hBs hbsv, fun k hk => G.cl.moreP _ hgr (hgs k hk) (hgk k hk).2 (G.vn k hk)⟩, hvn, (G.cl.moreP _ hgr (hp_lt G.bc) hBc hbcv).trans G.bc, (G.cl.moreP _ hgr (hp_lt G.bs) hBs hbsv).trans G.bs⟩, G.bc.kept hgr hbcv, hp_cell (j := 1) hb1 rfl, hp_froz hb1 1, _, _, rfl⟩
  · have e := h.vals 0 (by omega) (hd 0 (by simp [depA]))
    refine pure_ (by omega) (by omega) (by omega) (.inl ?_)
    unfold execOp
    simp only [hop, opA]
    rw [e]
    rfl
  · have e := h.vals 9 (by omega) (hd 9 (by simp [depA]))
    refine pure_ (by omega) (by omega) (by omega) (.inl ?_)
    unfold execOp
    simp only [hop, opA]
    rw [e]
    simp only [valA]
    go_simp
  · have e := h.vals 10 (by omega) (hd 10 (by simp [depA]))
    refine pure_ (by omega) (by omega) (by omega) (.inl ?_)
    unfold execOp
    simp only [hop, opA]
    rw [e]
    simp only [valA]
    go_simp
  · have e8 := h.vals 8 (by omega) (hd 8 (by simp [depA]))
    have e11 := h.vals 11 (by omega) (hd 11 (by simp [depA]))
    have h8 := hd 8 (by simp [depA])
    have hph := h.ph
    unfold PhA at hph
    rw [hno, h8] at hph
    obtain ⟨G, hB, hc, hf, g', c', rfl⟩ := hph
    refine ⟨undef, w.setCell ⟨b, 1, none⟩ (.slice (some ⟨g', 0, none⟩) (ah.length + 1) c'), .inr ⟨?_, rfl⟩, g, .slice (some ⟨g', 0, none⟩) (ah.length + 1) c', ?_⟩
    · unfold execOp
      simp only [hop, opA]
      rw [e8, e11]
      simp only [valA]
      go_simp
    · rw [hdst, dstA, if_pos rfl]
      refine ⟨h.sz, h.e2, h.e6, fun k hk hl => h.vals k hk (by rw [getDI_set _ _ _ (by omega), if_neg (by omega)] at hl; exact hl), ?_⟩
      rw [getDI_set _ _ _ (by omega), getDI_set _ _ _ (by omega), getDI_set _ _ _ (by omega), if_neg (by omega), if_neg (by omega), if_pos rfl]
      exact G
def backBA (ops : Array Oper) : Bool := (List.range ops.size).all fun i => ((ops[i]?).map fun o => o.after.all fun e => decide (e.on < i)).getD true
theorem back_ofA {ops : Array Oper} (h : backBA ops = true) : ∀ (i : Nat) (o : Oper), ops[i]? = some o → ∀ e ∈ o.after, e.on < i := fun i o ho e he => by
  have hi := (Array.getElem?_eq_some_iff.1 ho).1
  have := List.all_eq_true.1 h i (List.mem_range.2 hi)
  rw [ho] at this
  simp only [Option.map_some, Option.getD_some] at this
  rw [Array.all_eq_true_iff_forall_mem] at this
  simpa using this e he
def depBA (ops : Array Oper) : Bool := (List.range 13).all fun i => (depA i).all fun k => ((ops[i]?).map fun o => o.after.any fun e => e.on == k && Region.binds .any e).getD false
theorem dep_ofA {ops : Array Oper} (h : depBA ops = true) {i : Nat} {o : Oper} (ho : ops[i]? = some o) (hi : i < 13) {k : Nat} (hk : k ∈ depA i) : ∃ e ∈ o.after, e.on = k ∧ Region.binds .any e = true := by
  have := List.all_eq_true.1 (List.all_eq_true.1 h i (List.mem_range.2 hi)) k hk
  rw [ho] at this
  simp only [Option.map_some, Option.getD_some] at this
  rw [← Array.any_toList, List.any_eq_true] at this
  obtain ⟨x, hx, hv⟩ := this
  rw [Bool.and_eq_true] at hv
  exact ⟨x, Array.mem_toList_iff.1 hx, by simpa using hv.1, hv.2⟩
theorem opA_plain {o : Oper} {i : Nat} (hop : o.op = opA i) : (∀ c, o.op ≠ .defer c) ∧ ∀ (ρ : Operand → Value) w, o.about Try.prog w ρ = none := by
  constructor
  · intro c
    rw [hop]
    rcases i with _ | _ | _ | _ | _ | _ | _ | _ | _ | _ | _ | _ | i <;> simp [opA]
  · intro ρ w
    unfold Oper.about
    rw [hop]
    rcases i with _ | _ | _ | _ | _ | _ | _ | _ | _ | _ | _ | _ | i <;> simp [opA, resolve, Target.leads, Sem.run_pure]
theorem ahead_region {F : Fence} {m : Nat} {Q : Exit → Act → World → Prop} {id : Nat} {a : Act} {ops : Array Oper} (hm : Try.prog.follows .mixedOrders = true)
    (h1 : ops.toList.map (fun o => (o.dst, o.op, o.guard)) = (List.range 13).map fun i => (dstA i, opA i, none)) (h2 : depBA ops = true) (h3 : backBA ops = true)
    (hG : GdA base b gc n Bc Bs K q c R A W W.drew va ah) (hsz : a.tmps.size = 27) (he2 : a.eval (.tmp 2) = .pointer (some ⟨Bc, 0, none⟩)) (he6 : a.eval (.tmp 6) = .int .i64 x)
    (hah : ah.length + 1 ≤ 100000000) (hgk : ∀ k, K k → k < W.heap.size ∧ k ≠ b) (hBs : Bs ≠ b) (hBc : Bc ≠ b)
    (hend : ∀ a' w' v', GdA base b gc n Bc Bs K q c R A W w' v' (ah ++ [x]) → Q .normal a' w') : (Code.region id ops true).wpIn F m Try.prog Q a W := by
  have hs13 : ops.size = 13 := by
    have := congrArg List.length h1
    simpa using this
  have hops : ∀ i o, ops[i]? = some o → i < 13 ∧ o.dst = dstA i ∧ o.op = opA i ∧ o.guard = none := fun i o ho => by
    have hi : i < 13 := by have := (Array.getElem?_eq_some_iff.1 ho).1; omega
    have e := congrArg (fun l => l[i]?) h1
    simp only [List.getElem?_map, Array.getElem?_toList, ho, Option.map_some, List.getElem?_range hi] at e
    injection e with e
    injection e with e1 e
    injection e with e2 e3
    exact ⟨hi, e1, e2, e3⟩
  refine wpIn_region_inv hm (fun L a w => ∃ g v', StA base b gc n Bc Bs K q c R A W va ah x g v' L a w) (back_ofA h3) (fun i o ho => ?_) ⟨0, undef, ?_⟩ (fun i o ho L a w hL hCl hno hd hS => ?_) (fun L a w hL hall hS => ?_)
  · obtain ⟨_, _, e2, e3⟩ := hops i o ho
    exact ⟨e3, opA_plain e2⟩
  · have hr : ∀ k, (Array.replicate ops.size false).getD k false = false := fun k => by
      simp only [Array.getD_eq_getD_getElem?, Array.getElem?_replicate]
      split <;> rfl
    refine ⟨hsz, he2, he6, fun k _ hl => (by rw [hr] at hl; cases hl), ?_⟩
    rw [hr, hr, hr]
    exact ⟨hG, fun e => by cases e⟩
  · obtain ⟨hi, e1, e2, e3⟩ := hops i o ho
    obtain ⟨g, v', hS⟩ := hS
    refine stepA hi e2 e1 (hL.trans hs13) (fun j k hj hk hl => ?_) hno (fun k hk => ?_) hS hah hgk hBs hBc
    · obtain ⟨p, hp⟩ : ∃ p, ops[j]? = some p := ⟨_, Array.getElem?_eq_getElem (by omega)⟩
      obtain ⟨e, he, rfl, hb⟩ := dep_ofA h2 hp hj hk
      exact hCl j p hp hl e he hb
    · obtain ⟨e, he, rfl, hb⟩ := dep_ofA h2 ho hi hk
      exact hd e he hb
  · obtain ⟨g, v', hS⟩ := hS
    have hph := hS.ph
    unfold PhA at hph
    rw [hall 12 (by omega)] at hph
    exact hend a w v' hph
end
end Go.Proofs.Ytcbiaeeifclieaa
/- cells' Ahead of cells that exist, walked. -/
namespace Go.Proofs.Ytcbiaeeifclieaa
open Go.RowKit Go.Shelf

attribute [local go_sem] Oper.semAt_some

/-- What holds between two rounds. -/
structure IvA (base b gc n Bc Bs : Nat) (K : Nat → Prop) (q c : Nat) (R : List RC) (A : Option Addr) (W w : World) (va : Value) (ah : List Int) : Prop where
  cl : CellsAt w base b gc n R va ah
  bel : Below b W w
  kt : KeepT b W w
  kx : ∀ k, K k → w.heap[k]? = W.heap[k]?
  vn : ∀ k, K k → some k ≠ va.ownBlock
  bc : Boxed w Bc 24 (.pointer (some ⟨b, 0, none⟩))
  bs : Boxed w Bs 31 (.slice A q c)
theorem ivA_own (base b gc n Bc Bs : Nat) (K : Nat → Prop) (q c : Nat) (R : List RC) (A : Option Addr) (ah : List Int) (w : World) (B : Nat) (hB : b ≤ w.heap.size) (hbB : b ≤ B) (hK : ∀ k, K k → k < w.heap.size ∧ k < B) :
    OwnFrom B (fun (pre : List (Nat × Int)) W => ∃ va, IvA base b gc n Bc Bs K q c R A w W va (ah ++ pre.map (·.2))) := by
  rintro s X Y row ⟨va, G⟩ hg hr
  have hr' : ∀ r, row = some r → ∃ o : Obj, X.heap[r]? = some o ∧ o.isCells = false := fun r e => (hr r e).2
  have hne : ∀ {k : Nat} {t : TypeId} {u : Value}, Boxed X k t u → some k ≠ row := fun {k t u} hk e => by
    obtain ⟨o, ho, hc⟩ := hr' k e.symm
    rw [show X.heap[k]? = _ from hk] at ho; cases ho; cases hc
  exact ⟨va, G.cl.turn hg hr', G.bel.grown hg (Nat.le_trans hB G.bel.size) (fun k e => by have := (hr k e).1; omega), G.kt.turn hg hr', fun k hk => (hg.block k (Nat.lt_of_lt_of_le (hK k hk).1 G.bel.size) (fun e => by have := (hr k e.symm).1; have := (hK k hk).2; omega)).trans (G.kx k hk), G.vn, G.bc.kept hg (hne G.bc), G.bs.kept hg (hne G.bs)⟩
theorem IvA.gd {base b gc n Bc Bs : Nat} {K : Nat → Prop} {q c : Nat} {R : List RC} {A : Option Addr} {W w : World} {va : Value} {ah : List Int} (h : IvA base b gc n Bc Bs K q c R A W w va ah) : GdA base b gc n Bc Bs K q c R A w w.drew va ah :=
  ⟨h.cl.low (Below.refl _ _).drew, (Below.refl _ _).drew, ⟨Nat.le_refl _, fun _ _ hk _ => hk⟩, fun _ _ _ _ _ h3 => h3, ⟨rfl, fun _ _ => rfl⟩, h.vn, h.bc, h.bs⟩

set_option maxRecDepth 100000 in
set_option maxHeartbeats 2000000 in
theorem ahead_in (base b gc n : Nat) (R : List RC) (va : Value) (ah codes : List Int) (A : Option Addr) (q c : Nat) (K : Nat → Prop) (w : World) (hC : CellsAt w base b gc n R va ah) (hn0 : 0 < n) (hn : n ≤ 100000000) (hr : Rd w 1 A q (codes.map (Value.int .i64))) (hq : q ≤ 1000000) (hA : ∀ ad, A = some ad → 0 < q → K ad.block) (hgk : ∀ k, K k → k < w.heap.size ∧ k ≠ b ∧ some k ≠ va.ownBlock) (hah : ah.length + q ≤ 100000000) :
    CallsIn Fence.wide 5 Try.prog 37 #[.pointer (some ⟨b, 0, none⟩), .slice A q c] w fun e W' => e = .returned (.int .i64 0) ∧ (∃ va', CellsAt W' base b gc n R va' (ah ++ codes.reverse) ∧ ∀ k, K k → some k ≠ va'.ownBlock) ∧ Below b w W' ∧ KeepT b w W' ∧ ∀ k, K k → W'.heap[k]? = w.heap[k]? := by
  have hlen : codes.length = q := by have := hr.1; rw [List.length_map] at this; omega
  have HAL := Lib.hid (all_any b (some ⟨gc, 0, none⟩) n n)
  have HC := Lib.hid hC
  have HRR := Lib.hid hr
  have hbw := hp_lt hC.hb
  have hbase := hC.far.2.2.2
  have hbb := hC.far.1
  have HBN := Lib.hid (below_new w (.cells #[.pointer (some ⟨b, 0, none⟩)] 24))
  have c1 : (w.alloc (.cells #[.pointer (some ⟨b, 0, none⟩)] 24)).cell? ⟨b, 0, none⟩ = some (.slice (some ⟨gc, 0, none⟩) n n) := cell_below HBN.out (hp_cell (j := 0) hC.hb rfl)
  have HC1 := Lib.hid c1
  clear hC hr
  refine callsIn_of_wp_marks Try.func37 rfl trivial ?_ rfl
  simp only [Try.ntmps37, List.size_toArray, List.length_cons, List.length_nil, Nat.reduceAdd, Nat.reduceSub, Array.replicate_succ, Array.replicate_zero, List.push_toArray, List.append_toArray, List.nil_append, List.cons_append]
  gi_wp2_with (first
    | (refine ⟨trivial, ?_⟩; gi_at_call 43; refine (callsIn_wide.2 (HAL.out _ HC1.out)).mono ?_; rintro e w1 ⟨rfl, hb1⟩)
    | (refine ⟨trivial, ?_⟩; gi_at_call 44; refine (callsIn_wide.2 (prRight_any 0 n _)).mono ?_; rintro e w2 ⟨rfl, hb2⟩; rw [show rightB ((0 : Int), (n : Int)) = true by simp [rightB]; omega])
    | (refine ⟨trivial, ?_⟩; gi_at_call 60; refine (bgBack_in Fence.wide (5 - 1) trivial rfl _ _ _ _).mono ?_; rintro e w' ⟨rfl, rfl⟩)
    | fail)
  have H2 : Below (w.heap.size + 1) (w.alloc (.cells #[.pointer (some ⟨b, 0, none⟩)] 24)) w2 := by
    have := below_self hb1 hb2
    rwa [World.size_alloc] at this
  have hs2 : w.heap.size + 1 ≤ w2.heap.size := by have := H2.size; rwa [World.size_alloc] at this
  have HB2 : Below w.heap.size w w2 := HBN.out.trans (H2.mono (by omega))
  have bC2 : Boxed w2 w.heap.size 24 (.pointer (some ⟨b, 0, none⟩)) := (H2.block _ (by omega)).trans (Boxed.new w _ _)
  clear hb1 hb2 c1
  have bS := Boxed.new w2 31 (.slice A q c)
  have bC := bC2.alloc (.cells #[.slice A q c] 31)
  obtain ⟨W0, hW0⟩ : ∃ W0, w2.alloc (.cells #[.slice A q c] 31) = W0 := ⟨_, rfl⟩
  have hsW : W0.heap.size = w2.heap.size + 1 := by rw [← hW0, World.size_alloc]
  have HB0 : Below w.heap.size w W0 := by rw [← hW0]; exact HB2.alloc (by omega) _
  rw [hW0] at bS bC ⊢
  obtain ⟨Bs, hBs⟩ : ∃ Bs, w2.heap.size = Bs := ⟨_, rfl⟩
  obtain ⟨Bc, hBc⟩ : ∃ Bc, w.heap.size = Bc := ⟨_, rfl⟩
  rw [hBs] at bS hsW hs2 ⊢
  rw [hBc] at bC HB0 hs2 hbw hbase ⊢
  have hcs : ∀ (j : Nat) (u : Int), codes[j]? = some u → ∃ ad, A = some ad ∧ W0.cell? (ad.add j) = some (.int .i64 u) := fun j u hj => by
    have hj' := (List.getElem?_eq_some_iff.1 hj).1
    obtain ⟨ad, e, hlt, hcell⟩ := HRR.out.2 (by omega)
    exact ⟨ad, e, (HB0.cell (p := ad.add j) (by rw [blockAdd, ← hBc]; exact hlt)).trans (hcell j _ (by rw [List.getElem?_map, hj]; rfl))⟩
  have hKW : ∀ k, K k → k < W0.heap.size := fun k hk => by have := (hgk k hk).1; omega
  have hC0 := HC.out.low (by rw [hBc]; exact HB0)
  refine wpIn_rangeFunc_ownG rfl (by omega) (gf := 81) (lb := #[.pointer (some ⟨Bs, 0, none⟩)]) rfl trivial (enters_of Try.func81 (by kernel_rfl) rfl)
    (backG_stops Fence.wide (5 - 1) trivial rfl (by omega) Bs K q c A codes (by omega) hlen hA W0 (by omega) hKW bS.cell hcs) KpB.trans (KpB.put (by omega) hKW) (Below.refl _ _) (fun _ => rfl)
    (fun pre W => ∃ va', IvA base b gc n Bc Bs K q c R A w W va' (ah ++ pre.map (·.2)))
    (fun _ _ _ => False)
    (ivA_own base b gc n Bc Bs K q c R A ah w _ (by omega) (by omega) (fun k hk => ⟨(hgk k hk).1, hKW k hk⟩))
    (fun _ _ _ _ _ hs _ _ => hs)
    ⟨va, by simpa using hC0, HB0.mono (by omega), .of_below (by rw [hBc]; exact HB0), fun k hk => HB0.block k (by have := (hgk k hk).1; omega), fun k hk => (hgk k hk).2.2, bC, bS⟩
    (fun x => { tmps := #[.pointer (some ⟨b, 0, none⟩), .slice A q c, .pointer (some ⟨Bc, 0, none⟩), undef, .int .i64 0, undef, .int .i64 x.2, .pointer (some ⟨b, 0, none⟩), .agg #[.int .i64 0, .int .i64 n], .bool true, .bool false, .slice A q c, .func (.func 81) #[] #[.pointer (some ⟨Bs, 0, none⟩)], .int .i64 (x.1 : Int), .int .i64 x.2, undef, undef, undef, undef, undef, undef, undef, undef, undef, undef, undef, undef], defers := [] }) ?assign ?body ?done ?stop
  case assign =>
    intro l x W K hK
    gi_wp2
    exact hK
  case body =>
    rintro l pre ⟨x1, x2⟩ W ⟨va', G⟩ hpl
    have hpl2 : (ah ++ pre.map (·.2)).length + 1 ≤ 100000000 := by rw [List.length_append, List.length_map]; omega
    gi_wp2_with fail
    refine ahead_region (by kernel_rfl) rfl (by kernel_rfl) (by kernel_rfl) G.gd rfl rfl rfl hpl2 (fun k hk => ⟨Nat.lt_of_lt_of_le (hgk k hk).1 G.bel.size, (hgk k hk).2.1⟩) (by omega) (by omega) ?_
    intro a' w' v' G2
    exact ⟨G2.ko.from _, G2.kp, v', by simpa using G2.cl, G.bel.trans G2.bel, G.kt.trans G2.kt, fun k hk => (G2.kp.2 k hk).trans (G.kx k hk), G2.vn, G2.bc, G2.bs⟩
  case done =>
    rintro D ys W hD rfl ⟨va', G⟩ hK
    gi_wp2
    have hgD := grownBy_putObj' W D (.deferred none)
    have hcl := G.cl.turn hgD (fun r e => by cases e; exact ⟨_, hK, rfl⟩)
    rw [bgUpto_snd hlen] at hcl
    have hkt := G.kt.turn hgD (fun r e => by cases e; exact ⟨_, hK, rfl⟩)
    have hbl := G.bel.grown hgD (Nat.le_trans (by omega) G.bel.size) (fun k e => by cases e; omega)
    have hkx : ∀ k, K k → _ := fun k hk => (hgD.block k (Nat.lt_of_lt_of_le (hgk k hk).1 G.bel.size) (fun e => by
      obtain rfl : k = D := Option.some.inj e
      have := hKW k hk
      omega)).trans (G.kx k hk)
    refine ⟨by simp, .inl ⟨_, _, rfl, run_takeDeferred hK, ?_⟩⟩
    exact ⟨_, results_tmp rfl _ _ _, rfl, ⟨va', hcl, G.vn⟩, hbl, hkt, hkx⟩
  case stop =>
    rintro D c pre W _ _ h _
    exact h.elim
theorem ahead_keeps (base b gc n : Nat) (R : List RC) (va : Value) (ah codes : List Int) (A : Option Addr) (q c : Nat) (w : World) (hC : CellsAt w base b gc n R va ah) (hn0 : 0 < n) (hn : n ≤ 100000000) (hr : Rd w 1 A q (codes.map (Value.int .i64))) (hq : q ≤ 1000000) (hA : ∀ ad, A = some ad → 0 < q → ad.block ≠ b ∧ some ad.block ≠ va.ownBlock) (hah : ah.length + q ≤ 100000000) :
    Calls Try.prog 37 #[.pointer (some ⟨b, 0, none⟩), .slice A q c] w fun e W' => e = .returned (.int .i64 0) ∧ (∃ va', CellsAt W' base b gc n R va' (ah ++ codes.reverse) ∧ ∀ k, k < w.heap.size ∧ k ≠ b ∧ some k ≠ va.ownBlock → some k ≠ va'.ownBlock) ∧ Below b w W' ∧ KeepT b w W' ∧ ∀ k, k < w.heap.size ∧ k ≠ b ∧ some k ≠ va.ownBlock → W'.heap[k]? = w.heap[k]? :=
  callsIn_wide.1 (ahead_in base b gc n R va ah codes A q c (fun k => k < w.heap.size ∧ k ≠ b ∧ some k ≠ va.ownBlock) w hC hn0 hn hr hq (fun ad e h0 => by
    obtain ⟨ad', e', hlt, _⟩ := hr.2 h0
    rw [e] at e'
    obtain rfl := Option.some.inj e'
    exact ⟨hlt, hA ad e h0⟩) (fun _ h => h) hah)
theorem ahead_cells (base b gc n : Nat) (R : List RC) (va : Value) (ah codes : List Int) (A : Option Addr) (q c : Nat) (w : World) (hC : CellsAt w base b gc n R va ah) (hn0 : 0 < n) (hn : n ≤ 100000000) (hr : Rd w 1 A q (codes.map (Value.int .i64))) (hq : q ≤ 1000000) (hA : ∀ ad, A = some ad → 0 < q → ad.block < b) (hah : ah.length + q ≤ 100000000) :
    Calls Try.prog 37 #[.pointer (some ⟨b, 0, none⟩), .slice A q c] w fun e W' => e = .returned (.int .i64 0) ∧ (∃ va', CellsAt W' base b gc n R va' (ah ++ codes.reverse)) ∧ Below b w W' ∧ KeepT b w W' :=
  (ahead_keeps base b gc n R va ah codes A q c w hC hn0 hn hr hq (fun ad e h0 => by
    have h1 := hA ad e h0
    exact ⟨by omega, fun e2 => own_not hC.arow (by have := hC.far.1; omega) e2.symm⟩) hah).mono fun _ _ ⟨h1, ⟨va', h2, _⟩, h3, h4, _⟩ => ⟨h1, ⟨va', h2⟩, h3, h4⟩
set_option maxRecDepth 100000 in
set_option maxHeartbeats 1000000 in
theorem ahead_zero (base b gc : Nat) (R : List RC) (va : Value) (ah : List Int) (A : Option Addr) (q c : Nat) (w : World) (hC : CellsAt w base b gc 0 R va ah) :
    Calls Try.prog 37 #[.pointer (some ⟨b, 0, none⟩), .slice A q c] w fun e w' => e = .returned (.int .i64 1) ∧ Below w.heap.size w w' := by
  have hbn := below_new w (.cells #[.pointer (some ⟨b, 0, none⟩)] 24)
  have hnw := cells_new w [.pointer (some ⟨b, 0, none⟩)] 24 0 _ rfl
  rw [addNew] at hnw
  have H := Lib.hid (all_any b (some ⟨gc, 0, none⟩) 0 0 (w.alloc (.cells #[.pointer (some ⟨b, 0, none⟩)] 24)) (cell_below hbn (hp_cell (j := 0) hC.hb rfl)))
  clear hC
  go_enter Try.func37, Try.ntmps37
  go_wp2_with fail
  refine H.out.mono ?_
  rintro e w1 ⟨rfl, hb1⟩
  have hb2 := below_self hbn hb1
  go_wp2_with fail
  refine (prRight_any 0 0 w1).mono ?_
  rintro e w3 ⟨rfl, hb3⟩
  rw [show rightB ((0 : Int), (0 : Int)) = false from rfl]
  have hb4 := below_self hb2 hb3
  clear hb3 hbn hnw hb1
  go_wp2_with fail
  go_ret
  exact ⟨rfl, hb4⟩
end Go.Proofs.Ytcbiaeeifclieaa
