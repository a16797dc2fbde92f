/- Texts of one claim, one behind the other. -/
import Derived.Laws.MakeOwn
import Derived.Deep.RegionLaw
import Derived.Deep.RegionHeld3
import Derived.Test.YtcbiaeeifclieaaGreatDoorMgM1
import Derived.Test.YtcbiaeeifclieaaGreatDoorMgM2
import Derived.Test.YtcbiaeeifclieaaGreatDoorMgM4
/- The reference's cells: New, Set, Text, At, walked. -/
namespace Go.Proofs.YtcbiaeeifclieaaGreatDoor
open Go.RowKit

/-- Cells in memory: b the struct, gl its lists; each list in a block behind base, if anywhere. -/
structure RCAt (w : World) (base b gl n : Nat) (Q : List Value) (L : List (List Int)) (J : Value) : Prop where
  hb : w.heap[b]? = some (.cells #[.slice (some ⟨gl, 0, none⟩) n n, J] 107 (0, 0))
  hl : w.heap[gl]? = some (.cells Q.toArray 22 (0, 0))
  lenQ : Q.length = n
  len : L.length = n
  rows : ∀ (i : Nat) (v : Value) (l : List Int), Q[i]? = some v → L[i]? = some l → w.ownsRow base 3 1 v l.length (l.map (Value.int .i64))
  far : b < base ∧ gl < base ∧ b ≠ gl ∧ base ≤ w.heap.size
section
variable {w w' : World} {base b gl n : Nat} {Q : List Value} {L : List (List Int)} {J : Value}
theorem RCAt.keep {S : List Nat} (h : RCAt w base b gl n Q L J) (hk : Kept w w' S) (hs : ∀ x ∈ S, x < base ∧ x ≠ b ∧ x ≠ gl) : RCAt w' base b gl n Q L J :=
  ⟨hk.heap h.hb (fun m => (hs _ m).2.1 rfl), hk.heap h.hl (fun m => (hs _ m).2.2 rfl), h.lenQ, h.len, fun i v l h1 h2 => own_kept (h.rows i v l h1 h2) hk (fun x hx => (hs x hx).1), h.far.1, h.far.2.1, h.far.2.2.1, Nat.le_trans h.far.2.2.2 hk.size⟩
theorem RCAt.low (h : RCAt w base b gl n Q L J) (hb : Below w.heap.size w w') : RCAt w' base b gl n Q L J := h.keep (Kept.of_below hb []) (by simp)
theorem RCAt.row (h : RCAt w base b gl n Q L J) {i : Nat} {l : List Int} (hi : L[i]? = some l) : ∃ A k, w.cell? ⟨gl, i, none⟩ = some (.slice A l.length k) ∧ w.ownsRow base 3 1 (.slice A l.length k) l.length (l.map (Value.int .i64)) ∧ l.length ≤ k := by
  have hil := (List.getElem?_eq_some_iff.1 hi).1
  obtain ⟨v, hv⟩ : ∃ v, Q[i]? = some v := ⟨_, List.getElem?_eq_getElem (by rw [h.lenQ, ← h.len]; exact hil)⟩
  have ho := h.rows i v l hv hi
  obtain ⟨A, k, rfl, hk⟩ := own_form ho
  exact ⟨A, k, hp_cell h.hl (by rw [List.getElem?_toArray]; exact hv), ho, hk⟩
theorem RCAt.put (h : RCAt w base b gl n Q L J) {i : Nat} (hi : i < n) {v : Value} {l : List Int} (ho : w.ownsRow base 3 1 v l.length (l.map (Value.int .i64))) : RCAt (w.setCell ⟨gl, i, none⟩ v) base b gl n (Q.set i v) (L.set i l) J := by
  have hk : Kept w (w.setCell ⟨gl, i, none⟩ v) [gl] := (Kept.refl w _).set (.inl (by simp)) _ _
  refine ⟨hk.heap h.hb (by simpa using h.far.2.2.1), ?_, by simp [h.lenQ], by simp [h.len], fun j u m h1 h2 => ?_, h.far.1, h.far.2.1, h.far.2.2.1, Nat.le_trans h.far.2.2.2 hk.size⟩
  · rw [heap_setCell_same w gl i _ _ _ h.hl]
    congr 2
    rw [List.setIfInBounds_toArray]
  · refine own_kept ?_ hk (by simpa using h.far.2.1)
    by_cases e : j = i
    · subst e
      rw [List.getElem?_set_self (by rw [h.lenQ]; exact hi)] at h1
      rw [List.getElem?_set_self (by rw [h.len]; exact hi)] at h2
      obtain rfl := Option.some.inj h1
      obtain rfl := Option.some.inj h2
      exact ho
    · rw [List.getElem?_set_ne (fun h => e h.symm)] at h1 h2
      exact h.rows j u m h1 h2
end
theorem mk_lists (n : Nat) (hn : n ≤ 16777216) (w : World) : (Instr.makeSlice 105 (.int .i64 (n : Int)) (.int .i64 (n : Int))).run Tryz.prog w = .ok (.slice (some ⟨w.heap.size, 0, none⟩) n n) (w.alloc (.cells (List.replicate n (Value.slice none 0 0)).toArray 22)) := by
  have hin : (Tryz.prog.info? 22).map (fun i => (i.zero, i.size, i.bytes)) = some (some (.slice none 0 0), 1, 24) := by kernel_rfl
  obtain ⟨i, h1, h2, h3, h4⟩ := info_parts hin
  have h := run_make (P := Tryz.prog) w 105 22 i (.slice none 0 0) Tryz.underlying105 h1 h2 .i64 .i64 n n (by omega) (Int.le_refl _) (by rw [h4]; omega) (by omega)
  rw [h3] at h
  simp only [Int.toNat_natCast, Nat.mul_one] at h
  rw [h]
  refine congrArg (fun c => Result.ok _ (w.alloc (.cells c _))) ?_
  apply Array.toList_inj.1
  rw [show (Value.slice none 0 0).cells = #[.slice none 0 0] from rfl, toList_madeCells_one]
set_option maxRecDepth 100000 in
theorem rcNew_any (n : Nat) (hn : n ≤ 100000) (w : World) :
    Calls Tryz.prog 78 #[.int .i64 (n : Int)] w fun e w' => (∃ base b gl, e = .returned (.tuple #[.pointer (some ⟨b, 0, none⟩), .int .i64 0]) ∧ RCAt w' base b gl n (List.replicate n (.slice none 0 0)) (List.replicate n []) (.slice none 0 0) ∧ w.heap.size ≤ b ∧ w.heap.size ≤ gl) ∧ Below w.heap.size w w' := by
  have hmk := mk_lists n (by omega)
  have h1 := below_new w (.cells (List.replicate n (Value.slice none 0 0)).toArray 22)
  have h2 := below_new (w.alloc (.cells (List.replicate n (Value.slice none 0 0)).toArray 22)) (.cells #[.slice (some ⟨w.heap.size, 0, none⟩) n n, .slice none 0 0] 107)
  have g1 := heap_alloc_new w (.cells (List.replicate n (Value.slice none 0 0)).toArray 22)
  have g2 := heap_alloc_new (w.alloc (.cells (List.replicate n (Value.slice none 0 0)).toArray 22)) (.cells #[.slice (some ⟨w.heap.size, 0, none⟩) n n, .slice none 0 0] 107)
  rw [World.size_alloc] at g2
  have g3 := (h2.block _ (hp_lt g1)).trans g1
  have hs : w.heap.size + 2 ≤ ((w.alloc (.cells (List.replicate n (Value.slice none 0 0)).toArray 22)).alloc (.cells #[.slice (some ⟨w.heap.size, 0, none⟩) n n, .slice none 0 0] 107)).heap.size := by
    rw [World.size_alloc, World.size_alloc]; omega
  have HB := Lib.hid (below_self h1 h2)
  have hrows : ∀ (W : World) (i : Nat) (v : Value) (l : List Int), (List.replicate n (Value.slice none 0 0))[i]? = some v → (List.replicate n ([] : List Int))[i]? = some l → W.ownsRow (w.heap.size + 2) 3 1 v l.length (l.map (Value.int .i64)) := fun W i v l hv hl => by
    rw [List.getElem?_replicate] at hv hl
    by_cases hi : i < n
    · rw [if_pos hi] at hv hl
      obtain rfl := Option.some.inj hv
      obtain rfl := Option.some.inj hl
      exact World.ownsRow_nil _ _ _ _
    · rw [if_neg hi] at hv
      cases hv
  have HR := Lib.hid (RCAt.mk (base := w.heap.size + 2) (L := List.replicate n []) g2 g3 (by simp) (by simp) (hrows _) ⟨by omega, by omega, by omega, hs⟩)
  have k0 : (0 : Int) ≤ (n : Int) := by omega
  have k1 : (n : Int) ≤ 16777216 := by omega
  clear h1 h2 g1 g2 g3 hs hrows
  go_enter Tryz.func78, Tryz.ntmps78
  go_wp2
  refine bodyPost_ret (v := .tuple #[.pointer (some ⟨w.heap.size + 1, 0, none⟩), .int .i64 0]) (by simp [results, go_sem]) rfl ?_
  exact ⟨⟨_, _, _, rfl, HR.out, by omega, Nat.le_refl _⟩, HB.out⟩
set_option maxRecDepth 100000 in
set_option maxHeartbeats 2000000 in
theorem rcSet_any (base b gl n i : Nat) (Q : List Value) (L : List (List Int)) (J : Value) (A : Option Addr) (q c : Nat) (codes : List Int) (w : World) (hC : RCAt w base b gl n Q L J) (hi : i < n) (hr : Rd w 1 A q (codes.map (Value.int .i64))) (hq : q ≤ 100000) (hn : n ≤ 100000) :
    Calls Tryz.prog 50 #[.pointer (some ⟨b, 0, none⟩), .int .i64 (i : Int), .slice A q c] w fun e w' => e = .returned (.int .i64 0) ∧ (∃ v, RCAt w' base b gl n (Q.set i v) (L.set i codes) J ∧ ∀ g, v.ownBlock = some g → w.heap.size ≤ g) ∧ Kept w w' [gl] := by
  have hlen : codes.length = q := by have := hr.1; rw [List.length_map] at this; omega
  have c0 := hp_cell (j := 0) hC.hb rfl
  have HC := Lib.hid hC
  have HR := Lib.hid hr
  have HL := Lib.hid hlen
  have i0 : (0 : Int) ≤ (i : Int) := by omega
  have i1 : (i : Int) < (n : Int) := by omega
  obtain ⟨l0, hl0⟩ : ∃ l, L[i]? = some l := ⟨_, List.getElem?_eq_getElem (by rw [hC.len]; exact hi)⟩
  obtain ⟨A0, k0, hcell, _, _⟩ := hC.row hl0
  have hfz := hp_froz hC.hl i
  clear hC hr hlen hl0
  go_enter Tryz.func50, Tryz.ntmps50
  go_wp2_with fail
  have hfar := HC.out.far
  go_region_held3 (fun w' => w'.cell? ⟨b, 0, none⟩ = some (.slice (some ⟨gl, 0, none⟩) n n))
    (first
      | exact c0
      | exact y0
      | exact ((Kept.refl w5 [gl]).set (.inl (List.mem_singleton_self _)) i _).cell y0 (by simpa using hfar.2.2.1)
      | fail)
    (first
      | (refine step_appR rfl _ _ _ rfl cloneInt_slice (by decide) (.slice none 0 0) 0 [] rfl (World.ownsRow_nil w.drew w.heap.size _ _) _ q _ (codes.map (Value.int .i64)) rfl (HR.out.below (Below.refl _ _).drew) (oneInts _ _) (by omega) (by unfold maxLen; omega) (Nat.le_refl _) _ rfl ?_; intro v5 w5 hown5 hg5 hat5; simp only [Nat.zero_add, List.nil_append] at hown5; have hb5 : Below w.heap.size w w5 := (Below.refl _ _).drew.grown hg5 (Nat.le_refl _) (fun k h => by cases h); clear hat5 hg5; have hf := own_form hown5; obtain ⟨A5, k5, rfl, hk5⟩ := hf; have y0 := cell_below hb5 c0; have y1 := cell_below hb5 hcell; have y2 := hp_froz (HC.out.low hb5).hl i; have HO5 := Lib.hid hown5; have HB5 := Lib.hid hb5; clear hown5 hk5 hb5)
      | fail)
  all_goals
    have HP := Lib.hid ((HC.out.low HB5.out).put (l := codes) hi (by rw [HL.out]; exact own_base HO5.out hfar.2.2.2))
    have HK := Lib.hid ((Kept.of_below HB5.out [gl]).set (.inl (List.mem_singleton_self _)) i (.slice A5 q k5))
    clear y0 y1 y2 c0 hcell hfz
    go_wp2_with fail
    go_ret
    exact ⟨rfl, ⟨_, HP.out, fun g hg => (HO5.out.lt g hg).1⟩, HK.out⟩
end Go.Proofs.YtcbiaeeifclieaaGreatDoor
/- The reference's cells: Text, At, walked. -/
namespace Go.Proofs.YtcbiaeeifclieaaGreatDoor
open Go.RowKit

theorem flat_take {L : List (List Int)} {k : Nat} {l : List Int} (h : L[k]? = some l) : (L.take (k + 1)).flatten = (L.take k).flatten ++ l := by
  rw [List.take_add_one, h]; simp
theorem flat_le (L : List (List Int)) (k : Nat) : ((L.take k).flatten).length ≤ (L.flatten).length := by
  conv => rhs; rw [← List.take_append_drop k L, List.flatten_append, List.length_append]
  omega
set_option maxRecDepth 100000 in
set_option maxHeartbeats 2000000 in
theorem rcText_any (base b gl n : Nat) (Q : List Value) (L : List (List Int)) (J : Value) (w : World) (hC : RCAt w base b gl n Q L J) (hn : n ≤ 100000) (hf : (L.flatten).length ≤ 100000) :
    Calls Tryz.prog 22 #[.pointer (some ⟨b, 0, none⟩)] w fun e w' => (∃ v, e = .returned v ∧ w'.ownsRow w.heap.size 3 1 v (L.flatten).length ((L.flatten).map (Value.int .i64))) ∧ Below w.heap.size w w' := by
  have HC := Lib.hid hC
  have HL := Lib.hid hC.len
  clear hC
  go_enter Tryz.func22, Tryz.ntmps22
  go_wp2_with fail
  go_loopw [3, 4] (fun v i ws => ∃ k : Nat, k ≤ n ∧ i = .int .i64 (k : Int) ∧ ws.ownsRow w.heap.size 3 1 v ((L.take k).flatten).length (((L.take k).flatten).map (Value.int .i64)) ∧ Below w.heap.size w ws) (fun _ i _ => n - (intOf i).toNat)
  case atStart => exact ⟨0, Nat.zero_le _, rfl, World.ownsRow_nil _ _ _ _, Below.refl _ _⟩
  case round =>
    obtain ⟨k, hk, rfl, hown, hb⟩ := hrel
    obtain ⟨V, cv, rfl, hcv⟩ := own_form hown
    have HO := Lib.hid hown
    have HB := Lib.hid hb
    have hC1 := HC.out.low hb
    have c0 := hp_cell (j := 0) hC1.hb rfl
    have hle := flat_le L k
    have k0 : (0 : Int) ≤ (k : Int) := by omega
    by_cases hlt : k < n
    · obtain ⟨l, hlk⟩ : ∃ l, L[k]? = some l := ⟨_, List.getElem?_eq_getElem (by rw [HL.out]; exact hlt)⟩
      obtain ⟨A, kc, hcell, hrow, hkc⟩ := hC1.row hlk
      have hlt' : (k : Int) < (n : Int) := by omega
      have HS := Lib.hid (flat_take hlk)
      have hle2 := flat_le L (k + 1)
      rw [HS.out, List.length_append] at hle2
      have HR := Lib.hid (Rd.of_own hrow)
      have hz := hb.size
      clear hlk hrow hC1 hown hb
      go_wp2_with (at_builtin; refine wpList_appR rfl _ _ _ rfl cloneInt_slice (by decide) _ ((L.take k).flatten).length _ rfl HO.out A l.length kc (l.map (Value.int .i64)) rfl HR.out (oneInts _ _) (by omega) (by unfold maxLen; omega) hz ?_; intro v1 w5 hown1 hg1 hat1)
      have HB5 := Lib.hid (below_app HB.out hg1 HO.out hz)
      have HO5 := Lib.hid hown1
      clear hg1 hat1 hown1 c0 hcell
      go_roundw
      case rel =>
        refine ⟨k + 1, by omega, by go_num, ?_, HB5.out⟩
        rw [HS.out, List.length_append, List.map_append]
        exact HO5.out
      case measure => simp [intOf]; omega
    · have HE := Lib.hid (show L.take k = L from List.take_of_length_le (by rw [HL.out]; omega))
      clear hown hb hC1
      go_wp2_with fail
      go_ret
      have := HO.out
      rw [HE.out] at this
      simp only [HE.out]
      exact ⟨⟨_, rfl, this⟩, HB.out⟩
end Go.Proofs.YtcbiaeeifclieaaGreatDoor
/- The reference's whole: joins all that lies between places that belong together. -/
namespace Go.Proofs.YtcbiaeeifclieaaGreatDoor
open Go.RowKit

/-- What hull tells of a number that stands at k: a span within the list, from at most k to more than k. -/
theorem hullFrom_up (v : Int) : ∀ (l : List Int) (k : Nat) (a b : Nat), a ≤ b → b ≤ k → ∃ a' b' : Nat, hullFrom v l k ((a : Int), (b : Int)) = ((a' : Int), (b' : Int)) ∧ a' ≤ b' ∧ b' ≤ k + l.length ∧ b ≤ b' ∧ (a < b → a' < b') ∧ (∀ x ∈ l, (x == v) = true → a' < b')
  | [], k, a, b, h, hk => ⟨a, b, rfl, h, by simpa using hk, Nat.le_refl _, fun h => h, by simp⟩
  | x :: l, k, a, b, h, hk => by
    cases hx : x == v with
    | false =>
      rw [hullFrom_no hx]
      obtain ⟨a', b', e, h1, h2, h3, h4, h5⟩ := hullFrom_up v l (k + 1) a b h (by omega)
      refine ⟨a', b', e, h1, by simp; omega, h3, h4, ?_⟩
      intro y hy hyv
      rcases List.mem_cons.1 hy with rfl | hy
      · rw [hx] at hyv; cases hyv
      · exact h5 y hy hyv
    | true =>
      cases hb : (b : Int) == 0 with
      | true =>
        rw [hullFrom_first hx hb, show ((k : Int) + 1) = ((k + 1 : Nat) : Int) by omega]
        obtain ⟨a', b', e, h1, h2, h3, h4, h5⟩ := hullFrom_up v l (k + 1) k (k + 1) (by omega) (by omega)
        exact ⟨a', b', e, h1, by simp; omega, by omega, fun _ => h4 (by omega), fun y _ _ => h4 (by omega)⟩
      | false =>
        rw [hullFrom_more hx hb, show ((k : Int) + 1) = ((k + 1 : Nat) : Int) by omega]
        obtain ⟨a', b', e, h1, h2, h3, h4, h5⟩ := hullFrom_up v l (k + 1) a (k + 1) (by omega) (by omega)
        exact ⟨a', b', e, h1, by simp; omega, by omega, fun _ => h4 (by omega), fun y _ _ => h4 (by omega)⟩
theorem hullN_at {xs : List Int} {k : Nat} {v : Int} (h : xs[k]? = some v) : ∃ a b : Nat, hullN xs v = ((a : Int), (b : Int)) ∧ a < b ∧ b ≤ xs.length := by
  obtain ⟨a, b, e, h1, h2, h3, h4, h5⟩ := hullFrom_up v xs 0 0 0 (Nat.le_refl _) (Nat.le_refl _)
  exact ⟨a, b, e, h5 v (List.mem_of_getElem? h) (by simp), by omega⟩

theorem grown_of_below {w w' : World} (row : Option Nat) (hb : Below w.heap.size w w') : w.grownBy w' row := ⟨hb.os, hb.tape, hb.output, hb.size, fun k hk _ => hb.block k hk⟩
theorem own_belowS {w w' : World} {base : Nat} {e : TypeId} {size n : Nat} {v : Value} {xs : List Value} (h : w.ownsRow base e size v n xs) (hb : Below w.heap.size w w') : w'.ownsRow base e size v n xs :=
  h.kept (grown_of_below none hb) (Classical.em _)

theorem below_drewL {w w' : World} (h : Below w.drew.heap.size w.drew w') : Below w.heap.size w w' := ⟨h.os, h.tape, h.output, h.size, h.block⟩

/-- One step of whole: the list with its hull set to the least, and whether something changed. -/
def wholeStep (s : List Int × Bool) (k : Nat) : List Int × Bool :=
  let h := hullN s.1 (s.1.getD k 0)
  let y := leastS s.1 h.1.toNat h.2.toNat
  (setTo s.1 h.1.toNat h.2.toNat y, changedB s.1 h.1.toNat h.2.toNat y || s.2)
def wholeFrom (m : Nat) (k : Nat) (s : List Int × Bool) : List Int × Bool := (List.range' k (m - k)).foldl wholeStep s
theorem wholeFrom_succ {m k : Nat} (s : List Int × Bool) (h : k < m) : wholeFrom m k s = wholeFrom m (k + 1) (wholeStep s k) := by
  unfold wholeFrom
  rw [show m - k = (m - (k + 1)) + 1 by omega, List.range'_succ]
  rfl
theorem wholeFrom_end (m : Nat) (s : List Int × Bool) : wholeFrom m m s = s := by simp [wholeFrom]
theorem wholeStep_at {xs : List Int} {b : Bool} {k lo hi : Nat} {v : Int} (h : xs[k]? = some v) (hh : hullN xs v = ((lo : Int), (hi : Int))) : wholeStep (xs, b) k = (setTo xs lo hi (leastS xs lo hi), changedB xs lo hi (leastS xs lo hi) || b) := by
  unfold wholeStep
  simp only [List.getD_eq_getElem?_getD, h, Option.getD_some, hh, Int.toNat_natCast]

set_option maxRecDepth 100000 in
set_option maxHeartbeats 4000000 in
theorem refWhole_any (base g c n : Nat) (xs : List Int) (w : World) (hxn : xs.length = n) (hown : w.ownsRow base 3 1 (.slice (some ⟨g, 0, none⟩) n c) n (xs.map (Value.int .i64))) (hbase : base ≤ w.heap.size) (hn : n ≤ 100000000) :
    Calls Tryz.prog 113 #[.slice (some ⟨g, 0, none⟩) n c] w fun e w' =>
      e = .returned (.bool (wholeFrom n 0 (xs, false)).2) ∧ w'.ownsRow base 3 1 (.slice (some ⟨g, 0, none⟩) n c) n ((wholeFrom n 0 (xs, false)).1.map (Value.int .i64)) ∧ w.grownBy w' (some g) := by
  have HL := Lib.hid hxn
  clear hxn
  go_enter Tryz.func113, Tryz.ntmps113
  go_wp2
  go_loopw [3, 4] (fun b i wr => ∃ (k : Nat) (ys : List Int) (bb : Bool), k ≤ n ∧ i = .int .i64 k ∧ b = .bool bb ∧ wholeFrom n 0 (xs, false) = wholeFrom n k (ys, bb) ∧ ys.length = n ∧ wr.ownsRow base 3 1 (.slice (some ⟨g, 0, none⟩) n c) n (ys.map (Value.int .i64)) ∧ w.grownBy wr (some g)) (fun _ i _ => n - (intOf i).toNat)
  case atStart =>
    exact ⟨0, xs, false, Nat.zero_le _, rfl, rfl, rfl, HL.out, hown, World.grownBy.refl w _⟩
  case round =>
    obtain ⟨k, ys, bb, hk, rfl, rfl, hh, hyl, hownr, hgr⟩ := hrel
    have HH := Lib.hid hh
    have HY := Lib.hid hyl
    clear hh hyl
    by_cases hlt : k < n
    · obtain ⟨v, hvk⟩ : ∃ v, ys[k]? = some v := ⟨_, List.getElem?_eq_getElem (by rw [HY.out]; omega)⟩
      have ck : wr.cell? ⟨g, k, none⟩ = some (.int .i64 v) := by
        rw [hownr.cellAt k (by omega), List.getElem?_map, hvk]; rfl
      obtain ⟨lo, hi, hhu, hlh, hhn⟩ := hullN_at hvk
      rw [HY.out] at hhn
      have HW := Lib.hid (wholeStep_at (b := bb) hvk hhu)
      have HU := Lib.hid hhu
      clear hvk hhu
      go_wp2_with fail
      refine (refHullN_any (some ⟨g, 0, none⟩) n c ys v wr (Rd.of_own hownr) hn).mono ?_
      rintro e w1 ⟨rfl, hb1⟩
      rw [HU.out]
      have hown1 := own_belowS hownr hb1
      have hg1 := grown_two hgr (grown_of_below (some g) hb1)
      have hs1 : wr.heap.size ≤ w1.heap.size := hb1.size
      clear hownr hgr hb1 ck
      dsimp only
      go_wp2_with fail
      have hown2 := hown1.alloc (Obj.cells #[.int .i64 (lo : Int), .int .i64 (hi : Int)] 39)
      have hg2 := grown_two hg1 (World.grownBy_alloc w1 (Obj.cells #[.int .i64 (lo : Int), .int .i64 (hi : Int)] 39) (some g))
      have e0 : (w1.alloc (Obj.cells #[.int .i64 (lo : Int), .int .i64 (hi : Int)] 39)).cell? ⟨w1.heap.size, 0, none⟩ = some (.int .i64 (lo : Int)) := by rw [World.cell?_alloc_at _ _ _ _ rfl]; rfl
      have e1 : (w1.alloc (Obj.cells #[.int .i64 (lo : Int), .int .i64 (hi : Int)] 39)).cell? ⟨w1.heap.size, 1, none⟩ = some (.int .i64 (hi : Int)) := by rw [World.cell?_alloc_at _ _ _ _ rfl]; rfl
      have hgb : g < w1.heap.size := (hown1.lt g rfl).2
      have hbase1 : base ≤ w1.heap.size := Nat.le_trans hbase hg1.size
      have hbase2 : base ≤ (w1.alloc (Obj.cells #[.int .i64 (lo : Int), .int .i64 (hi : Int)] 39)).heap.size := Nat.le_trans hbase1 (by simp)
      generalize (w1.alloc (Obj.cells #[.int .i64 (lo : Int), .int .i64 (hi : Int)] 39)) = w2 at *
      generalize w1.heap.size = b at *
      clear hown1 hg1 hs1
      have hown2d := hown2.drew
      have hrd2 := Rd.of_own hown2d
      have hlo : lo < n := by omega
      have hle : lo ≤ hi := by omega
      have hbw : b < w2.heap.size := cell_lt e0
      have hbg : some b ≠ some g := by simp; omega
      cases hcb : changedB ys lo hi (leastS ys lo hi) with
      | true =>
        first
          | (go_region_law (first
              | (go_simp; go_at_call 111; refine (refLeast_any (some ⟨g, 0, none⟩) n c lo hi ys _ hrd2 hlo hhn hn).mono ?_; rintro e w3 ⟨rfl, hbL⟩; have x0 := cell_below hbL e0; have x1 := cell_below hbL e1)
              | (go_simp; go_at_call 112; refine (refSame_any base g c n lo hi ys (leastS ys lo hi) _ HY.out (own_belowS hown2d hbL) (Nat.le_trans hbase2 hbL.size) hle hhn hn).mono ?_; rintro e w4 ⟨rfl, hown4, hg4⟩; rw [hcb]; have y0 := (hg4.cell_far _ (Nat.lt_of_lt_of_le hbw hbL.size) hbg).trans x0; have y1 := (hg4.cell_far _ (Nat.lt_of_lt_of_le hbw hbL.size) hbg).trans x1)
              | fail))
          | fail
        all_goals
          have HW2 := Lib.hid (show wholeStep (ys, bb) k = (setTo ys lo hi (leastS ys lo hi), true) by rw [HW.out, hcb]; rfl)
          have HT := Lib.hid (show (setTo ys lo hi (leastS ys lo hi)).length = n by rw [setTo_len _ hle (by rw [HY.out]; exact hhn), HY.out])
          have hg5 := grown_two (grown_two hg2 (grown_of_below (some g) (below_drewL hbL))) hg4
          go_wp2
          go_roundw
          case rel => exact ⟨k + 1, _, true, by omega, by go_num, rfl, by rw [HH.out, wholeFrom_succ _ hlt, HW2.out], HT.out, hown4, hg5⟩
          case measure => simp [intOf]; omega
      | false =>
        go_region_held3 (fun w' => w'.cell? ⟨b, 0, none⟩ = some (.int .i64 (lo : Int)) ∧ w'.cell? ⟨b, 1, none⟩ = some (.int .i64 (hi : Int)))
          (first | go_keep | exact ⟨cell_below hbL e0, cell_below hbL e1⟩ | exact ⟨(hg4.cell_far _ (Nat.lt_of_lt_of_le hbw hbL.size) hbg).trans (cell_below hbL e0), (hg4.cell_far _ (Nat.lt_of_lt_of_le hbw hbL.size) hbg).trans (cell_below hbL e1)⟩)
          (first
            | (go_at_call 111; refine (refLeast_any (some ⟨g, 0, none⟩) n c lo hi ys _ hrd2 hlo hhn hn).mono ?_; rintro e w3 ⟨rfl, hbL⟩)
            | (go_at_call 112; refine (refSame_any base g c n lo hi ys (leastS ys lo hi) _ HY.out (own_belowS hown2d hbL) (Nat.le_trans hbase2 hbL.size) hle hhn hn).mono ?_; rintro e w4 ⟨rfl, hown4, hg4⟩; rw [hcb]))
        have HW2 := Lib.hid (show wholeStep (ys, bb) k = (setTo ys lo hi (leastS ys lo hi), bb) by rw [HW.out, hcb]; rfl)
        have HT := Lib.hid (show (setTo ys lo hi (leastS ys lo hi)).length = n by rw [setTo_len _ hle (by rw [HY.out]; exact hhn), HY.out])
        have hg5 := grown_two (grown_two hg2 (grown_of_below (some g) (below_drewL hbL))) hg4
        go_wp2
        go_roundw
        case rel => exact ⟨k + 1, _, bb, by omega, by go_num, rfl, by rw [HH.out, wholeFrom_succ _ hlt, HW2.out], HT.out, hown4, hg5⟩
        case measure => simp [intOf]; omega
    · have HZ := Lib.hid (show wholeFrom n 0 (xs, false) = (ys, bb) by rw [HH.out, show k = n by omega, wholeFrom_end])
      go_wp2
      go_ret
      exact ⟨retB (by rw [HZ.out]), by rw [HZ.out]; exact hownr, hgr⟩
end Go.Proofs.YtcbiaeeifclieaaGreatDoor
