/- Texts of one claim, one behind the other. -/
import Derived.Laws.MakeOwn
import Derived.Deep.RegionLaw
import Derived.Deep.RegionHeld3
import Derived.Test.YtanngknhbgcobaaGreatDoorMgTb1
import Derived.Test.YtanngknhbgcobaaGreatDoorMgTb2
/- The reference's cells: New, Set, Text, At, walked. -/
namespace Go.Proofs.YtanngknhbgcobaaGreatDoor
open Go.RowKit

/-- Cells in memory: b the struct, gl its lists; each list in a block behind base, if anywhere. -/
structure RCAt (w : World) (base b gl n : Nat) (Q : List Value) (L : List (List Int)) (J : Value) : Prop where
  hb : w.heap[b]? = some (.cells #[.slice (some ⟨gl, 0, none⟩) n n, J] 88 (0, 0))
  hl : w.heap[gl]? = some (.cells Q.toArray 22 (0, 0))
  lenQ : Q.length = n
  len : L.length = n
  rows : ∀ (i : Nat) (v : Value) (l : List Int), Q[i]? = some v → L[i]? = some l → w.ownsRow base 3 1 v l.length (l.map (Value.int .i64))
  far : b < base ∧ gl < base ∧ b ≠ gl ∧ base ≤ w.heap.size
section
variable {w w' : World} {base b gl n : Nat} {Q : List Value} {L : List (List Int)} {J : Value}
theorem RCAt.keep {S : List Nat} (h : RCAt w base b gl n Q L J) (hk : Kept w w' S) (hs : ∀ x ∈ S, x < base ∧ x ≠ b ∧ x ≠ gl) : RCAt w' base b gl n Q L J :=
  ⟨hk.heap h.hb (fun m => (hs _ m).2.1 rfl), hk.heap h.hl (fun m => (hs _ m).2.2 rfl), h.lenQ, h.len, fun i v l h1 h2 => own_kept (h.rows i v l h1 h2) hk (fun x hx => (hs x hx).1), h.far.1, h.far.2.1, h.far.2.2.1, Nat.le_trans h.far.2.2.2 hk.size⟩
theorem RCAt.low (h : RCAt w base b gl n Q L J) (hb : Below w.heap.size w w') : RCAt w' base b gl n Q L J := h.keep (Kept.of_below hb []) (by simp)
theorem RCAt.row (h : RCAt w base b gl n Q L J) {i : Nat} {l : List Int} (hi : L[i]? = some l) : ∃ A k, w.cell? ⟨gl, i, none⟩ = some (.slice A l.length k) ∧ w.ownsRow base 3 1 (.slice A l.length k) l.length (l.map (Value.int .i64)) ∧ l.length ≤ k := by
  have hil := (List.getElem?_eq_some_iff.1 hi).1
  obtain ⟨v, hv⟩ : ∃ v, Q[i]? = some v := ⟨_, List.getElem?_eq_getElem (by rw [h.lenQ, ← h.len]; exact hil)⟩
  have ho := h.rows i v l hv hi
  obtain ⟨A, k, rfl, hk⟩ := own_form ho
  exact ⟨A, k, hp_cell h.hl (by rw [List.getElem?_toArray]; exact hv), ho, hk⟩
theorem RCAt.put (h : RCAt w base b gl n Q L J) {i : Nat} (hi : i < n) {v : Value} {l : List Int} (ho : w.ownsRow base 3 1 v l.length (l.map (Value.int .i64))) : RCAt (w.setCell ⟨gl, i, none⟩ v) base b gl n (Q.set i v) (L.set i l) J := by
  have hk : Kept w (w.setCell ⟨gl, i, none⟩ v) [gl] := (Kept.refl w _).set (.inl (by simp)) _ _
  refine ⟨hk.heap h.hb (by simpa using h.far.2.2.1), ?_, by simp [h.lenQ], by simp [h.len], fun j u m h1 h2 => ?_, h.far.1, h.far.2.1, h.far.2.2.1, Nat.le_trans h.far.2.2.2 hk.size⟩
  · rw [heap_setCell_same w gl i _ _ _ h.hl]
    congr 2
    rw [List.setIfInBounds_toArray]
  · refine own_kept ?_ hk (by simpa using h.far.2.1)
    by_cases e : j = i
    · subst e
      rw [List.getElem?_set_self (by rw [h.lenQ]; exact hi)] at h1
      rw [List.getElem?_set_self (by rw [h.len]; exact hi)] at h2
      obtain rfl := Option.some.inj h1
      obtain rfl := Option.some.inj h2
      exact ho
    · rw [List.getElem?_set_ne (fun h => e h.symm)] at h1 h2
      exact h.rows j u m h1 h2
end
theorem mk_lists (n : Nat) (hn : n ≤ 16777216) (w : World) : (Instr.makeSlice 85 (.int .i64 (n : Int)) (.int .i64 (n : Int))).run Tryz.prog w = .ok (.slice (some ⟨w.heap.size, 0, none⟩) n n) (w.alloc (.cells (List.replicate n (Value.slice none 0 0)).toArray 22)) := by
  have hin : (Tryz.prog.info? 22).map (fun i => (i.zero, i.size, i.bytes)) = some (some (.slice none 0 0), 1, 24) := by kernel_rfl
  obtain ⟨i, h1, h2, h3, h4⟩ := info_parts hin
  have h := run_make (P := Tryz.prog) w 85 22 i (.slice none 0 0) Tryz.underlying85 h1 h2 .i64 .i64 n n (by omega) (Int.le_refl _) (by rw [h4]; omega) (by omega)
  rw [h3] at h
  simp only [Int.toNat_natCast, Nat.mul_one] at h
  rw [h]
  refine congrArg (fun c => Result.ok _ (w.alloc (.cells c _))) ?_
  apply Array.toList_inj.1
  rw [show (Value.slice none 0 0).cells = #[.slice none 0 0] from rfl, toList_madeCells_one]
set_option maxRecDepth 100000 in
theorem rcNew_any (n : Nat) (hn : n ≤ 100000) (w : World) :
    Calls Tryz.prog 37 #[.int .i64 (n : Int)] w fun e w' => (∃ base b gl, e = .returned (.tuple #[.pointer (some ⟨b, 0, none⟩), .int .i64 0]) ∧ RCAt w' base b gl n (List.replicate n (.slice none 0 0)) (List.replicate n []) (.slice none 0 0) ∧ w.heap.size ≤ b ∧ w.heap.size ≤ gl) ∧ Below w.heap.size w w' := by
  have hmk := mk_lists n (by omega)
  have h1 := below_new w (.cells (List.replicate n (Value.slice none 0 0)).toArray 22)
  have h2 := below_new (w.alloc (.cells (List.replicate n (Value.slice none 0 0)).toArray 22)) (.cells #[.slice (some ⟨w.heap.size, 0, none⟩) n n, .slice none 0 0] 88)
  have g1 := heap_alloc_new w (.cells (List.replicate n (Value.slice none 0 0)).toArray 22)
  have g2 := heap_alloc_new (w.alloc (.cells (List.replicate n (Value.slice none 0 0)).toArray 22)) (.cells #[.slice (some ⟨w.heap.size, 0, none⟩) n n, .slice none 0 0] 88)
  rw [World.size_alloc] at g2
  have g3 := (h2.block _ (hp_lt g1)).trans g1
  have hs : w.heap.size + 2 ≤ ((w.alloc (.cells (List.replicate n (Value.slice none 0 0)).toArray 22)).alloc (.cells #[.slice (some ⟨w.heap.size, 0, none⟩) n n, .slice none 0 0] 88)).heap.size := by
    rw [World.size_alloc, World.size_alloc]; omega
  have HB := Lib.hid (below_self h1 h2)
  have hrows : ∀ (W : World) (i : Nat) (v : Value) (l : List Int), (List.replicate n (Value.slice none 0 0))[i]? = some v → (List.replicate n ([] : List Int))[i]? = some l → W.ownsRow (w.heap.size + 2) 3 1 v l.length (l.map (Value.int .i64)) := fun W i v l hv hl => by
    rw [List.getElem?_replicate] at hv hl
    by_cases hi : i < n
    · rw [if_pos hi] at hv hl
      obtain rfl := Option.some.inj hv
      obtain rfl := Option.some.inj hl
      exact World.ownsRow_nil _ _ _ _
    · rw [if_neg hi] at hv
      cases hv
  have HR := Lib.hid (RCAt.mk (base := w.heap.size + 2) (L := List.replicate n []) g2 g3 (by simp) (by simp) (hrows _) ⟨by omega, by omega, by omega, hs⟩)
  have k0 : (0 : Int) ≤ (n : Int) := by omega
  have k1 : (n : Int) ≤ 16777216 := by omega
  clear h1 h2 g1 g2 g3 hs hrows
  go_enter Tryz.func37, Tryz.ntmps37
  go_wp2
  refine bodyPost_ret (v := .tuple #[.pointer (some ⟨w.heap.size + 1, 0, none⟩), .int .i64 0]) (by simp [results, go_sem]) rfl ?_
  exact ⟨⟨_, _, _, rfl, HR.out, by omega, Nat.le_refl _⟩, HB.out⟩
set_option maxRecDepth 100000 in
set_option maxHeartbeats 2000000 in
theorem rcSet_any (base b gl n i : Nat) (Q : List Value) (L : List (List Int)) (J : Value) (A : Option Addr) (q c : Nat) (codes : List Int) (w : World) (hC : RCAt w base b gl n Q L J) (hi : i < n) (hr : Rd w 1 A q (codes.map (Value.int .i64))) (hq : q ≤ 100000) (hn : n ≤ 100000) :
    Calls Tryz.prog 38 #[.pointer (some ⟨b, 0, none⟩), .int .i64 (i : Int), .slice A q c] w fun e w' => e = .returned (.int .i64 0) ∧ (∃ v, RCAt w' base b gl n (Q.set i v) (L.set i codes) J) ∧ Kept w w' [gl] := by
  have hlen : codes.length = q := by have := hr.1; rw [List.length_map] at this; omega
  have c0 := hp_cell (j := 0) hC.hb rfl
  have HC := Lib.hid hC
  have HR := Lib.hid hr
  have HL := Lib.hid hlen
  have i0 : (0 : Int) ≤ (i : Int) := by omega
  have i1 : (i : Int) < (n : Int) := by omega
  obtain ⟨l0, hl0⟩ : ∃ l, L[i]? = some l := ⟨_, List.getElem?_eq_getElem (by rw [hC.len]; exact hi)⟩
  obtain ⟨A0, k0, hcell, _, _⟩ := hC.row hl0
  have hfz := hp_froz hC.hl i
  clear hC hr hlen hl0
  go_enter Tryz.func38, Tryz.ntmps38
  go_wp2_with fail
  have hfar := HC.out.far
  go_region_held3 (fun w' => w'.cell? ⟨b, 0, none⟩ = some (.slice (some ⟨gl, 0, none⟩) n n))
    (first
      | exact c0
      | exact y0
      | exact ((Kept.refl w5 [gl]).set (.inl (List.mem_singleton_self _)) i _).cell y0 (by simpa using hfar.2.2.1)
      | fail)
    (first
      | (refine step_appR rfl _ _ _ rfl cloneInt_slice (by decide) (.slice none 0 0) 0 [] rfl (World.ownsRow_nil w.drew w.heap.size _ _) _ q _ (codes.map (Value.int .i64)) rfl (HR.out.below (Below.refl _ _).drew) (oneInts _ _) (by omega) (by unfold maxLen; omega) (Nat.le_refl _) _ rfl ?_; intro v5 w5 hown5 hg5 hat5; simp only [Nat.zero_add, List.nil_append] at hown5; have hb5 : Below w.heap.size w w5 := (Below.refl _ _).drew.grown hg5 (Nat.le_refl _) (fun k h => by cases h); clear hat5 hg5; have hf := own_form hown5; obtain ⟨A5, k5, rfl, hk5⟩ := hf; have y0 := cell_below hb5 c0; have y1 := cell_below hb5 hcell; have y2 := hp_froz (HC.out.low hb5).hl i; have HO5 := Lib.hid hown5; have HB5 := Lib.hid hb5; clear hown5 hk5 hb5)
      | fail)
  all_goals
    have HP := Lib.hid ((HC.out.low HB5.out).put (l := codes) hi (by rw [HL.out]; exact own_base HO5.out hfar.2.2.2))
    have HK := Lib.hid ((Kept.of_below HB5.out [gl]).set (.inl (List.mem_singleton_self _)) i (.slice A5 q k5))
    clear y0 y1 y2 c0 hcell hfz
    go_wp2_with fail
    go_ret
    exact ⟨rfl, ⟨_, HP.out⟩, HK.out⟩
end Go.Proofs.YtanngknhbgcobaaGreatDoor
/- The reference's cells: Text, At, walked. -/
namespace Go.Proofs.YtanngknhbgcobaaGreatDoor
open Go.RowKit

theorem flat_take {L : List (List Int)} {k : Nat} {l : List Int} (h : L[k]? = some l) : (L.take (k + 1)).flatten = (L.take k).flatten ++ l := by
  rw [List.take_add_one, h]; simp
theorem flat_le (L : List (List Int)) (k : Nat) : ((L.take k).flatten).length ≤ (L.flatten).length := by
  conv => rhs; rw [← List.take_append_drop k L, List.flatten_append, List.length_append]
  omega
set_option maxRecDepth 100000 in
set_option maxHeartbeats 2000000 in
theorem rcText_any (base b gl n : Nat) (Q : List Value) (L : List (List Int)) (J : Value) (w : World) (hC : RCAt w base b gl n Q L J) (hn : n ≤ 100000) (hf : (L.flatten).length ≤ 100000) :
    Calls Tryz.prog 18 #[.pointer (some ⟨b, 0, none⟩)] w fun e w' => (∃ v, e = .returned v ∧ w'.ownsRow w.heap.size 3 1 v (L.flatten).length ((L.flatten).map (Value.int .i64))) ∧ Below w.heap.size w w' := by
  have HC := Lib.hid hC
  have HL := Lib.hid hC.len
  clear hC
  go_enter Tryz.func18, Tryz.ntmps18
  go_wp2_with fail
  go_loopw [3, 4] (fun v i ws => ∃ k : Nat, k ≤ n ∧ i = .int .i64 (k : Int) ∧ ws.ownsRow w.heap.size 3 1 v ((L.take k).flatten).length (((L.take k).flatten).map (Value.int .i64)) ∧ Below w.heap.size w ws) (fun _ i _ => n - (intOf i).toNat)
  case atStart => exact ⟨0, Nat.zero_le _, rfl, World.ownsRow_nil _ _ _ _, Below.refl _ _⟩
  case round =>
    obtain ⟨k, hk, rfl, hown, hb⟩ := hrel
    obtain ⟨V, cv, rfl, hcv⟩ := own_form hown
    have HO := Lib.hid hown
    have HB := Lib.hid hb
    have hC1 := HC.out.low hb
    have c0 := hp_cell (j := 0) hC1.hb rfl
    have hle := flat_le L k
    have k0 : (0 : Int) ≤ (k : Int) := by omega
    by_cases hlt : k < n
    · obtain ⟨l, hlk⟩ : ∃ l, L[k]? = some l := ⟨_, List.getElem?_eq_getElem (by rw [HL.out]; exact hlt)⟩
      obtain ⟨A, kc, hcell, hrow, hkc⟩ := hC1.row hlk
      have hlt' : (k : Int) < (n : Int) := by omega
      have HS := Lib.hid (flat_take hlk)
      have hle2 := flat_le L (k + 1)
      rw [HS.out, List.length_append] at hle2
      have HR := Lib.hid (Rd.of_own hrow)
      have hz := hb.size
      clear hlk hrow hC1 hown hb
      go_wp2_with (at_builtin; refine wpList_appR rfl _ _ _ rfl cloneInt_slice (by decide) _ ((L.take k).flatten).length _ rfl HO.out A l.length kc (l.map (Value.int .i64)) rfl HR.out (oneInts _ _) (by omega) (by unfold maxLen; omega) hz ?_; intro v1 w5 hown1 hg1 hat1)
      have HB5 := Lib.hid (below_app HB.out hg1 HO.out hz)
      have HO5 := Lib.hid hown1
      clear hg1 hat1 hown1 c0 hcell
      go_roundw
      case rel =>
        refine ⟨k + 1, by omega, by go_num, ?_, HB5.out⟩
        rw [HS.out, List.length_append, List.map_append]
        exact HO5.out
      case measure => simp [intOf]; omega
    · have HE := Lib.hid (show L.take k = L from List.take_of_length_le (by rw [HL.out]; omega))
      clear hown hb hC1
      go_wp2_with fail
      go_ret
      have := HO.out
      rw [HE.out] at this
      simp only [HE.out]
      exact ⟨⟨_, rfl, this⟩, HB.out⟩
set_option maxRecDepth 100000 in
theorem rcAt_any (base b gl n i : Nat) (Q : List Value) (L : List (List Int)) (J : Value) (l : List Int) (w : World) (hC : RCAt w base b gl n Q L J) (hi : L[i]? = some l) :
    Calls Tryz.prog 21 #[.pointer (some ⟨b, 0, none⟩), .int .i64 (i : Int)] w fun e w' => (∃ A k, e = .returned (.slice A l.length k) ∧ Rd w' 1 A l.length (l.map (Value.int .i64))) ∧ Below w.heap.size w w' := by
  have hil := (List.getElem?_eq_some_iff.1 hi).1
  rw [hC.len] at hil
  have c0 := hp_cell (j := 0) hC.hb rfl
  obtain ⟨A, k, hcell, hrow, _⟩ := hC.row hi
  have HR := Lib.hid (Rd.of_own hrow)
  have k0 : (0 : Int) ≤ (i : Int) := by omega
  have k1 : (i : Int) < (n : Int) := by omega
  clear hC hi hrow
  go_enter Tryz.func21, Tryz.ntmps21
  go_wp2
  go_ret
  exact ⟨⟨A, k, rfl, HR.out⟩, Below.refl _ _⟩
end Go.Proofs.YtanngknhbgcobaaGreatDoor
