/- slices.Insert of one number, slices.Delete of one place, at []int. -/
import Derived.Test.YtcjcimdembkbkaaLayIns
import Derived.Deep.MidRow
import Derived.Test.YtcjcimdembkbkaaHp
import Derived.Test.YtcjcimdembkbkaaMem3
import Derived.Test.YtcjcimdembkbkaaJnK
namespace Go.Proofs.Ytcjcimdembkbkaa
open Go.RowKit

theorem below_setCells {B : Nat} {a : World} (b : Nat) (hB : B ≤ b) : ∀ (vs : List Value) (o : Nat) (w : World), Below B a w → Below B a (w.setCells b o vs)
  | [], _, _, h => h
  | v :: r, o, w, h => below_setCells b hB r (o + 1) _ (h.setCell (p := ⟨b, o, none⟩) hB v)
theorem size_setCells (b : Nat) (vs : List Value) (o : Nat) (w : World) : w.heap.size ≤ (w.setCells b o vs).heap.size := (below_setCells (B := 0) (a := w) b (Nat.zero_le _) vs o w ⟨rfl, rfl, rfl, Nat.le_refl _, fun _ _ => rfl⟩).size
theorem addZ (g j : Nat) : (⟨g, 0, none⟩ : Addr).add j = ⟨g, j, none⟩ := addNew g j
/-- The row when the tail has been moved up and the new cell put in. -/
theorem row_shift {w : World} {g n k : Nat} {cs : List Value} {x : Value} (hk : k ≤ n) (hl : cs.length = n) (hg : g < w.heap.size) (hc : ∀ j v, cs[j]? = some v → w.cell? ⟨g, j, none⟩ = some v) (hsp : ∀ j, j < n + 1 → (w.cell? ⟨g, j, none⟩).isSome = true) :
    Rd ((w.setCells g (k + 1) (cs.drop k)).setCells g k [x]) 1 (some ⟨g, 0, none⟩) (n + 1) (cs.take k ++ x :: cs.drop k) := by
  have hsp2 : ∀ j, j < n + 1 → ((w.setCells g (k + 1) (cs.drop k)).cell? ⟨g, j, none⟩).isSome = true := fun j hj => World.isSome_setCells g _ _ _ _ (hsp j hj)
  refine ⟨by simp; omega, fun _ => ⟨_, rfl, ?_, fun j u hj => ?_⟩⟩
  · exact Nat.lt_of_lt_of_le hg (Nat.le_trans (size_setCells _ _ _ _) (size_setCells _ _ _ _))
  · rw [addZ]
    have hjl : j < n + 1 := by
      have := (List.getElem?_eq_some_iff.1 hj).1
      simp at this; omega
    rcases Nat.lt_trichotomy j k with h | h | h
    · rw [List.getElem?_append_left (by rw [List.length_take]; omega), List.getElem?_take_of_lt h] at hj
      rw [World.cell?_setCells_out g _ _ _ _ (fun _ _ => .inl h), World.cell?_setCells_out g _ _ _ _ (fun _ _ => .inl (show j < k + 1 by omega))]
      exact hc j u hj
    · subst h
      rw [List.getElem?_append_right (by rw [List.length_take]; omega), List.length_take, show j - min j cs.length = 0 by omega, List.getElem?_cons_zero] at hj
      have := World.cell?_setCells_in g [x] j (w.setCells g (j + 1) (cs.drop j)) (fun i hi => by
        obtain rfl : i = 0 := by simpa using hi
        exact hsp2 j hjl) 0 (by simp)
      simp only [Nat.add_zero, List.getElem_cons_zero] at this
      rw [this, ← hj]
    · rw [List.getElem?_append_right (by rw [List.length_take]; omega), List.length_take, show j - min k cs.length = (j - k - 1) + 1 by omega, List.getElem?_cons_succ] at hj
      have hjd := (List.getElem?_eq_some_iff.1 hj).1
      rw [World.cell?_setCells_out g _ _ _ _ (fun _ _ => .inr (show k + [x].length ≤ j by simp; omega))]
      have := World.cell?_setCells_in g (cs.drop k) (k + 1) w (fun i hi => hsp (k + 1 + i) (by rw [List.length_drop] at hi; omega)) (j - k - 1) hjd
      rw [show k + 1 + (j - k - 1) = j by omega] at this
      rw [this]
      rw [List.getElem?_eq_getElem hjd] at hj
      exact hj
theorem row_grow {w : World} {g n k : Nat} {cs : List Value} {x : Value} (hk : k ≤ n) (hl : cs.length = n) (hg : g < w.heap.size) (hc : ∀ j v, j < k → cs[j]? = some v → w.cell? ⟨g, j, none⟩ = some v) (hsp : ∀ j, j < n + 1 → (w.cell? ⟨g, j, none⟩).isSome = true) :
    Rd ((w.setCells g k [x]).drew.setCells g (k + 1) (cs.drop k)) 1 (some ⟨g, 0, none⟩) (n + 1) (cs.take k ++ x :: cs.drop k) := by
  have hsp2 : ∀ j, j < n + 1 → ((w.setCells g k [x]).drew.cell? ⟨g, j, none⟩).isSome = true := fun j hj => World.isSome_setCells g _ _ _ _ (hsp j hj)
  refine ⟨by simp; omega, fun _ => ⟨_, rfl, ?_, fun j u hj => ?_⟩⟩
  · exact Nat.lt_of_lt_of_le hg (Nat.le_trans (size_setCells _ _ _ _) (size_setCells g (cs.drop k) (k + 1) (w.setCells g k [x]).drew))
  · rw [addZ]
    have hjl : j < n + 1 := by
      have := (List.getElem?_eq_some_iff.1 hj).1
      simp at this; omega
    rcases Nat.lt_trichotomy j k with h | h | h
    · rw [List.getElem?_append_left (by rw [List.length_take]; omega), List.getElem?_take_of_lt h] at hj
      rw [World.cell?_setCells_out g _ _ _ _ (fun _ _ => .inl (show j < k + 1 by omega))]
      show (w.setCells g k [x]).cell? ⟨g, j, none⟩ = some u
      rw [World.cell?_setCells_out g _ _ _ _ (fun _ _ => .inl h)]
      exact hc j u h hj
    · subst h
      rw [List.getElem?_append_right (by rw [List.length_take]; omega), List.length_take, show j - min j cs.length = 0 by omega, List.getElem?_cons_zero] at hj
      rw [World.cell?_setCells_out g _ _ _ _ (fun _ _ => .inl (show j < j + 1 by omega))]
      show (w.setCells g j [x]).cell? ⟨g, j, none⟩ = some u
      have := World.cell?_setCells_in g [x] j w (fun i hi => by
        obtain rfl : i = 0 := by simpa using hi
        exact hsp j hjl) 0 (by simp)
      simp only [Nat.add_zero, List.getElem_cons_zero] at this
      rw [this, ← hj]
    · rw [List.getElem?_append_right (by rw [List.length_take]; omega), List.length_take, show j - min k cs.length = (j - k - 1) + 1 by omega, List.getElem?_cons_succ] at hj
      have hjd := (List.getElem?_eq_some_iff.1 hj).1
      have := World.cell?_setCells_in g (cs.drop k) (k + 1) (w.setCells g k [x]).drew (fun i hi => hsp2 (k + 1 + i) (by rw [List.length_drop] at hi; omega)) (j - k - 1) hjd
      rw [show k + 1 + (j - k - 1) = j by omega] at this
      rw [this]
      rw [List.getElem?_eq_getElem hjd] at hj
      exact hj
theorem intSliceX : SliceOf Try.prog 22 3 1 8 := .mk_ (z := .int .i64 0) Try.underlying22 (by kernel_rfl) rfl
def VInt (ts : List Int) : List Value := ts.map (Value.int .i64)
theorem jIns_map (ts : List Int) (k : Nat) : VInt (jIns ts k) = (VInt ts).take k ++ .int .i64 1 :: (VInt ts).drop k := by simp [VInt, jIns, List.map_take, List.map_drop]
set_option maxRecDepth 100000 in
set_option maxHeartbeats 4000000 in
theorem insert_any (base vb n k vc : Nat) (v : Value) (ts : List Int) (hk : k ≤ n) (hn : n ≤ 1000) (w : World) (hown : w.ownsRow base 3 1 v n (VInt ts)) (hbase : base ≤ w.heap.size) (hvb : w.heap[vb]? = some (.cells #[.int .i64 1] 3 (0, 0))) (hne : v.ownBlock ≠ some vb) :
    Calls Try.prog 24 #[v, .int .i64 (k : Int), .slice (some ⟨vb, 0, none⟩) 1 vc] w fun e w' => (∃ A c, e = .returned (.slice A (n + 1) c) ∧ n + 1 ≤ c ∧ Rd w' 1 A (n + 1) (VInt (jIns ts k))) ∧ Below base w w' := by
  have htl : ts.length = n := by have := hown.1; simp [VInt] at this; omega
  by_cases hkn : k = n
  · subst hkn
    have hnews : ∀ j u, [Value.int .i64 1][j]? = some u → w.cell? ((⟨vb, 0, none⟩ : Addr).add j) = some u := fun j u hj => by
      rw [addZ]
      exact hp_cell hvb (by simpa using hj)
    have HN := Lib.hid hnews
    have HO := Lib.hid hown
    have HI := Lib.hid (show VInt ts ++ [.int .i64 1] = VInt (jIns ts k) by
      rw [jIns_map, List.take_of_length_le (by simp [VInt]; omega), List.drop_eq_nil_of_le (by simp [VInt]; omega)])
    obtain ⟨A, c, rfl, hc⟩ := own_form hown
    have hcm : c ≤ maxLen := by
      rcases hown.2 with ⟨h1, _⟩ | ⟨g, cap, cur, h1, _, _, _, h5, _⟩
      · injection h1 with _ _ h3
        omega
      · injection h1 with _ _ h3
        omega
    unfold maxLen at hcm
    clear hown hnews hvb hne htl
    go_enter Try.func24, Try.ntmps24
    go_wp2_with (at_builtin; refine wpList_app rfl _ _ _ rfl intSliceX (by decide) _ k _ rfl HO.out ⟨vb, 0, none⟩ 1 vc [.int .i64 1] rfl rfl HN.out (oneInt _ _) (by omega) (by unfold maxLen; omega) hbase ?_; intro v1 w1 hown1 hg1 hat1; obtain ⟨A1, c1, rfl, hc1⟩ := own_form hown1)
    all_goals
      rw [HI.out] at hown1
      go_ret
      exact ⟨⟨_, _, rfl, hc1, Rd.of_own hown1⟩, below_app (Below.refl base w) hg1 HO.out hbase⟩
  · have hlt : k < n := by omega
    obtain ⟨g, cap, cur, rfl, hbg, hhg, hnc, hcm, hcs, htk⟩ : ∃ g cap cur, v = .slice (some ⟨g, 0, none⟩) n cap ∧ base ≤ g ∧ w.heap[g]? = some (.cells cur 3 (0, 0)) ∧ n ≤ cap ∧ cap ≤ maxLen ∧ cur.size = cap * 1 ∧ cur.toList.take (n * 1) = VInt ts := by
      rcases hown.2 with ⟨_, h⟩ | h
      · omega
      · exact h
    unfold maxLen at hcm
    rw [Nat.mul_one] at hcs htk
    have hgv : vb ≠ g := fun e => hne (by rw [e]; rfl)
    have hcells : ∀ j u, (VInt ts)[j]? = some u → w.cell? ⟨g, j, none⟩ = some u := fun j u hj => hp_cell hhg (by
      have hjn : j < n := by have := (List.getElem?_eq_some_iff.1 hj).1; simp [VInt] at this; omega
      rw [← htk, List.getElem?_take_of_lt hjn] at hj
      simpa using hj)
    have hsome : ∀ j, j < cap → (w.cell? ⟨g, j, none⟩).isSome = true := fun j hj => by
      have := hp_cell hhg (j := j) (v := cur[j]'(by omega)) (by rw [Array.getElem?_eq_getElem (by omega)])
      rw [this]; rfl
    have hcl : (VInt ts).length = n := by simp [VInt, htl]
    have hone : ∀ u ∈ VInt ts, u.oneCell' = true := oneInts _ _
    have hvs : ∀ j u, [Value.int .i64 1][j]? = some u → w.cell? ⟨vb, 0 + j, none⟩ = some u := fun j u hj => by
      rw [Nat.zero_add]
      exact hp_cell hvb (by simpa using hj)
    by_cases hroom : n + 1 ≤ cap
    · refine (Any2.slices_Insert_int_shift ins_lays g 0 n cap k vb 0 1 vc (VInt ts) [.int .i64 1] w hlt (by omega) hroom (by omega) hgv hcl rfl
        (fun j u hj => by rw [Nat.zero_add]; exact hcells j u hj) (fun j hj => by rw [Nat.zero_add]; exact hsome j (by omega)) (fun j _ => hp_froz hhg _) hvs hone (oneInt _ _) 3 3 1 cap
        (by unfold World.shape?; rw [hvb]; rfl) (by unfold World.shape?; rw [hhg]; simp [hcs]) (by omega) (hp_froz hvb 0) (hp_froz hvb 1)).mono ?_
      rintro e w' ⟨rfl, rfl⟩
      have hrow := row_shift (w := w.drew) (g := g) (x := .int .i64 1) hk hcl (hp_lt hhg) hcells (fun j hj => hsome j (by omega))
      rw [← jIns_map] at hrow
      refine ⟨⟨_, _, rfl, hroom, ?_⟩, ?_⟩
      · simpa using hrow
      · exact below_setCells g hbg _ _ _ (below_setCells g hbg _ _ _ (Below.refl base w).drew)
    · refine (Any2.slices_Insert_int_grow ins_lays g 0 n cap k vb 0 1 vc (VInt ts) [.int .i64 1] w hlt (by omega) hnc (by omega) (by omega) hcl rfl
        (fun j u hj => by rw [Nat.zero_add]; exact hcells j u hj) hvs hone (oneInt _ _)).mono ?_
      rintro e w' ⟨rfl, rfl⟩
      have hz : (Value.int .i64 0).cells = #[.int .i64 0] := rfl
      have hge := grownCap_ge w (n + 1) cap 3
      obtain ⟨G, hG⟩ : ∃ G, grownCap w (n + 1) cap 3 = G := ⟨_, rfl⟩
      rw [hG] at hge
      have hG' : grownCap w (n + 1) cap (ins_lays_ren.t 3) = G := hG
      rw [hG', hz]
      have hrow := row_grow (w := (w.alloc (.cells (((VInt ts).take k).toArray ++ Builtin.zeroCells #[.int .i64 0] (n + 1 - k) ++ Builtin.zeroCells #[.int .i64 0] (G - (n + 1))) 3)).drew) (g := w.heap.size) (x := .int .i64 1) hk hcl (by simp) ?_ ?_
      · rw [← jIns_map] at hrow
        refine ⟨⟨_, _, rfl, hge, hrow⟩, ?_⟩
        exact below_setCells w.heap.size hbase _ _ _ (below_setCells w.heap.size hbase _ _ _ ((Below.refl base w).alloc hbase _).drew).drew
      · intro j u hj hu
        show (w.alloc _).cell? ⟨w.heap.size, j, none⟩ = some u
        refine hp_cell (heap_alloc_new _ _) ?_
        rw [Array.getElem?_append_left (by simp [size_zeroCells, VInt]; omega), Array.getElem?_append_left (by simp [VInt]; omega)]
        rw [List.getElem?_toArray, List.getElem?_take_of_lt hj]
        exact hu
      · intro j hj
        show ((w.alloc _).cell? ⟨w.heap.size, j, none⟩).isSome = true
        have hsz : j < (((VInt ts).take k).toArray ++ Builtin.zeroCells #[.int .i64 0] (n + 1 - k) ++ Builtin.zeroCells #[.int .i64 0] (G - (n + 1))).size := by simp [size_zeroCells, VInt]; omega
        rw [hp_cell (heap_alloc_new _ _) (Array.getElem?_eq_getElem hsz)]
        rfl
end Go.Proofs.Ytcjcimdembkbkaa
