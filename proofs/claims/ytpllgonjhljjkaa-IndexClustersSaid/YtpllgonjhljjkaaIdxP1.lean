/- The project's index: long, newRuler and New. -/
import Derived.Test.YtpllgonjhljjkaaIdxM
import Derived.Test.YtpllgonjhljjkaaMem2
namespace Go.Proofs.Ytpllgonjhljjkaa
open Go.RowKit

set_option maxRecDepth 100000 in
set_option maxHeartbeats 1000000 in
theorem prLong_any (A : Option Addr) (n c : Nat) (l : List Int) (w : World) (hr : Rd w 1 A n (l.map (Value.int .i64))) (ho : Ones l) (hn : n ≤ maxLen) :
    Calls Try.prog 44 #[.slice A n c] w fun e w' => e = .returned (.bool (longB 16777216 l)) ∧ w = w' := by
  have hlen : l.length = n := by simpa using hr.len1
  have HL := Lib.hid hlen
  have HO := Lib.hid ho
  clear hlen ho
  unfold maxLen at hn
  go_enter Try.func44, Try.ntmps44
  go_wp2
  go_loop [3, 8] (fun r i => ∃ (k : Nat) (x : Int), k ≤ n ∧ i = .int .i64 k ∧ r = .int .i64 x ∧ 0 ≤ x ∧ x ≤ 16777216 ∧ longB 16777216 l = longB x (l.drop k)) (fun _ i => n - (intOf i).toNat)
  case atStart => exact ⟨0, 16777216, Nat.zero_le _, rfl, rfl, by omega, by omega, rfl⟩
  case round =>
    obtain ⟨k, x, hk, rfl, rfl, h0, h1, hp⟩ := hrel
    have HP := Lib.hid hp
    clear hp
    by_cases hlt : k < n
    · obtain ⟨s, hsk⟩ : ∃ s, l[k]? = some s := ⟨_, List.getElem?_eq_getElem (by rw [HL.out]; exact hlt)⟩
      obtain ⟨ad, rfl, _, hc⟩ := hr.at_ hlt
      have cs : w.cell? (ad.add k) = some (.int .i64 s) := hc _ (by rw [List.getElem?_map, hsk]; rfl)
      have hs1 := HO.out s (List.mem_of_getElem? hsk)
      have HD := Lib.hid (longB_step hsk x)
      clear hsk hc
      by_cases hgt : x < s
      · have HF := Lib.hid (show longB 16777216 l = true by rw [HP.out, HD.out, if_pos hgt])
        go_wp2
        go_ret
        exact ⟨retB (by simp [HF.out]), rfl⟩
      · have HF := Lib.hid (show longB 16777216 l = longB (x - s) (l.drop (k + 1)) by rw [HP.out, HD.out, if_neg hgt])
        go_wp2
        go_round
        case rel => exact ⟨k + 1, x - s, by omega, by go_num, rfl, by omega, by omega, HF.out⟩
        case measure => simp [intOf]; omega
    · have HF := Lib.hid (show longB 16777216 l = false by rw [HP.out, List.drop_eq_nil_of_le (by rw [HL.out]; omega)]; rfl)
      go_wp2
      go_ret
      exact ⟨retB (by simp [HF.out]), rfl⟩

theorem intSlice : SliceOf Try.prog 22 3 1 8 := .mk_ (z := .int .i64 0) Try.underlying22 (by kernel_rfl) rfl
theorem infoInt : (Try.prog.info? 3).map (fun i => (i.zero, i.size, i.bytes)) = some (some (.int .i64 0), 1, 8) := by kernel_rfl
theorem cell_one_new (w : World) (v : Value) (t : TypeId) : ∀ j u, [v][j]? = some u → (w.alloc (.cells #[v] t)).cell? ((⟨w.heap.size, 0, none⟩ : Addr).add j) = some u := cells_new w [v] t

/-- From ⟨g, 0⟩ on lie the strokes of these sizes. -/
def Strokes (w : World) (g : Nat) (l : List Int) : Prop := ∀ (j : Nat) (u : Value), ((strk 0 l).map (Value.int .i64))[j]? = some u → w.cell? ⟨g, j, none⟩ = some u
/-- At address ⟨b, 0⟩ lies a ruler with the strokes of these sizes. -/
def IdxAt (w : World) (b : Nat) (l : List Int) : Prop :=
  ∃ g c, w.cell? ⟨b, 0, none⟩ = some (.slice (some ⟨g, 0, none⟩) (l.length + 1) c) ∧ l.length + 1 ≤ c ∧ g < w.heap.size ∧ Strokes w g l
theorem IdxAt.below {w w' : World} {b : Nat} {l : List Int} (h : IdxAt w b l) (hb : Below w.heap.size w w') : IdxAt w' b l := by
  obtain ⟨g, c, h1, h2, h3, h4⟩ := h
  exact ⟨g, c, cell_below hb h1, h2, Nat.lt_of_lt_of_le h3 hb.size, fun j u hj => cell_below hb (h4 j u hj)⟩
theorem IdxAt.drewN {w : World} {b : Nat} {l : List Int} (h : IdxAt w b l) (n : Nat) : IdxAt (w.drewN n) b l := h
theorem IdxAt.stroke {w : World} {b : Nat} {l : List Int} (h : IdxAt w b l) : ∃ g c, w.cell? ⟨b, 0, none⟩ = some (.slice (some ⟨g, 0, none⟩) (l.length + 1) c) ∧ l.length + 1 ≤ c ∧ ∀ k, k ≤ l.length → w.cell? ⟨g, k, none⟩ = some (.int .i64 (l.take k).sum) := by
  obtain ⟨g, c, h1, h2, h3, h4⟩ := h
  refine ⟨g, c, h1, h2, fun k hk => h4 k _ ?_⟩
  rw [List.getElem?_map, strk_at 0 l k hk]
  simp

set_option maxRecDepth 100000 in
set_option maxHeartbeats 2000000 in
theorem prRuler_any (A : Option Addr) (n c : Nat) (l : List Int) (w : World) (hr : Rd w 1 A n (l.map (Value.int .i64))) (hg : Good l) :
    Calls Try.prog 45 #[.slice A n c] w fun e w' => ∃ g cc, e = .returned (.agg #[.slice (some ⟨g, 0, none⟩) (l.length + 1) cc]) ∧ l.length + 1 ≤ cc ∧ g < w'.heap.size ∧ w.heap.size ≤ g ∧ Strokes w' g l ∧ Below w.heap.size w w' := by
  have hlen : l.length = n := by simpa using hr.len1
  have hn : n ≤ 16777216 := by have := good_len hg; omega
  have HL := Lib.hid hlen
  have HG := Lib.hid hg
  clear hlen hg
  go_enter Try.func45, Try.ntmps45
  go_wp2_with (refine wpList_mkN rfl _ _ _ rfl Try.underlying22 infoInt rfl (base := w.heap.size + 1) (kl := .i64) (kc := .i64) 1 (n + 1) 1 (n + 1) rfl rfl rfl rfl (by omega) (by omega) (by unfold maxLen; omega) (by simp) ?_; intro w1 hown hg1)
  have hb1 : Below w.heap.size w w1 := (below_new w _).grown hg1 (by simp) (fun k hk => by cases hk)
  have HB : Hid (w1.heap[w.heap.size]? = some (.cells #[.slice none 0 0] 79 (0, 0))) := Lib.hid ((hg1.block _ (by simp) (by simp)).trans (heap_alloc_new w _))
  have hsz : w.heap.size + 1 ≤ w1.heap.size := by have := hg1.size; simpa using this
  simp only [World.size_alloc] at hown ⊢
  clear hg1
  go_loopw [3, 12] (fun v i wr => ∃ (k g cc : Nat), k ≤ n ∧ i = .int .i64 k ∧ v = .slice (some ⟨g, 0, none⟩) (k + 1) cc ∧ wr.ownsRow (w.heap.size + 1) 3 1 v (k + 1) ((strk 0 (l.take k)).map (Value.int .i64)) ∧ wr.heap[w.heap.size]? = some (.cells #[.slice none 0 0] 79 (0, 0)) ∧ w.heap.size + 1 ≤ wr.heap.size ∧ Below w.heap.size w wr) (fun _ i _ => n - (intOf i).toNat)
  case atStart => exact ⟨0, _, _, Nat.zero_le _, rfl, rfl, hown, HB.out, hsz, hb1⟩
  case round =>
    obtain ⟨k, g, cc, hk, rfl, rfl, hown, hblk, hle, hbr⟩ := hrel
    have HBK := Lib.hid hblk
    clear hblk
    by_cases hlt : k < n
    · obtain ⟨s, hsk⟩ : ∃ s, l[k]? = some s := ⟨_, List.getElem?_eq_getElem (by rw [HL.out]; exact hlt)⟩
      obtain ⟨ad, rfl, _, hc⟩ := (hr.below hbr).at_ hlt
      have cs : wr.cell? (ad.add k) = some (.int .i64 s) := hc _ (by rw [List.getElem?_map, hsk]; rfl)
      have ct : wr.cell? ⟨g, k, none⟩ = some (.int .i64 (l.take k).sum) := by
        have := hown.cells (g := g) rfl k (.int .i64 (l.take k).sum) (by rw [List.getElem?_map, strk_at 0 _ k (by rw [List.length_take, HL.out]; omega)]; simp [List.take_take])
        rwa [addNew] at this
      obtain ⟨hu1, hu2⟩ := take_sum_le HG.out.1 k
      have hu3 := HG.out.2
      have hs1 := HG.out.1 s (List.mem_of_getElem? hsk)
      have hu4 : (l.take k).sum + s ≤ l.sum := by rw [← take_sum_succ hsk]; exact (take_sum_le HG.out.1 _).2
      have HT := Lib.hid (show (strk 0 (l.take (k + 1))).map (Value.int .i64) = (strk 0 (l.take k)).map (Value.int .i64) ++ [.int .i64 ((l.take k).sum + s)] by rw [List.take_add_one, hsk]; simp [strk_snoc])
      clear hsk hc
      generalize (l.take k).sum = t at *
      go_wp2_with (at_builtin; refine wpList_app rfl _ _ _ rfl intSlice (by decide) _ (k + 1) _ rfl (hown.alloc _) ⟨wr.heap.size, 0, none⟩ 1 1 [.int .i64 (t + s)] rfl rfl (cell_one_new _ _ _) (oneInt _ _) (by omega) (by unfold maxLen; omega) (by simp; omega) ?_; intro v1 w2 hown2 hg2 hat2)
      have hgr := below_app (hbr.alloc hbr.size _) hg2 (own_base (hown.alloc _) (Nat.le_succ _)) (by simp; omega)
      have HB2 := Lib.hid (blk_grown (blk_alloc HBK.out (.cells #[.int .i64 (t + s)] 3)) hg2 (by
        intro e
        have := (hown.lt _ e).1
        omega))
      have hl2 : w.heap.size + 1 ≤ w2.heap.size := by have := hg2.size; simp at this; omega
      obtain ⟨g2, c2, rfl, _⟩ := own_at hown2 (by omega)
      go_roundw
      case rel => exact ⟨k + 1, g2, c2, by omega, by go_num, rfl, by rw [HT.out]; exact hown2, HB2.out, hl2, hgr⟩
      case measure => simp [intOf]; omega
    · have HE := Lib.hid (show l.take k = l by rw [List.take_of_length_le (by rw [HL.out]; omega)])
      have HK := Lib.hid (show k = l.length by rw [HL.out]; omega)
      have hc0 := cell_of_one HBK.out
      have hf0 := free_of_one HBK.out
      obtain ⟨_, _, e, hnc, hlt', hbg, hcells⟩ := own_at hown (by omega)
      injection e with e1 _ e3
      injection e1 with e1
      injection e1 with e1
      subst e1 e3
      have hbe := hbr.setCell (p := ⟨w.heap.size, 0, none⟩) (Nat.le_refl _) (.slice (some ⟨g, 0, none⟩) (k + 1) cc)
      have HC := Lib.hid (cell_of_one (one_setCell (u := .slice (some ⟨g, 0, none⟩) (k + 1) cc) HBK.out))
      have HX := Lib.hid (fun (j : Nat) (u : Value) hj => (World.cell?_setCell_other (w := wr) (a := ⟨w.heap.size, 0, none⟩) (b := ⟨g, j, none⟩) (v := .slice (some ⟨g, 0, none⟩) (k + 1) cc) (h := by intro e; injection e with e; omega)).trans (hcells j u hj))
      have hsz2 : g < (wr.setCell ⟨w.heap.size, 0, none⟩ (.slice (some ⟨g, 0, none⟩) (k + 1) cc)).heap.size := by simpa [World.setCell] using hlt'
      clear hcells
      go_wp2
      generalize (wr.setCell ⟨w.heap.size, 0, none⟩ (.slice (some ⟨g, 0, none⟩) (k + 1) cc)) = w5 at *
      have u0 := HC.out
      exact bodyPost_ret (v := .agg #[.slice (some ⟨g, 0, none⟩) (k + 1) cc]) (by simp [results, Try.results45, go_sem, u0]) rfl ⟨g, cc, by rw [HK.out], by rw [← HK.out]; exact hnc, hsz2, by omega, fun j u hj => HX.out j u (by rw [HE.out]; exact hj), hbe⟩
end Go.Proofs.Ytpllgonjhljjkaa
