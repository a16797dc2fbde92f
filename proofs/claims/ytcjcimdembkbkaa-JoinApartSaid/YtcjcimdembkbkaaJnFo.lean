/- join.Forms: the forms of all places. -/
import Derived.Test.YtcjcimdembkbkaaJnS
import Derived.Laws.MakeOwn
namespace Go.Proofs.Ytcjcimdembkbkaa
open Go.RowKit

theorem mk_intsZ (n : Nat) (hn : n ≤ 100000000) (w : World) : (Instr.makeSlice 22 (.int .i64 (n : Int)) (.int .i64 (n : Int))).run Try.prog w = .ok (.slice (some ⟨w.heap.size, 0, none⟩) n n) (w.alloc (.cells (intsZ (List.replicate n 0)).toArray 3)) := by
  have hin : (Try.prog.info? 3).map (fun i => (i.zero, i.size, i.bytes)) = some (some (.int .i64 0), 1, 8) := by kernel_rfl
  obtain ⟨i, h1, h2, h3, h4⟩ := info_parts hin
  have h := run_make (P := Try.prog) w 22 3 i (.int .i64 0) Try.underlying22 h1 h2 .i64 .i64 n n (by omega) (Int.le_refl _) (by rw [h4]; omega) (by omega)
  rw [h3] at h
  simp only [Int.toNat_natCast, Nat.mul_one] at h
  rw [h]
  refine congrArg (fun c => Result.ok _ (w.alloc (.cells c _))) ?_
  apply Array.toList_inj.1
  rw [show (Value.int .i64 0).cells = #[.int .i64 0] from rfl, toList_madeCells_one]
  simp [intsZ]
theorem forms_start (A : Option Addr) (n c : Nat) (ts : List Int) (w : World) (hr : Rd w 1 A n (ts.map (Value.int .i64))) (hlo : 0 < n → ∀ ad, A = some ad → ad.block < w.heap.size) :
    JSt (((((w.alloc (.cells #[.slice A n c] 22)).alloc (.cells (intsZ (List.replicate n 0)).toArray 3)).alloc (.cells #[.slice (some ⟨w.heap.size + 1, 0, none⟩) n n] 22)).alloc (.cells #[.int .i64 (-1)] 3)).alloc (.cells #[.bool false] 4)) w.heap.size A n c ts (-1) false (List.replicate n 0) ∧
    Below w.heap.size w (((((w.alloc (.cells #[.slice A n c] 22)).alloc (.cells (intsZ (List.replicate n 0)).toArray 3)).alloc (.cells #[.slice (some ⟨w.heap.size + 1, 0, none⟩) n n] 22)).alloc (.cells #[.int .i64 (-1)] 3)).alloc (.cells #[.bool false] 4)) := by
  have hk : Below w.heap.size w (((((w.alloc (.cells #[.slice A n c] 22)).alloc (.cells (intsZ (List.replicate n 0)).toArray 3)).alloc (.cells #[.slice (some ⟨w.heap.size + 1, 0, none⟩) n n] 22)).alloc (.cells #[.int .i64 (-1)] 3)).alloc (.cells #[.bool false] 4)) :=
    (((((Below.refl _ _).alloc (Nat.le_refl _) _).alloc (by simp) _).alloc (by simp; omega) _).alloc (by simp; omega) _).alloc (by simp; omega) _
  generalize hA : w.alloc (.cells #[.slice A n c] 22) = wa at *
  generalize hB : wa.alloc (.cells (intsZ (List.replicate n 0)).toArray 3) = wb at *
  generalize hC : wb.alloc (.cells #[.slice (some ⟨w.heap.size + 1, 0, none⟩) n n] 22) = wc at *
  generalize hD : wc.alloc (.cells #[.int .i64 (-1)] 3) = wd at *
  generalize hE : wd.alloc (.cells #[.bool false] 4) = we at *
  have sa : wa.heap.size = w.heap.size + 1 := by rw [← hA, World.size_alloc]
  have sb : wb.heap.size = w.heap.size + 2 := by rw [← hB, World.size_alloc, sa]
  have sc : wc.heap.size = w.heap.size + 3 := by rw [← hC, World.size_alloc, sb]
  have sd : wd.heap.size = w.heap.size + 4 := by rw [← hD, World.size_alloc, sc]
  have oa : ∀ {k o}, k < wa.heap.size → wa.heap[k]? = some o → wb.heap[k]? = some o := fun hk h => by rw [← hB, heap_alloc_old (h := hk)]; exact h
  have ob : ∀ {k o}, k < wb.heap.size → wb.heap[k]? = some o → wc.heap[k]? = some o := fun hk h => by rw [← hC, heap_alloc_old (h := hk)]; exact h
  have oc : ∀ {k o}, k < wc.heap.size → wc.heap[k]? = some o → wd.heap[k]? = some o := fun hk h => by rw [← hD, heap_alloc_old (h := hk)]; exact h
  have od : ∀ {k o}, k < wd.heap.size → wd.heap[k]? = some o → we.heap[k]? = some o := fun hk h => by rw [← hE, heap_alloc_old (h := hk)]; exact h
  refine ⟨⟨?_, ?_, ?_, ?_, ?_, hr.below hk, hlo, by simp⟩, hk⟩
  · refine od (by omega) (oc (by omega) (ob (by omega) (oa (by omega) ?_)))
    rw [← hA]; exact heap_alloc_new _ _
  · refine od (by omega) (oc (by omega) (ob (by omega) ?_))
    rw [← sa, ← hB]; exact heap_alloc_new _ _
  · refine od (by omega) (oc (by omega) ?_)
    rw [← sb, ← hC]; exact heap_alloc_new _ _
  · refine od (by omega) ?_
    rw [← sc, ← hD]; exact heap_alloc_new _ _
  · rw [← sd, ← hE]; exact heap_alloc_new _ _
set_option maxRecDepth 100000 in
set_option maxHeartbeats 4000000 in
theorem jnForms_any (A : Option Addr) (n c : Nat) (ts : List Int) (w : World) (hr : Rd w 1 A n (ts.map (Value.int .i64))) (hn : n ≤ 1000000) :
    Calls Try.prog 13 #[.slice A n c] w fun e w' => (∃ g, w.heap.size ≤ g ∧ e = .returned (.slice (some ⟨g, 0, none⟩) n n) ∧ w'.heap[g]? = some (.cells (intsZ (jForms ts)).toArray 3 (0, 0))) ∧ Below w.heap.size w w' := by
  have hlen : ts.length = n := by simpa using hr.len1
  have hlo : 0 < n → ∀ ad, A = some ad → ad.block < w.heap.size := fun hp ad e => by
    obtain ⟨ad', e', hb, _⟩ := hr.2 hp
    rw [e] at e'
    cases e'
    exact hb
  have hmk := mk_intsZ n (by omega)
  obtain ⟨hS0, hB0⟩ := forms_start A n c ts w hr hlo
  have HS0 := Lib.hid hS0
  have HB0 := Lib.hid hB0
  have HL := Lib.hid hlen
  clear hr hlen hlo hS0 hB0
  go_enter Try.func13, Try.ntmps13
  go_wp2_with fail
  simp only [Nat.add_assoc, Nat.reduceAdd]
  have hS := HS0.out
  have hB := HB0.out
  clear HS0 HB0 hmk
  generalize (((((w.alloc (.cells #[.slice A n c] 22)).alloc (.cells (intsZ (List.replicate n 0)).toArray 3)).alloc (.cells #[.slice (some ⟨w.heap.size + 1, 0, none⟩) n n] 22)).alloc (.cells #[.int .i64 (-1)] 3)).alloc (.cells #[.bool false] 4)) = w5 at *
  obtain ⟨s, hs⟩ : ∃ s, w.heap.size = s := ⟨_, rfl⟩
  rw [hs] at hS hB
  simp only [hs]
  have HB := Lib.hid hB
  have HS := Lib.hid hS
  clear hB hS
  go_loopw [15] (fun i wr => ∃ k : Nat, k ≤ n ∧ i = .int .i64 k ∧ JSt wr s A n c ts (jLast ts k) (jAh ts (jLast ts k)) (jPart ts (jLast ts k)) ∧ Below s w wr) (fun i _ => n - (intOf i).toNat)
  case atStart =>
    refine ⟨0, Nat.zero_le _, rfl, ?_, HB.out⟩
    rw [show jLast ts 0 = -1 from rfl, jPart_start, HL.out]
    exact HS.out
  case round =>
    obtain ⟨k, hk, rfl, hJ, hb⟩ := hrel
    by_cases hlt : k < n
    · obtain ⟨t, htk⟩ : ∃ t, ts[k]? = some t := ⟨_, List.getElem?_eq_getElem (by rw [HL.out]; exact hlt)⟩
      obtain ⟨ad, rfl, _, hc⟩ := hJ.rd.at_ hlt
      have cs : wr.cell? (ad.add k) = some (.int .i64 t) := hc _ (by rw [List.getElem?_map, htk]; rfl)
      by_cases ht : t = 1
      · subst ht
        have HX := Lib.hid (show JSt wr s (some ad) n c ts (jLast ts (k + 1)) (jAh ts (jLast ts (k + 1))) (jPart ts (jLast ts (k + 1))) by rw [jLast_skip htk]; exact hJ)
        have HB1 := Lib.hid hb
        clear hJ hb hc htk
        go_wp2_with fail
        go_roundw
        case rel => exact ⟨k + 1, by omega, by go_num, HX.out, HB1.out⟩
        case measure => simp [intOf]; omega
      · have hjn := jJoinI_next htk ht
        have hst := jFill_step (ts := ts) (k := k) (by rw [HL.out]; omega)
        obtain ⟨b, hbv⟩ : ∃ b, jJoinI ts (jLast ts k) = b := ⟨_, rfl⟩
        rw [hbv] at hjn hst
        have hlk := jLast_lt ts k
        have hlk1 := jLast_hit htk ht
        obtain ⟨wv, hwv⟩ : ∃ wv, jLast ts k = wv := ⟨_, rfl⟩
        rw [hwv] at hjn hst hJ hlk hbv
        have c3 : wr.cell? ⟨s + 3, 0, none⟩ = some (.int .i64 wv) := hp_cell hJ.h3 rfl
        have c0 : wr.cell? ⟨s, 0, none⟩ = some (.slice (some ad) n c) := hp_cell hJ.h0 rfl
        have g1 : (t == 1) = false := by simp [ht]
        have HSE := Lib.hid (settle_any s n c (some ad) ts _ _ wv _ b hst wr hJ (by omega) hn)
        have HAH := Lib.hid (show jAh ts (jLast ts (k + 1)) = b by rw [hlk1, jAh_next, hwv, hbv])
        have HLK := Lib.hid hlk1
        have HB1 := Lib.hid hb
        have HM := Lib.hid (fun w => jnMeets_any t w)
        obtain ⟨m, hm⟩ : ∃ m, meetB t = m := ⟨_, rfl⟩
        rw [hm] at HM hjn
        have hrd := hJ.rd
        clear hJ hb hc hst hlk1 hwv hbv hm ht
        by_cases h1 : wv = -1
        · subst h1
          obtain rfl : b = false := by rw [hjn]; rfl
          clear hjn hlk
          go_wp2_with (first
            | (go_at_call 38; with_reducible refine HSE.out.mono ?_; rintro e w7 ⟨⟨vv, rfl⟩, hJ7, hb7⟩; have c7 : w7.cell? ⟨s + 3, 0, none⟩ = some (.int .i64 (-1)) := hp_cell hJ7.h3 rfl; have f7 := hp_froz hJ7.h3 0)
            | fail)
          refine ⟨⟨k + 1, by omega, by go_num, ?_, HB1.out.trans (hb7.setCell (p := ⟨s + 3, 0, none⟩) (by simp) _)⟩, by simp [intOf]; omega⟩
          rw [HAH.out, HLK.out]
          exact hJ7.wait _
        · obtain ⟨n0, rfl⟩ : ∃ n0 : Nat, wv = n0 := ⟨wv.toNat, by omega⟩
          obtain ⟨u, huk⟩ : ∃ u, ts[n0]? = some u := ⟨_, List.getElem?_eq_getElem (by rw [HL.out]; omega)⟩
          have cu : wr.cell? (ad.add n0) = some (.int .i64 u) := hrd.news n0 _ (by rw [List.getElem?_map, huk]; rfl)
          have hn0 : n0 < n := by omega
          have gn : ((n0 : Int) != -1) = true := by simp only [bne_iff_ne]; omega
          have HRE := Lib.hid (fun w => jnReaches_any u w)
          obtain ⟨r, hre⟩ : ∃ r, reachB u = r := ⟨_, rfl⟩
          rw [hre] at HRE
          have hb' : b = (r && m) := by
            rw [hjn, decide_eq_true h1, Bool.true_and, Int.toNat_natCast, List.getD_eq_getElem?_getD, huk, Option.getD_some, hre]
          clear hjn hlk huk hre h1
          cases r with
          | false =>
            obtain rfl : b = false := by rw [hb']; rfl
            clear hb'
            go_wp2_with (first
              | (go_at_call 41; with_reducible refine (HRE.out _).mono ?_; rintro e w7 ⟨rfl, rfl⟩)
              | (go_at_call 38; with_reducible refine HSE.out.mono ?_; rintro e w7 ⟨⟨vv, rfl⟩, hJ7, hb7⟩; have c7 : w7.cell? ⟨s + 3, 0, none⟩ = some (.int .i64 (n0 : Int)) := hp_cell hJ7.h3 rfl; have f7 := hp_froz hJ7.h3 0)
              | fail)
            refine ⟨⟨k + 1, by omega, by go_num, ?_, HB1.out.trans (hb7.setCell (p := ⟨s + 3, 0, none⟩) (by simp) _)⟩, by simp [intOf]; omega⟩
            rw [HAH.out, HLK.out]
            exact hJ7.wait _
          | true =>
            obtain rfl : b = m := by rw [hb']; rfl
            clear hb'
            go_wp2_with (first
              | (go_at_call 41; with_reducible refine (HRE.out _).mono ?_; rintro e w7 ⟨rfl, rfl⟩)
              | (go_at_call 42; with_reducible refine (HM.out _).mono ?_; rintro e w7 ⟨rfl, rfl⟩)
              | (go_at_call 38; with_reducible refine HSE.out.mono ?_; rintro e w7 ⟨⟨vv, rfl⟩, hJ7, hb7⟩; have c7 : w7.cell? ⟨s + 3, 0, none⟩ = some (.int .i64 (n0 : Int)) := hp_cell hJ7.h3 rfl; have f7 := hp_froz hJ7.h3 0)
              | fail)
            refine ⟨⟨k + 1, by omega, by go_num, ?_, HB1.out.trans (hb7.setCell (p := ⟨s + 3, 0, none⟩) (by simp) _)⟩, by simp [intOf]; omega⟩
            rw [HAH.out, HLK.out]
            exact hJ7.wait _
    · obtain rfl : k = n := by omega
      have hst := jFill_step (ts := ts) (k := k) (by rw [HL.out]; omega)
      have hend := jJoinI_end ts
      rw [HL.out] at hend
      rw [hend, ← HL.out, jPart_all, HL.out] at hst
      have hlk := jLast_lt ts k
      have HSE := Lib.hid (settle_any s k c A ts _ _ (jLast ts k) _ false hst wr hJ (by omega) hn)
      have HB1 := Lib.hid hb
      have hsz := Nat.le_trans (Nat.le_of_eq hs.symm) (Nat.le_refl _)
      clear hJ hb hst hend hlk
      go_wp2_with (first
        | (go_at_call 38; with_reducible refine HSE.out.mono ?_; rintro e w7 ⟨⟨vv, rfl⟩, hJ7, hb7⟩; have c7 : w7.cell? ⟨s + 2, 0, none⟩ = some (.slice (some ⟨s + 1, 0, none⟩) k k) := hp_cell hJ7.h2 rfl)
        | fail)
      go_ret
      refine ⟨⟨s + 1, by omega, rfl, hJ7.h1⟩, ?_⟩
      rw [hs]
      exact HB1.out.trans hb7
end Go.Proofs.Ytcjcimdembkbkaa
