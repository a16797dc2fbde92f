/- Texts of one claim, one behind the other. -/
import Derived.Test.YtpddjojgcenlkaaGreatMgNu1
/- brack's side, sideOf, between and Inside, walked. -/
namespace Go.Proofs.YtpddjojgcenlkaaGreat
open Go.RowKit

/-- Which sides there are in classes. -/
def insS (l : List Int) (level : Int) : Bool × Bool := (l.any fun x => decide (sideF x = ofL level), l.any fun x => decide (0 ≤ sideF x ∧ sideF x ≠ ofL level))
theorem ins_sub {l : List Int} {lo hi : Nat} (level : Int) (h2 : hi ≤ l.length) : insF l ((lo : Int) - 1) hi level = insS ((l.take hi).drop lo) level := by
  have key : ∀ P : Int → Bool, ((List.range l.length).any fun i => decide ((lo : Int) - 1 < (i : Int) ∧ (i : Int) < hi) && P (l.getD i 0)) = ((l.take hi).drop lo).any P := by
    intro P
    rw [Bool.eq_iff_iff, List.any_eq_true, List.any_eq_true]
    constructor
    · rintro ⟨i, hi', h⟩
      rw [List.mem_range] at hi'
      rw [Bool.and_eq_true, decide_eq_true_eq] at h
      obtain ⟨⟨a, b⟩, c⟩ := h
      refine ⟨l.getD i 0, List.mem_of_getElem? (i := i - lo) ?_, c⟩
      rw [List.getElem?_drop, show lo + (i - lo) = i by omega, List.getElem?_take_of_lt (by omega), List.getD_eq_getElem?_getD, List.getElem?_eq_getElem hi']
      rfl
    · rintro ⟨x, hx, h⟩
      obtain ⟨i, hi'⟩ := List.getElem?_of_mem hx
      rw [List.getElem?_drop] at hi'
      have hl := (List.getElem?_eq_some_iff.1 hi').1
      rw [List.length_take] at hl
      rw [List.getElem?_take_of_lt (by omega)] at hi'
      refine ⟨lo + i, by rw [List.mem_range]; omega, ?_⟩
      rw [Bool.and_eq_true, decide_eq_true_eq, List.getD_eq_getElem?_getD, hi']
      exact ⟨by omega, h⟩
  unfold insF insS
  rw [← key, ← key]
  congr 1
  · congr 1
    funext i
    rw [Bool.eq_iff_iff]
    simp only [Bool.and_eq_true, decide_eq_true_eq]
    constructor
    · rintro ⟨a, b, c⟩; exact ⟨⟨a, b⟩, c⟩
    · rintro ⟨⟨a, b⟩, c⟩; exact ⟨a, b, c⟩
  · congr 1
    funext i
    rw [Bool.eq_iff_iff]
    simp only [Bool.and_eq_true, decide_eq_true_eq]
    constructor
    · rintro ⟨a, b, c⟩; exact ⟨⟨a, b⟩, c⟩
    · rintro ⟨⟨a, b⟩, c⟩; exact ⟨a, b, c⟩
theorem insS_step {l : List Int} {k : Nat} {x level : Int} {a b : Bool} (hx : l[k]? = some x) (h : insS (l.take k) level = (a, b)) : insS (l.take (k + 1)) level = (a || decide (sideF x = ofL level), b || decide (0 ≤ sideF x ∧ sideF x ≠ ofL level)) := by
  unfold insS at h ⊢
  injection h with h1 h2
  rw [List.take_add_one, hx, Option.toList_some, List.any_append, List.any_append, h1, h2]
  simp
set_option maxRecDepth 100000 in
theorem bkSide_any (x v : Int) (hv : sideF x = v) (w : World) : Calls Tryz.prog 103 #[.int .i64 x] w fun e w' => e = .returned (.int .i64 v) ∧ w = w' := by
  unfold sideF at hv
  by_cases h0 : x = 0
  · subst h0
    rw [if_pos rfl] at hv
    subst hv
    go_enter Tryz.func103, Tryz.ntmps103
    go_wp2; go_ret; exact ⟨rfl, rfl⟩
  · rw [if_neg h0] at hv
    have g0 : (x == 0) = false := by simp [h0]
    by_cases h1 : x = 1
    · subst h1
      rw [if_pos (.inl rfl)] at hv
      subst hv
      clear h0 g0
      go_enter Tryz.func103, Tryz.ntmps103
      go_wp2; go_ret; exact ⟨rfl, rfl⟩
    · have g1 : (x == 1) = false := by simp [h1]
      by_cases h3 : x = 3
      · subst h3
        rw [if_pos (.inr (.inl rfl))] at hv
        subst hv
        clear h0 h1 g0 g1
        go_enter Tryz.func103, Tryz.ntmps103
        go_wp2; go_ret; exact ⟨rfl, rfl⟩
      · have g3 : (x == 3) = false := by simp [h3]
        by_cases h6 : x = 6
        · subst h6
          rw [if_pos (.inr (.inr rfl))] at hv
          subst hv
          clear h0 h1 h3 g0 g1 g3
          go_enter Tryz.func103, Tryz.ntmps103
          go_wp2; go_ret; exact ⟨rfl, rfl⟩
        · have g6 : (x == 6) = false := by simp [h6]
          rw [if_neg (by omega)] at hv
          subst hv
          clear h0 h1 h3 h6
          go_enter Tryz.func103, Tryz.ntmps103
          go_wp2; go_ret; exact ⟨rfl, rfl⟩
set_option maxRecDepth 100000 in
theorem bkSideOf_any (n v : Int) (hv : ofL n = v) (w : World) : Calls Tryz.prog 84 #[.int .i64 n] w fun e w' => e = .returned (.int .i64 v) ∧ w = w' := by
  obtain ⟨y, hy⟩ : ∃ y, n % 2 = y := ⟨_, rfl⟩
  have hbit : bits .and .i64 n 1 = y := by rw [and1_i64, hy]
  have hy2 : y = 0 ∨ y = 1 := by omega
  unfold ofL at hv
  rw [hy] at hv
  clear hy
  rcases hy2 with h0 | h0
  · rw [if_pos h0] at hv
    subst hv
    rw [h0] at hbit
    clear h0
    go_enter Tryz.func84, Tryz.ntmps84
    go_wp2; go_ret; exact ⟨rfl, rfl⟩
  · rw [if_neg (by omega)] at hv
    subst hv
    rw [h0] at hbit
    clear h0
    go_enter Tryz.func84, Tryz.ntmps84
    go_wp2; go_ret; exact ⟨rfl, rfl⟩
/-- What lies between lo and hi. -/
def cutV (A : Option Addr) (c lo hi : Nat) : Value := .slice (if c = lo then A else A.map (·.add lo)) (hi - lo) (c - lo)
set_option maxRecDepth 100000 in
set_option maxHeartbeats 2000000 in
theorem bkBetween_any (A : Option Addr) (n c lo hi : Nat) (h1 : lo ≤ n) (h2 : lo ≤ hi) (h3 : hi ≤ n) (h4 : n ≤ c) (hn : n ≤ 1000000) (w : World) :
    Calls Tryz.prog 102 #[.slice A n c, .agg #[.int .i64 ((lo : Int) - 1), .int .i64 (hi : Int)]] w fun e w' => e = .returned (cutV A c lo hi) ∧ Below w.heap.size w w' := by
  have hb := below_new w (.cells #[.int .i64 ((lo : Int) - 1), .int .i64 (hi : Int)] 92)
  have hbx := heap_alloc_new w (.cells #[.int .i64 ((lo : Int) - 1), .int .i64 (hi : Int)] 92)
  obtain ⟨o, ho⟩ : ∃ o : Int, (lo : Int) - 1 = o := ⟨_, rfl⟩
  rw [ho] at hb hbx ⊢
  obtain ⟨wo, hwo⟩ : ∃ wo, w.alloc (.cells #[.int .i64 o, .int .i64 (hi : Int)] 92) = wo := ⟨_, rfl⟩
  rw [hwo] at hb hbx
  have c0 := hp_cell (j := 0) hbx rfl
  have c1 := hp_cell (j := 1) hbx rfl
  have m1 : (if o < -1 then -1 else o) = o := by rw [if_neg (by omega)]
  have m2 : (if (n : Int) - 1 < o then (n : Int) - 1 else o) = o := by rw [if_neg (by omega)]
  have m3 : o + 1 = (lo : Int) := by omega
  have m4 : (if (hi : Int) < (lo : Int) then (lo : Int) else (hi : Int)) = (hi : Int) := by rw [if_neg (by omega)]
  have m5 : (if (n : Int) < (hi : Int) then (n : Int) else (hi : Int)) = (hi : Int) := by rw [if_neg (by omega)]
  have HB := Lib.hid (show Below w.heap.size w (w.alloc (.cells #[.int .i64 o, .int .i64 (hi : Int)] 92)) by rw [hwo]; exact hb)
  subst hwo
  clear ho hbx hb
  go_enter Tryz.func102, Tryz.ntmps102
  go_wp2
  · go_ret
    exact ⟨by simp [cutV], HB.out⟩
  · go_ret
    exact ⟨by simp [cutV, h], HB.out⟩
theorem cutV_rd {A : Option Addr} {n c lo hi : Nat} {l : List Int} {w : World} (hr : Rd w 1 A n (l.map (Value.int .i64))) (h2 : lo ≤ hi) (h3 : hi ≤ n) (h4 : n ≤ c) : Rd w 1 (if c = lo then A else A.map (·.add lo)) (hi - lo) (((l.take hi).drop lo).map (Value.int .i64)) := by
  have hl : l.length = n := by simpa using hr.len1
  have h := hr.cut (show lo ≤ n by omega) h4
  simp only [Nat.mul_one] at h
  refine ⟨by simp; omega, fun h0 => ?_⟩
  obtain ⟨ad, e, hb, hc⟩ := h.2 (by omega)
  refine ⟨ad, e, hb, fun j u hj => hc j u ?_⟩
  have hj2 := (List.getElem?_eq_some_iff.1 hj).1
  rw [List.length_map, List.length_drop, List.length_take] at hj2
  rw [List.getElem?_map, List.getElem?_drop, List.getElem?_take_of_lt (by omega)] at hj
  rw [List.getElem?_drop, List.getElem?_map]
  exact hj
set_option maxRecDepth 100000 in
set_option maxHeartbeats 2000000 in
theorem bkInside_any (A : Option Addr) (n c lo hi : Nat) (l : List Int) (level : Int) (va vb : Bool) (hv : insS ((l.take hi).drop lo) level = (va, vb)) (h2 : lo ≤ hi) (h3 : hi ≤ n) (h4 : n ≤ c) (hn : n ≤ 1000000) (w : World) (hr : Rd w 1 A n (l.map (Value.int .i64))) :
    Calls Tryz.prog 83 #[.slice A n c, .agg #[.int .i64 ((lo : Int) - 1), .int .i64 (hi : Int)], .int .i64 level] w fun e w' => e = .returned (.tuple #[.bool va, .bool vb]) ∧ Below w.heap.size w w' := by
  have hb := below_new w (.cells #[.int .i64 ((lo : Int) - 1), .int .i64 (hi : Int)] 92)
  have hbx := heap_alloc_new w (.cells #[.int .i64 ((lo : Int) - 1), .int .i64 (hi : Int)] 92)
  have HC := Lib.hid (fun W => bkBetween_any A n c lo hi (by omega) h2 h3 h4 hn W)
  have HRC := Lib.hid (cutV_rd hr h2 h3 h4)
  obtain ⟨o, ho⟩ : ∃ o : Int, (lo : Int) - 1 = o := ⟨_, rfl⟩
  rw [ho] at hb hbx HC ⊢
  obtain ⟨D, hD⟩ : ∃ D, (if c = lo then A else A.map (·.add lo)) = D := ⟨_, rfl⟩
  obtain ⟨m, hm⟩ : ∃ m, hi - lo = m := ⟨_, rfl⟩
  obtain ⟨d, hd⟩ : ∃ d, c - lo = d := ⟨_, rfl⟩
  unfold cutV at HC
  rw [hD, hm, hd] at HC
  rw [hD, hm] at HRC
  obtain ⟨S, hS⟩ : ∃ S, (l.take hi).drop lo = S := ⟨_, rfl⟩
  rw [hS] at HRC hv
  have hm6 : m ≤ 1000000 := by omega
  have hSl : S.length = m := by simpa using HRC.out.len1
  have HSL := Lib.hid hSl
  have HV := Lib.hid hv
  obtain ⟨s, hs⟩ : ∃ s, ofL level = s := ⟨_, rfl⟩
  have HS := Lib.hid hs
  have HSO := Lib.hid (fun W => bkSideOf_any level s hs W)
  have hs01 : s = 0 ∨ s = 1 := by rw [← hs]; exact ofL_in level
  obtain ⟨wo, hwo⟩ : ∃ wo, w.alloc (.cells #[.int .i64 o, .int .i64 (hi : Int)] 92) = wo := ⟨_, rfl⟩
  rw [hwo] at hb hbx
  have c0 : wo.cell? ⟨w.heap.size, 0, none⟩ = some (.int .i64 o) := hp_cell (j := 0) hbx rfl
  have c1 : wo.cell? ⟨w.heap.size, 1, none⟩ = some (.int .i64 (hi : Int)) := hp_cell (j := 1) hbx rfl
  subst hwo
  clear ho hbx hD hm hd hS hSl hv hs hr h2 h3 h4
  go_enter Tryz.func83, Tryz.ntmps83
  go_wp2_with (first
    | (go_at_call 102; refine (HC.out _).mono ?_; rintro e w2 ⟨rfl, hb2⟩)
    | fail)
  have HB2 := Lib.hid (hb.trans (hb2.mono hb.size))
  have HR2 := Lib.hid (HRC.out.below HB2.out)
  clear hb hb2 c0 c1
  go_loopw [8, 9, 16] (fun a b i wr => wr = w2 ∧ ∃ (k : Nat) (ba bb : Bool), k ≤ m ∧ i = .int .i64 (k : Int) ∧ a = .bool ba ∧ b = .bool bb ∧ insS (S.take k) level = (ba, bb)) (fun _ _ i _ => m - (intOf i).toNat)
  case atStart => exact ⟨rfl, 0, false, false, Nat.zero_le _, rfl, rfl, rfl, rfl⟩
  case round =>
    obtain ⟨rfl, k, ba, bb, hk, rfl, rfl, rfl, hst⟩ := hrel
    have HST := Lib.hid hst
    clear hst
    by_cases hlt : k < m
    · obtain ⟨x, hx⟩ : ∃ x, S[k]? = some x := ⟨_, List.getElem?_eq_getElem (by rw [HSL.out]; exact hlt)⟩
      obtain ⟨ad, rfl, hab, hcell⟩ := HR2.out.at_ hlt
      have cx := hcell (.int .i64 x) (by rw [List.getElem?_map, hx]; rfl)
      have HN := Lib.hid (insS_step hx HST.out)
      obtain ⟨v, hv⟩ : ∃ v, sideF x = v := ⟨_, rfl⟩
      have HSI := Lib.hid (fun W => bkSide_any x v hv W)
      have hvc := side_in x
      rw [hv] at hvc HN
      rw [HS.out] at HN
      have hkm : (k : Int) < (m : Int) := by omega
      clear hx hcell hv
      by_cases hv1 : v = -1
      · subst hv1
        have HN2 := Lib.hid (show insS (S.take (k + 1)) level = (ba, bb) by rw [HN.out, decide_eq_false (show ¬ (-1 : Int) = s by omega), decide_eq_false (show ¬ ((0 : Int) ≤ -1 ∧ (-1 : Int) ≠ s) by omega), Bool.or_false, Bool.or_false])
        go_wp2_with (first
          | (go_at_call 103; refine (HSI.out _).mono ?_; rintro e w3 ⟨rfl, rfl⟩)
          | fail)
        go_roundw
        case rel => exact ⟨by first | rfl | trivial, k + 1, ba, bb, by omega, by go_num, rfl, rfl, HN2.out⟩
        case measure => simp [intOf]; omega
      · have g1 : (v == -1) = false := by simp [hv1]
        by_cases hvs : v = s
        · have g2 : (v == s) = true := by simp [hvs]
          have HN2 := Lib.hid (show insS (S.take (k + 1)) level = (true, bb) by rw [HN.out, decide_eq_true hvs, decide_eq_false (show ¬ ((0 : Int) ≤ v ∧ v ≠ s) by omega), Bool.or_true, Bool.or_false])
          clear hvs hv1
          go_wp2_with (first
            | (go_at_call 103; refine (HSI.out _).mono ?_; rintro e w3 ⟨rfl, rfl⟩)
            | (go_at_call 84; refine (HSO.out _).mono ?_; rintro e w3 ⟨rfl, rfl⟩)
            | fail)
          go_roundw
          case rel => exact ⟨by first | rfl | trivial, k + 1, true, bb, by omega, by go_num, rfl, rfl, HN2.out⟩
          case measure => simp [intOf]; omega
        · have g2 : (v == s) = false := by simp [hvs]
          have HN2 := Lib.hid (show insS (S.take (k + 1)) level = (ba, true) by rw [HN.out, decide_eq_false hvs, decide_eq_true (show ((0 : Int) ≤ v ∧ v ≠ s) by omega), Bool.or_false, Bool.or_true])
          clear hvs hv1
          go_wp2_with (first
            | (go_at_call 103; refine (HSI.out _).mono ?_; rintro e w3 ⟨rfl, rfl⟩)
            | (go_at_call 84; refine (HSO.out _).mono ?_; rintro e w3 ⟨rfl, rfl⟩)
            | fail)
          go_roundw
          case rel => exact ⟨by first | rfl | trivial, k + 1, ba, true, by omega, by go_num, rfl, rfl, HN2.out⟩
          case measure => simp [intOf]; omega
    · obtain rfl : k = m := by omega
      have HE := Lib.hid (show (ba, bb) = (va, vb) by rw [← HV.out, ← HST.out, List.take_of_length_le (by rw [HSL.out]; exact Nat.le_refl _)])
      go_wp2
      go_ret2
      have h := HE.out
      injection h with e1 e2
      exact ⟨by subst e1 e2; rfl, HB2.out⟩
end Go.Proofs.YtpddjojgcenlkaaGreat
/- The block of a row has its elements' type. No function of the program. -/
namespace Go.Proofs.YtpddjojgcenlkaaGreat
open Go.RowKit

section
variable {w : World}
theorem own_typ {e : TypeId} {base size n c g : Nat} {xs : List Value} (h : w.ownsRow base e size (.slice (some ⟨g, 0, none⟩) n c) n xs) : ∃ cs, w.heap[g]? = some (.cells cs e (0, 0)) := by
  rcases h.2 with ⟨h', _⟩ | ⟨g', cap', cur, h', _, hg, _⟩
  · simp at h'
  · simp only [Value.slice.injEq, Option.some.injEq, Addr.mk.injEq, and_true] at h'
    obtain ⟨rfl, _⟩ := h'
    exact ⟨cur, hg⟩
/-- The block of a row has its elements' type. -/
theorem own_row {e : TypeId} {base size n : Nat} {v : Value} {xs : List Value} (h : w.ownsRow base e size v n xs) : ∀ x, v.ownBlock = some x → ∃ cs, w.heap[x]? = some (.cells cs e (0, 0)) := by
  intro x hx
  rcases h.2 with ⟨rfl, _⟩ | ⟨g', cap', cur, rfl, _, hg, _⟩
  · cases hx
  · have : g' = x := by simpa [Value.ownBlock] using hx
    subst this
    exact ⟨cur, hg⟩
end
end Go.Proofs.YtpddjojgcenlkaaGreat
/- A block of one span, known whole, and what becomes of it. -/
namespace Go.Proofs.YtpddjojgcenlkaaGreat
open Go.RowKit

/-- A block of one span, known whole, that may be written. -/
def SpanBlk (w : World) (b : Nat) (s : Sp) : Prop := w.cell? ⟨b, 0, none⟩ = some (.int .i64 s.1) ∧ w.cell? ⟨b, 1, none⟩ = some (.int .i64 s.2) ∧ w.frozen? ⟨b, 0, none⟩ = false ∧ w.frozen? ⟨b, 1, none⟩ = false

theorem SpanBlk.below {w w' : World} {b : Nat} {s : Sp} (h : SpanBlk w b s) (hb : Below w.heap.size w w') : SpanBlk w' b s :=
  ⟨cell_below hb h.1, cell_below hb h.2.1, (hb.frozen (cell_lt h.1)).trans h.2.2.1, (hb.frozen (cell_lt h.2.1)).trans h.2.2.2⟩
theorem SpanBlk.put {w : World} {b : Nat} {s : Sp} (h : SpanBlk w b s) (x y : Int) : SpanBlk ((w.setCell ⟨b, 0, none⟩ (.int .i64 x)).setCell ⟨b, 1, none⟩ (.int .i64 y)) b (x, y) := by
  obtain ⟨h0, h1, h2, h3⟩ := h
  have e1 : (w.setCell ⟨b, 0, none⟩ (.int .i64 x)).cell? ⟨b, 1, none⟩ = some (.int .i64 s.2) := (World.cell?_setCell_other (h := by simp) ..).trans h1
  refine ⟨?_, World.cell?_setCell_same (h := e1) .., ?_, ?_⟩
  · exact (World.cell?_setCell_other (h := by simp) ..).trans (World.cell?_setCell_same (h := h0) ..)
  · rw [World.frozen?_setCell, World.frozen?_setCell]; exact h2
  · rw [World.frozen?_setCell, World.frozen?_setCell]; exact h3
theorem SpanBlk.far {w : World} {b b' : Nat} {s : Sp} (h : SpanBlk w b s) (hne : b ≠ b') (u v : Value) : SpanBlk ((w.setCell ⟨b', 0, none⟩ u).setCell ⟨b', 1, none⟩ v) b s := by
  obtain ⟨h0, h1, h2, h3⟩ := h
  refine ⟨?_, ?_, ?_, ?_⟩
  · exact (World.cell?_setCell_other (h := by first | (simp; done) | (simp; omega)) ..).trans ((World.cell?_setCell_other (h := by first | (simp; done) | (simp; omega)) ..).trans h0)
  · exact (World.cell?_setCell_other (h := by first | (simp; done) | (simp; omega)) ..).trans ((World.cell?_setCell_other (h := by first | (simp; done) | (simp; omega)) ..).trans h1)
  · rw [World.frozen?_setCell, World.frozen?_setCell]; exact h2
  · rw [World.frozen?_setCell, World.frozen?_setCell]; exact h3

theorem only_setCell {a w : World} {g : Nat} (h : a.grownBy w (some g)) {p : Addr} (hp : p.block = g ∨ a.heap.size ≤ p.block) (u : Value) : a.grownBy (w.setCell p u) (some g) :=
  ⟨h.os, h.tape, h.output, by simpa [World.setCell] using h.size, fun i hi hne => (Below.heap_setCell w p u i (by
    rintro rfl
    rcases hp with hp | hp
    · exact hne (by rw [hp])
    · omega)).trans (h.block i hi hne)⟩
theorem SpanBlk.grown {w w' : World} {b : Nat} {s : Sp} {row : Option Nat} (h : SpanBlk w b s) (hg : w.grownBy w' row) (hne : row ≠ some b) : SpanBlk w' b s := by
  obtain ⟨h0, h1, h2, h3⟩ := h
  have hb := cell_lt h0
  have e := hg.block b hb (fun e => hne e.symm)
  have ec : ∀ i, w'.cell? ⟨b, i, none⟩ = w.cell? ⟨b, i, none⟩ := fun i => World.cell?_of_block (a := ⟨b, i, none⟩) e
  have ef : ∀ i, w'.frozen? ⟨b, i, none⟩ = w.frozen? ⟨b, i, none⟩ := fun i => by unfold World.frozen?; rw [e]
  exact ⟨(ec 0).trans h0, (ec 1).trans h1, (ef 0).trans h2, (ef 1).trans h3⟩
theorem SpanBlk.put0 {w : World} {b : Nat} {s : Sp} (h : SpanBlk w b s) (x : Int) : SpanBlk (w.setCell ⟨b, 0, none⟩ (.int .i64 x)) b (x, s.2) := by
  obtain ⟨h0, h1, h2, h3⟩ := h
  refine ⟨World.cell?_setCell_same (h := h0) .., (World.cell?_setCell_other (h := by simp) ..).trans h1, ?_, ?_⟩
  · rw [World.frozen?_setCell]; exact h2
  · rw [World.frozen?_setCell]; exact h3
theorem own_set_far {w : World} {base : Nat} {e : TypeId} {size n b i : Nat} {v u : Value} {xs : List Value} (h : w.ownsRow base e size v n xs) (hne : v.ownBlock ≠ some b) : (w.setCell ⟨b, i, none⟩ u).ownsRow base e size v n xs :=
  h.kept (row := some b) (only_setCell (World.grownBy.refl w _) (.inl rfl) u) (.inr hne)
theorem below_make {w w' : World} (hg : w.grownBy w' none) : Below w.heap.size w w' := (Below.refl _ _).grown hg (Nat.le_refl _) (fun k hk => by cases hk)
theorem SpanBlk.new_ (w : World) (x y : Int) (t : TypeId) : SpanBlk (w.alloc (.cells #[.int .i64 x, .int .i64 y] t)) w.heap.size (x, y) := by
  refine ⟨?_, ?_, ?_, ?_⟩ <;> simp [go_sem]

end Go.Proofs.YtpddjojgcenlkaaGreat
/- A slice of slices of integers that the call makes: appended to, and written. -/
namespace Go.Proofs.YtpddjojgcenlkaaGreat
open Go.RowKit

/-- Rows of unlike types share no block. -/
theorem typ_ne {w : World} {b1 b2 s1 s2 n1 n2 : Nat} {e1 e2 : TypeId} {v1 v2 : Value} {x1 x2 : List Value} (h1 : w.ownsRow b1 e1 s1 v1 n1 x1) (h2 : w.ownsRow b2 e2 s2 v2 n2 x2) (he : e1 ≠ e2) : v1.ownBlock = none ∨ v1.ownBlock ≠ v2.ownBlock := by
  rcases h : v1.ownBlock with _ | x
  · exact .inl rfl
  · right
    intro e
    obtain ⟨c1, g1⟩ := own_row h1 x h
    obtain ⟨c2, g2⟩ := own_row h2 x e.symm
    rw [g1] at g2
    simp only [Option.some.injEq, Obj.cells.injEq] at g2
    exact he g2.2.1
/-- A slice of slices: each row in a block of its own, if anywhere. -/
structure LsAt (w : World) (base : Nat) (v : Value) (Q : List Value) (R : List (List Int)) : Prop where
  own : w.ownsRow base 22 1 v Q.length Q
  len : Q.length = R.length
  rows : ∀ (i : Nat) (u : Value) (r : List Int), Q[i]? = some u → R[i]? = some r → w.ownsRow base 3 1 u r.length (r.map (Value.int .i64))
  ne : ∀ (i j : Nat) (u u' : Value), i ≠ j → Q[i]? = some u → Q[j]? = some u' → u.ownBlock = none ∨ u.ownBlock ≠ u'.ownBlock
section
variable {w w' : World} {base : Nat} {v : Value} {Q : List Value} {R : List (List Int)}
theorem LsAt.nil_ (w : World) (base : Nat) : LsAt w base (.slice none 0 0) [] [] := ⟨⟨rfl, .inl ⟨rfl, rfl⟩⟩, rfl, by simp, by simp⟩
theorem LsAt.low (h : LsAt w base v Q R) (hb : Below w.heap.size w w') : LsAt w' base v Q R :=
  ⟨own_below h.own hb, h.len, fun i u r h1 h2 => own_below (h.rows i u r h1 h2) hb, h.ne⟩
/-- What is written elsewhere. -/
theorem LsAt.grown {row : Option Nat} (h : LsAt w base v Q R) (hg : w.grownBy w' row) (h1 : v.ownBlock = none ∨ v.ownBlock ≠ row) (h2 : ∀ u ∈ Q, u.ownBlock = none ∨ u.ownBlock ≠ row) : LsAt w' base v Q R :=
  ⟨h.own.kept hg h1, h.len, fun i u r hi hr => (h.rows i u r hi hr).kept hg (h2 u (List.mem_of_getElem? hi)), h.ne⟩
theorem LsAt.addNil (h : LsAt w base v Q R) {v' : Value} (hg : w.grownBy w' v.ownBlock) (ho : w'.ownsRow base 22 1 v' (Q.length + 1) (Q ++ [.slice none 0 0])) : LsAt w' base v' (Q ++ [.slice none 0 0]) (R ++ [[]]) := by
  refine ⟨by simpa using ho, by simp [h.len], fun i u r hi hr => ?_, fun i j u u' hij hi hj => ?_⟩
  · by_cases hlt : i < Q.length
    · rw [List.getElem?_append_left hlt] at hi
      rw [List.getElem?_append_left (by rw [← h.len]; exact hlt)] at hr
      exact (h.rows i u r hi hr).kept hg (typ_ne (h.rows i u r hi hr) h.own (by decide))
    · have hl := (List.getElem?_eq_some_iff.1 hi).1
      simp at hl
      obtain rfl : i = Q.length := by omega
      rw [List.getElem?_append_right (Nat.le_refl _), Nat.sub_self] at hi
      rw [h.len, List.getElem?_append_right (Nat.le_refl _), Nat.sub_self] at hr
      simp at hi hr
      subst hi hr
      exact ⟨rfl, .inl ⟨rfl, rfl⟩⟩
  · by_cases hi' : i < Q.length
    · rw [List.getElem?_append_left hi'] at hi
      by_cases hj' : j < Q.length
      · rw [List.getElem?_append_left hj'] at hj
        exact h.ne i j u u' hij hi hj
      · have hl := (List.getElem?_eq_some_iff.1 hj).1
        simp at hl
        obtain rfl : j = Q.length := by omega
        rw [List.getElem?_append_right (Nat.le_refl _), Nat.sub_self] at hj
        simp at hj
        subst hj
        rcases hu : u.ownBlock with _ | x
        · exact .inl rfl
        · exact .inr (by simp [Value.ownBlock])
    · have hl := (List.getElem?_eq_some_iff.1 hi).1
      simp at hl
      obtain rfl : i = Q.length := by omega
      rw [List.getElem?_append_right (Nat.le_refl _), Nat.sub_self] at hi
      simp at hi
      subst hi
      exact .inl rfl
/-- A row of it, appended to and written back. -/
theorem LsAt.put {g n c i m : Nat} {u u' : Value} {r ys : List Int} (h : LsAt w base (.slice (some ⟨g, 0, none⟩) n c) Q R) (hn : n = Q.length) (hi : Q[i]? = some u) (hr : R[i]? = some r) (hg : w.grownBy w' u.ownBlock) (hm : m = r.length + ys.length) (ho : w'.ownsRow base 3 1 u' m ((r ++ ys).map (Value.int .i64))) (hat : u'.ownBlock = u.ownBlock ∨ u'.ownBlock = some w.heap.size) :
    LsAt (w'.setCell ⟨g, i, none⟩ u') base (.slice (some ⟨g, 0, none⟩) n c) (Q.set i u') (R.set i (r ++ ys)) := by
  subst hn
  have hown' := h.own.kept hg (typ_ne h.own (h.rows i u r hi hr) (by decide))
  have hil := (List.getElem?_eq_some_iff.1 hi).1
  have hrl : i < R.length := by rw [← h.len]; exact hil
  have ho' : w'.ownsRow base 3 1 u' (r ++ ys).length ((r ++ ys).map (Value.int .i64)) := by rw [List.length_append, ← hm]; exact ho
  have far : ∀ {z : Value} {k : Nat} {xs : List Value}, w'.ownsRow base 3 1 z k xs → (w'.setCell ⟨g, i, none⟩ u').ownsRow base 3 1 z k xs := fun hz => own_set_far hz (by
    rcases typ_ne hz hown' (by decide) with e | e
    · rw [e]; simp
    · exact e)
  refine ⟨?_, by simp [h.len], fun j z s hj hs => ?_, fun a b y z hab ha hb => ?_⟩
  · have := (hown'.stored i u').1
    rw [List.length_set]
    exact this
  · by_cases e : j = i
    · subst e
      rw [List.getElem?_set_self hil] at hj
      rw [List.getElem?_set_self hrl] at hs
      obtain rfl := Option.some.inj hj
      obtain rfl := Option.some.inj hs
      exact far ho'
    · rw [List.getElem?_set_ne (fun h => e h.symm)] at hj hs
      exact far ((h.rows j z s hj hs).kept hg (h.ne j i z u e hj hi))
  · have fresh : ∀ (j : Nat) (z : Value), Q[j]? = some z → z.ownBlock ≠ some w.heap.size := fun j z hj e => by
      obtain ⟨s, hs⟩ : ∃ s, R[j]? = some s := ⟨_, List.getElem?_eq_getElem (by rw [← h.len]; exact (List.getElem?_eq_some_iff.1 hj).1)⟩
      have := ((h.rows j z s hj hs).lt _ e).2
      omega
    by_cases ea : a = i
    · subst ea
      rw [List.getElem?_set_self hil] at ha
      obtain rfl := Option.some.inj ha
      rw [List.getElem?_set_ne hab] at hb
      rcases hat with e | e
      · rw [e]; exact h.ne a b u z hab hi hb
      · right; rw [e]; exact fun e' => fresh b z hb e'.symm
    · rw [List.getElem?_set_ne (fun h => ea h.symm)] at ha
      by_cases eb : b = i
      · subst eb
        rw [List.getElem?_set_self hil] at hb
        obtain rfl := Option.some.inj hb
        rcases hat with e | e
        · rw [e]; exact h.ne a b y u hab ha hi
        · right; rw [e]; exact fresh a y ha
      · rw [List.getElem?_set_ne (fun h => eb h.symm)] at hb
        exact h.ne a b y z hab ha hb
/-- One row, as it reads. -/
theorem LsAt.row {A : Option Addr} {n c : Nat} (h : LsAt w base (.slice A n c) Q R) (hn : n = Q.length) {i : Nat} {r : List Int} (hr : R[i]? = some r) : ∃ g V k, A = some ⟨g, 0, none⟩ ∧ base ≤ g ∧ w.cell? ⟨g, i, none⟩ = some (.slice V r.length k) ∧ w.frozen? ⟨g, i, none⟩ = false ∧ r.length ≤ k ∧ Q[i]? = some (.slice V r.length k) ∧ w.ownsRow base 3 1 (.slice V r.length k) r.length (r.map (Value.int .i64)) ∧ g < w.heap.size := by
  subst hn
  have hil := (List.getElem?_eq_some_iff.1 hr).1
  obtain ⟨u, hu⟩ : ∃ u, Q[i]? = some u := ⟨_, List.getElem?_eq_getElem (by rw [h.len]; exact hil)⟩
  have ho := h.rows i u r hu hr
  obtain ⟨V, k, rfl, hk⟩ := own_form ho
  obtain ⟨g, c', hv, _, hlt, hb, hcell⟩ := own_at h.own (by rw [h.len]; omega)
  injection hv with e1 _ e2
  subst e1 e2
  exact ⟨g, V, k, rfl, hb, hcell i _ hu, (own_slot h.own (by rw [h.len]; omega)).2, hk, hu, ho, hlt⟩
end
end Go.Proofs.YtpddjojgcenlkaaGreat
/- Whether spans are parts, as plain mathematics. -/
namespace Go.Proofs.YtpddjojgcenlkaaGreat
open Go.RowKit
/-- Whether spans are parts from 'end_' on to n. -/
def partsFrom : Int → List Sp → Int → Bool
  | e, [], n => e == n
  | e, s :: l, n => rightB s && (s.1 == e) && partsFrom s.2 l n
def partsS (l : List Sp) (n : Int) : Bool := partsFrom 0 l n
theorem partsFrom_no {e n : Int} {l : List Sp} {s : Sp} (h : rightB s = false ∨ (s.1 == e) = false) : partsFrom e (s :: l) n = false := by
  unfold partsFrom
  rcases h with h | h <;> simp [h]
theorem partsFrom_yes {e n : Int} {l : List Sp} {s : Sp} (h : rightB s = true) (h' : (s.1 == e) = true) : partsFrom e (s :: l) n = partsFrom s.2 l n := by
  show (rightB s && (s.1 == e) && partsFrom s.2 l n) = _
  rw [h, h']; rfl
theorem dropCons {α : Type} {l : List α} {k : Nat} {x : α} (h : l[k]? = some x) : l.drop k = x :: l.drop (k + 1) := by
  obtain ⟨hk, rfl⟩ := List.getElem?_eq_some_iff.1 h
  exact List.drop_eq_getElem_cons hk
end Go.Proofs.YtpddjojgcenlkaaGreat
/- Ranges of codes as data: the cells of a slice of ranges; which may be; the value of a code. -/
namespace Go.Proofs.YtpddjojgcenlkaaGreat
open Go.RowKit

/-- A range: Lo, Hi, Value. -/
abbrev Rg := Int × Int × Int
def encG (r : Rg) : List Value := [.int .i64 r.1, .int .i64 r.2.1, .int .i64 r.2.2]
def cellsG (l : List Rg) : List Value := l.flatMap encG
theorem cellsG_snoc (l : List Rg) (r : Rg) : cellsG (l ++ [r]) = cellsG l ++ [.int .i64 r.1, .int .i64 r.2.1, .int .i64 r.2.2] := by simp [cellsG, encG]
theorem cellsG_len (l : List Rg) : (cellsG l).length = l.length * 3 := by
  induction l with
  | nil => rfl
  | cons s l ih =>
    show (encG s ++ cellsG l).length = _
    rw [List.length_append, ih, List.length_cons]
    simp only [encG, List.length_cons, List.length_nil]
    omega
theorem cellsG_at {l : List Rg} {k : Nat} {s : Rg} (h : l[k]? = some s) : (cellsG l)[k * 3]? = some (.int .i64 s.1) ∧ (cellsG l)[k * 3 + 1]? = some (.int .i64 s.2.1) ∧ (cellsG l)[k * 3 + 2]? = some (.int .i64 s.2.2) := by
  induction l generalizing k with
  | nil => simp at h
  | cons t l ih =>
    have hc : cellsG (t :: l) = .int .i64 t.1 :: .int .i64 t.2.1 :: .int .i64 t.2.2 :: cellsG l := rfl
    cases k with
    | zero =>
      simp at h
      subst h
      exact ⟨rfl, rfl, rfl⟩
    | succ k =>
      have := ih (k := k) (by simpa using h)
      rw [hc]
      have e0 : (k + 1) * 3 = k * 3 + 1 + 1 + 1 := by omega
      have e1 : (k + 1) * 3 + 1 = (k * 3 + 1) + 1 + 1 + 1 := by omega
      have e2 : (k + 1) * 3 + 2 = (k * 3 + 2) + 1 + 1 + 1 := by omega
      rw [e2, e1, e0]
      simpa using this
/-- The three cells of a range in a slice, as the walk spells them. -/
theorem Rd.rg {w : World} {A : Option Addr} {n k : Nat} {l : List Rg} {s : Rg} (hr : Rd w 3 A n (cellsG l)) (h : l[k]? = some s) : ∃ ad, A = some ad ∧ ad.block < w.heap.size ∧ w.cell? (ad.add (k * 3)) = some (.int .i64 s.1) ∧
    w.cell? ⟨(ad.add (k * 3)).block, (ad.add (k * 3)).off + 1, none⟩ = some (.int .i64 s.2.1) ∧ w.cell? ⟨(ad.add (k * 3)).block, (ad.add (k * 3)).off + 2, none⟩ = some (.int .i64 s.2.2) := by
  have hlen : l.length * 3 = n * 3 := by rw [← cellsG_len]; exact hr.1
  have hk := (List.getElem?_eq_some_iff.1 h).1
  obtain ⟨ad, rfl, hb, hc⟩ := hr.2 (by omega)
  obtain ⟨e0, e1, e2⟩ := cellsG_at h
  have h1 := hc _ _ e1
  have h2 := hc _ _ e2
  rw [addNext ad (k * 3) 0] at h1
  rw [addNext ad (k * 3) 1] at h2
  exact ⟨ad, rfl, hb, hc _ _ e0, h1, h2⟩
theorem Rd.lenG {w : World} {A : Option Addr} {n : Nat} {l : List Rg} (hr : Rd w 3 A n (cellsG l)) : l.length = n := by
  have := hr.1
  rw [cellsG_len] at this
  omega

/-- Whether ranges rise behind 'last'. -/
def riseB (last : Int) : List Rg → Bool
  | [] => true
  | r :: l => if r.1 ≤ last ∨ r.2.1 < r.1 ∨ 1114111 < r.2.1 then false else riseB r.2.1 l
theorem riseB_no {last : Int} {l : List Rg} {r : Rg} (h : r.1 ≤ last ∨ r.2.1 < r.1 ∨ 1114111 < r.2.1) : riseB last (r :: l) = false := if_pos h
theorem riseB_yes {last : Int} {l : List Rg} {r : Rg} (h : ¬ (r.1 ≤ last ∨ r.2.1 < r.1 ∨ 1114111 < r.2.1)) : riseB last (r :: l) = riseB r.2.1 l := if_neg h
/-- The value of a code: the first range's that has it. -/
def getG (l : List Rg) (none_ c : Int) : Int :=
  match l with
  | [] => none_
  | r :: l => if r.1 ≤ c ∧ c ≤ r.2.1 then r.2.2 else getG l none_ c
/-- What Build tells of ranges. -/
def errG (l : List Rg) : Int := if 4096 < l.length then 6 else if riseB (-1) l = true then 0 else 10
end Go.Proofs.YtpddjojgcenlkaaGreat
/- The given ranges of classes and of joining, as lists. -/
namespace Go.Proofs.YtpddjojgcenlkaaGreat

def bidiL : List Rg := [(0, 8, 9), (9, 9, 11), (10, 10, 10), (11, 11, 11), (12, 12, 12), (13, 13, 10), (14, 27, 9), (28, 30, 10), (31, 31, 11), (32, 32, 12), (33, 34, 13), (35, 37, 5), (38, 42, 13), (43, 43, 4), (44, 44, 7), (45, 45, 4), (46, 47, 7), (48, 57, 3), (58, 58, 7), (59, 64, 13), (91, 96, 13), (123, 126, 13), (127, 132, 9), (133, 133, 10), (134, 159, 9), (160, 160, 7), (161, 161, 13), (162, 165, 5), (166, 169, 13), (171, 172, 13), (173, 173, 9), (174, 175, 13), (176, 177, 5), (178, 179, 3), (180, 180, 13), (182, 184, 13), (185, 185, 3), (187, 191, 13), (215, 215, 13), (247, 247, 13), (697, 698, 13), (706, 719, 13), (722, 735, 13), (768, 879, 8), (1424, 1424, 1), (1425, 1469, 8), (1470, 1470, 1), (1471, 1471, 8), (1472, 1472, 1), (1473, 1474, 8), (1475, 1475, 1), (1476, 1477, 8), (1478, 1478, 1), (1479, 1479, 8), (1480, 1535, 1), (1536, 1541, 6), (1542, 1543, 13), (1544, 1544, 2), (1545, 1546, 5), (1547, 1547, 2), (1548, 1548, 7), (1549, 1549, 2), (1550, 1551, 13), (1552, 1562, 8), (1563, 1610, 2), (1611, 1631, 8), (1632, 1641, 6), (1642, 1642, 5), (1643, 1644, 6), (1645, 1647, 2), (1648, 1648, 8), (1649, 1749, 2), (1750, 1756, 8), (1757, 1757, 6), (1758, 1758, 13), (1759, 1764, 8), (1765, 1766, 2), (1767, 1768, 8), (1769, 1769, 13), (1770, 1773, 8), (1774, 1775, 2), (1776, 1785, 3), (1786, 1808, 2), (1809, 1809, 8), (1810, 1839, 2), (1840, 1866, 8), (1867, 1957, 2), (1958, 1968, 8), (1969, 1983, 2), (1984, 2026, 1), (2027, 2035, 8), (2036, 2037, 1), (2038, 2041, 13), (2042, 2044, 1), (2045, 2045, 8), (2046, 2069, 1), (2070, 2073, 8), (2074, 2074, 1), (2075, 2083, 8), (2084, 2084, 1), (2085, 2087, 8), (2088, 2088, 1), (2089, 2093, 8), (2094, 2136, 1), (2137, 2139, 8), (2140, 2143, 1), (2144, 2191, 2), (2192, 2193, 6), (2194, 2199, 2), (2200, 2207, 8), (2208, 2249, 2), (2250, 2273, 8), (2274, 2274, 6), (2275, 2306, 8), (8192, 8202, 12), (8203, 8205, 9), (8207, 8207, 1), (8208, 8231, 13), (8232, 8232, 12), (8233, 8233, 10), (8234, 8234, 14), (8235, 8235, 16), (8236, 8236, 18), (8237, 8237, 15), (8238, 8238, 17), (8239, 8239, 7), (8240, 8244, 5), (8245, 8259, 13), (8260, 8260, 7), (8261, 8286, 13), (8287, 8287, 12), (8288, 8293, 9), (8294, 8294, 19), (8295, 8295, 20), (8296, 8296, 21), (8297, 8297, 22), (8298, 8303, 9), (8304, 8304, 3), (8308, 8313, 3), (8314, 8315, 4), (8316, 8318, 13), (8320, 8329, 3), (8330, 8331, 4), (8332, 8334, 13), (8352, 8399, 5), (8400, 8432, 8), (8592, 8721, 13), (8722, 8722, 4), (8723, 8723, 5), (8724, 9013, 13), (9083, 9108, 13), (9110, 9254, 13), (9280, 9290, 13), (9312, 9351, 13), (9352, 9371, 3), (9450, 9899, 13), (9901, 10239, 13), (10496, 11123, 13), (11776, 11869, 13), (12288, 12288, 12), (12289, 12292, 13), (12296, 12320, 13), (12330, 12333, 8), (12336, 12336, 13), (64285, 64285, 1), (64286, 64286, 8), (64287, 64296, 1), (64297, 64297, 4), (64298, 64335, 1), (64336, 64829, 2), (64830, 64847, 13), (64848, 64974, 2), (64975, 64975, 13), (64976, 65007, 9), (65008, 65020, 2), (65021, 65023, 13), (65024, 65039, 8), (65040, 65049, 13), (65056, 65071, 8), (65072, 65103, 13), (65104, 65104, 7), (65105, 65105, 13), (65106, 65106, 7), (65108, 65108, 13), (65109, 65109, 7), (65110, 65118, 13), (65119, 65119, 5), (65120, 65121, 13), (65122, 65123, 4), (65124, 65126, 13), (65128, 65128, 13), (65129, 65130, 5), (65131, 65131, 13), (65136, 65278, 2), (65279, 65279, 9), (65281, 65282, 13), (65283, 65285, 5), (65286, 65290, 13), (65291, 65291, 4), (65292, 65292, 7), (65293, 65293, 4), (65294, 65295, 7), (65296, 65305, 3), (65306, 65306, 7), (65307, 65312, 13), (65339, 65344, 13), (65371, 65381, 13), (65504, 65505, 5), (65506, 65508, 13), (65509, 65510, 5), (65520, 65528, 9), (65529, 65533, 13), (65534, 65535, 9), (67584, 68863, 1), (68864, 68927, 2), (68928, 69631, 1), (120782, 120831, 3), (124928, 126063, 1), (126064, 126143, 2), (126144, 126207, 1), (126208, 126287, 2), (126288, 126463, 1), (126464, 126719, 2), (126720, 126975, 1), (126976, 127231, 13), (127232, 127242, 3), (127744, 128727, 13), (917504, 917759, 9), (917760, 917999, 8), (918000, 921599, 9)]
def joinL : List Rg := [(768, 879, 1), (1155, 1161, 1), (1425, 1469, 1), (1471, 1471, 1), (1473, 1474, 1), (1476, 1477, 1), (1479, 1479, 1), (1552, 1562, 1), (1564, 1564, 1), (1568, 1568, 3), (1570, 1573, 2), (1574, 1574, 3), (1575, 1575, 2), (1576, 1576, 3), (1577, 1577, 2), (1578, 1582, 3), (1583, 1586, 2), (1587, 1599, 3), (1600, 1600, 5), (1601, 1607, 3), (1608, 1608, 2), (1609, 1610, 3), (1611, 1631, 1), (1646, 1647, 3), (1648, 1648, 1), (1649, 1651, 2), (1653, 1655, 2), (1656, 1671, 3), (1672, 1689, 2), (1690, 1727, 3), (1728, 1728, 2), (1729, 1730, 3), (1731, 1739, 2), (1740, 1740, 3), (1741, 1741, 2), (1742, 1742, 3), (1743, 1743, 2), (1744, 1745, 3), (1746, 1747, 2), (1749, 1749, 2), (1750, 1756, 1), (1759, 1764, 1), (1767, 1768, 1), (1770, 1773, 1), (1774, 1775, 2), (1786, 1788, 3), (1791, 1791, 3), (1840, 1866, 1), (1958, 1968, 1), (1994, 2026, 3), (2027, 2035, 1), (2042, 2042, 5), (2200, 2207, 1), (2250, 2273, 1), (2275, 2306, 1), (8203, 8203, 1), (8205, 8205, 5), (8206, 8207, 1), (8234, 8238, 1), (8288, 8292, 1), (8298, 8303, 1), (8400, 8432, 1), (43072, 43121, 3), (43122, 43122, 4), (65024, 65039, 1), (65056, 65071, 1), (65279, 65279, 1), (917760, 917999, 1)]
end Go.Proofs.YtpddjojgcenlkaaGreat
/- What codes are, as functions of the given ranges. -/
namespace Go.Proofs.YtpddjojgcenlkaaGreat
open Go.RowKit
def classF (c : Int) : Int := if 0 ≤ c ∧ c ≤ 1114111 then getG bidiL 0 c else 13
def joinF (c : Int) : Int := getG joinL 0 c
end Go.Proofs.YtpddjojgcenlkaaGreat
/- Paragraphs as plain mathematics: where they end, which places go together, the first strong class, the level. No function of the program. -/
namespace Go.Proofs.YtpddjojgcenlkaaGreat
open Go.RowKit

/-- Whether a paragraph ends behind place k. -/
def endB (xs : List Int) (k : Nat) : Bool := decide (xs[k]?.map classF = some 10) && !(decide (xs[k]? = some 13) && decide (xs[k + 1]? = some 10))
/-- The paragraphs up to place k, and where the next one begins. -/
def parA (xs : List Int) : Nat → List Sp × Int
  | 0 => ([], 0)
  | k + 1 => if k + 1 = xs.length ∨ endB xs k = true then ((parA xs k).1 ++ [((parA xs k).2, (k : Int) + 1)], (k : Int) + 1) else parA xs k
def parL (xs : List Int) : List Sp := (parA xs xs.length).1
theorem parA_len (xs : List Int) (k : Nat) : (parA xs k).1.length ≤ k ∧ 0 ≤ (parA xs k).2 ∧ (parA xs k).2 ≤ k := by
  induction k with
  | zero => simp [parA]
  | succ k ih =>
    rw [parA]
    split
    · simp; omega
    · omega
theorem partsFrom_snoc (l : List Sp) (e : Int) (s : Sp) (n m : Int) (h : partsFrom e l m = true) (hs : s.1 = m) (hn : s.2 = n) (hr : rightB s = true) : partsFrom e (l ++ [s]) n = true := by
  induction l generalizing e with
  | nil =>
    simp only [partsFrom, beq_iff_eq] at h
    subst h
    simp [partsFrom, hr, hs, hn]
  | cons t l ih =>
    simp only [partsFrom, Bool.and_eq_true, List.cons_append] at h ⊢
    exact ⟨h.1, ih _ h.2⟩
theorem parA_parts (xs : List Int) (k : Nat) : partsFrom 0 (parA xs k).1 (parA xs k).2 = true := by
  induction k with
  | zero => rfl
  | succ k ih =>
    have h9 := parA_len xs k
    rw [parA]
    split
    · exact partsFrom_snoc _ _ _ _ _ ih rfl rfl (by simp [rightB]; omega)
    · exact ih
theorem parL_parts (xs : List Int) : partsS (parL xs) xs.length = true := by
  have h := parA_parts xs xs.length
  unfold partsS parL
  have he : (parA xs xs.length).2 = xs.length := by
    rcases hn : xs.length with _ | n
    · rfl
    · rw [parA, if_pos (.inl hn.symm)]
      simp
  rwa [he] at h

/-- Whether a class begins what stands apart. -/
def opB (c : Int) : Bool := decide (19 ≤ c) && decide (c ≤ 21)
theorem opB_iff (c : Int) : opB c = true ↔ c = 19 ∨ c = 20 ∨ c = 21 := by simp [opB]; omega
/-- How far behind the place is that ends what stands apart, from so deep on. -/
def clo : List Int → Nat → Option Nat
  | [], _ => none
  | c :: l, d => if opB c = true then (clo l (d + 1)).map (· + 1) else if c = 22 then (if d = 0 then some 0 else (clo l (d - 1)).map (· + 1)) else (clo l d).map (· + 1)
/-- The place that ends it, read on from place k; or how many places there are. -/
def ansF (xs : List Int) (k d : Nat) : Nat := match clo (xs.drop k) d with | some j => k + j | none => xs.length
theorem clo_lt {l : List Int} {d j : Nat} (h : clo l d = some j) : j < l.length := by
  induction l generalizing d j with
  | nil => simp [clo] at h
  | cons c l ih =>
    rw [clo] at h
    split at h
    · simp only [Option.map_eq_some_iff] at h
      obtain ⟨a, ha, rfl⟩ := h
      have := ih ha
      simp; omega
    · split at h
      · split at h
        · simp at h; subst h; simp
        · simp only [Option.map_eq_some_iff] at h
          obtain ⟨a, ha, rfl⟩ := h
          have := ih ha
          simp; omega
      · simp only [Option.map_eq_some_iff] at h
        obtain ⟨a, ha, rfl⟩ := h
        have := ih ha
        simp; omega
theorem clo_pdi {l : List Int} {d j : Nat} (h : clo l d = some j) : l[j]? = some 22 := by
  induction l generalizing d j with
  | nil => simp [clo] at h
  | cons c l ih =>
    rw [clo] at h
    split at h
    · simp only [Option.map_eq_some_iff] at h
      obtain ⟨a, ha, rfl⟩ := h
      simpa using ih ha
    · split at h
      · rename_i hc
        split at h
        · simp at h; subst h; simp [hc]
        · simp only [Option.map_eq_some_iff] at h
          obtain ⟨a, ha, rfl⟩ := h
          simpa using ih ha
      · simp only [Option.map_eq_some_iff] at h
        obtain ⟨a, ha, rfl⟩ := h
        simpa using ih ha
theorem ansF_le (xs : List Int) (k d : Nat) : ansF xs k d ≤ xs.length := by
  unfold ansF
  split
  · rename_i j h
    have := clo_lt h
    simp at this
    omega
  · exact Nat.le_refl _
theorem ansF_ge (xs : List Int) (k d : Nat) (hk : k ≤ xs.length) : k ≤ ansF xs k d := by
  unfold ansF
  split
  · omega
  · exact hk
theorem ansF_end (xs : List Int) (d : Nat) : ansF xs xs.length d = xs.length := by
  unfold ansF
  simp [clo]
theorem ansF_pdi (xs : List Int) (k d : Nat) (h : ansF xs k d < xs.length) : xs[ansF xs k d]? = some 22 := by
  unfold ansF at h ⊢
  split
  · rename_i j hj
    have := clo_pdi hj
    rwa [List.getElem?_drop] at this
  · rename_i hj
    rw [hj] at h
    simp at h
theorem ansF_map {xs : List Int} {k d e : Nat} {c : Int} (_hd : xs.drop k = c :: xs.drop (k + 1)) (h : clo (xs.drop k) d = (clo (xs.drop (k + 1)) e).map (· + 1)) : ansF xs k d = ansF xs (k + 1) e := by
  unfold ansF
  rw [h]
  cases clo (xs.drop (k + 1)) e with
  | none => rfl
  | some j => simp; omega
theorem ansF_open {xs : List Int} {k : Nat} {c : Int} (d : Nat) (h : xs[k]? = some c) (ho : opB c = true) : ansF xs k d = ansF xs (k + 1) (d + 1) :=
  ansF_map (dropCons h) (by rw [dropCons h, clo, if_pos ho])
theorem ansF_shut {xs : List Int} {k : Nat} (d : Nat) (h : xs[k]? = some 22) : ansF xs k (d + 1) = ansF xs (k + 1) d :=
  ansF_map (dropCons h) (by rw [dropCons h, clo, if_neg (by decide), if_pos rfl, if_neg (by omega)]; rfl)
theorem ansF_here {xs : List Int} {k : Nat} (h : xs[k]? = some 22) : ansF xs k 0 = k := by
  unfold ansF
  rw [dropCons h, clo, if_neg (by decide), if_pos rfl, if_pos rfl]
  rfl
theorem ansF_pass {xs : List Int} {k : Nat} {c : Int} (d : Nat) (h : xs[k]? = some c) (ho : opB c = false) (h2 : c ≠ 22) : ansF xs k d = ansF xs (k + 1) d :=
  ansF_map (dropCons h) (by rw [dropCons h, clo, if_neg (by rw [ho]; decide), if_neg h2])

/-- The program's steps: what goes together so far, and the places that are open, the last one first. -/
def pmS (xs : List Int) : Nat → List Int × List Nat
  | 0 => (List.replicate xs.length 0, [])
  | k + 1 =>
    let s := pmS xs k
    let m := s.1.set k (-1)
    match xs[k]? with
    | none => s
    | some c => if opB c = true then (m.set k xs.length, k :: s.2) else if c = 22 then (match s.2 with | [] => (m, []) | t :: r => ((m.set k t).set t k, r)) else (m, s.2)
/-- The reference's steps. -/
def rmS (xs : List Int) : Nat → List Int
  | 0 => List.replicate xs.length (-1)
  | k + 1 => if xs[k]?.map opB = some true then (let m := (rmS xs k).set k (ansF xs (k + 1) 0); if ansF xs (k + 1) 0 < xs.length then m.set (ansF xs (k + 1) 0) k else m) else rmS xs k
def matF (xs : List Int) : List Int := (pmS xs xs.length).1
def OpAt (xs : List Int) (i : Nat) : Prop := xs[i]?.map opB = some true
/-- What the whole answer is. -/
structure Good (xs m : List Int) : Prop where
  len : m.length = xs.length
  op : ∀ i, OpAt xs i → m[i]? = some ((ansF xs (i + 1) 0 : Nat) : Int)
  shut : ∀ i, OpAt xs i → ansF xs (i + 1) 0 < xs.length → m[ansF xs (i + 1) 0]? = some (i : Int)
  else_ : ∀ j < xs.length, ¬ OpAt xs j → m[j]? = some (-1) ∨ ∃ i, OpAt xs i ∧ ansF xs (i + 1) 0 = j
theorem Good.same {xs m m' : List Int} (h : Good xs m) (h' : Good xs m') : m = m' := by
  apply List.ext_getElem?
  intro j
  rcases Nat.lt_or_ge j xs.length with hj | hj
  · by_cases ho : OpAt xs j
    · rw [h.op j ho, h'.op j ho]
    · rcases h.else_ j hj ho with e | ⟨i, hi, e⟩
      · rcases h'.else_ j hj ho with e' | ⟨i, hi, e'⟩
        · rw [e, e']
        · subst e'
          rw [h.shut i hi hj, h'.shut i hi hj]
      · subst e
        rw [h.shut i hi hj, h'.shut i hi hj]
  · rw [List.getElem?_eq_none (by rw [h.len]; exact hj), List.getElem?_eq_none (by rw [h'.len]; exact hj)]
/-- What holds at each turn of the program. -/
structure PmI (xs : List Int) (k : Nat) (m : List Int) (S : List Nat) : Prop where
  len : m.length = xs.length
  st : ∀ t i, S[t]? = some i → i < k ∧ OpAt xs i ∧ ansF xs (i + 1) 0 = ansF xs k t ∧ m[i]? = some (xs.length : Int)
  op : ∀ i < k, OpAt xs i → i ∈ S ∨ (ansF xs (i + 1) 0 < k ∧ m[i]? = some ((ansF xs (i + 1) 0 : Nat) : Int) ∧ m[ansF xs (i + 1) 0]? = some (i : Int))
  else_ : ∀ j < k, ¬ OpAt xs j → m[j]? = some (-1) ∨ ∃ i, OpAt xs i ∧ ansF xs (i + 1) 0 = j
theorem set_ne {l : List Int} {i j : Nat} {x : Int} (h : i ≠ j) : (l.set i x)[j]? = l[j]? := List.getElem?_set_ne h
theorem set_eq {l : List Int} {i : Nat} {x : Int} (h : i < l.length) : (l.set i x)[i]? = some x := List.getElem?_set_self h
theorem opAt_of {xs : List Int} {k : Nat} {c : Int} (h : xs[k]? = some c) : OpAt xs k ↔ opB c = true := by
  unfold OpAt
  rw [h]
  simp
theorem pmI_all (xs : List Int) (k : Nat) (hk : k ≤ xs.length) : PmI xs k (pmS xs k).1 (pmS xs k).2 := by
  induction k with
  | zero => exact ⟨by simp [pmS], by simp [pmS], fun i h => absurd h (by omega), fun i h => absurd h (by omega)⟩
  | succ k ih =>
    have ih := ih (by omega)
    obtain ⟨c, hc⟩ : ∃ c, xs[k]? = some c := ⟨_, List.getElem?_eq_getElem (by omega)⟩
    obtain ⟨m, S, hmS⟩ : ∃ m S, pmS xs k = (m, S) := ⟨_, _, rfl⟩
    rw [hmS] at ih
    simp only at ih
    have hle : ∀ i, i ∈ S → i < k := fun i hi => by
      obtain ⟨t, ht⟩ := List.getElem?_of_mem hi
      exact (ih.st t i ht).1
    rw [pmS]
    simp only [hmS, hc]
    by_cases ho : opB c = true
    · rw [if_pos ho]
      have hoA := (opAt_of hc).2 ho
      refine ⟨by simp [ih.len], fun t i ht => ?_, fun i hi hoi => ?_, fun j hj hoj => ?_⟩
      · cases t with
        | zero =>
          simp at ht
          subst ht
          exact ⟨by omega, hoA, rfl, set_eq (by simp [ih.len]; omega)⟩
        | succ t =>
          simp at ht
          obtain ⟨h1, h2, h3, h4⟩ := ih.st t i ht
          exact ⟨by omega, h2, h3.trans (ansF_open t hc ho), by rw [set_ne (by omega), set_ne (by omega)]; exact h4⟩
      · by_cases hik : i = k
        · subst hik; exact .inl (List.mem_cons_self ..)
        · rcases ih.op i (by omega) hoi with h | ⟨h1, h2, h3⟩
          · exact .inl (List.mem_cons_of_mem _ h)
          · exact .inr ⟨by omega, by rw [set_ne (by omega), set_ne (by omega)]; exact h2, by rw [set_ne (by omega), set_ne (by omega)]; exact h3⟩
      · by_cases hjk : j = k
        · subst hjk; exact absurd hoA hoj
        · rcases ih.else_ j (by omega) hoj with h | h
          · exact .inl (by rw [set_ne (by omega), set_ne (by omega)]; exact h)
          · exact .inr h
    · rw [if_neg ho]
      have hnA : ¬ OpAt xs k := fun h => ho ((opAt_of hc).1 h)
      by_cases h22 : c = 22
      · subst h22
        rw [if_pos rfl]
        cases S with
        | nil =>
          refine ⟨by simp [ih.len], by simp, fun i hi hoi => ?_, fun j hj hoj => ?_⟩
          · have hik : i ≠ k := by rintro rfl; exact hnA hoi
            rcases ih.op i (by omega) hoi with h | ⟨h1, h2, h3⟩
            · simp at h
            · exact .inr ⟨by omega, by rw [set_ne (by omega)]; exact h2, by rw [set_ne (by omega)]; exact h3⟩
          · by_cases hjk : j = k
            · subst hjk; exact .inl (set_eq (by rw [ih.len]; omega))
            · rcases ih.else_ j (by omega) hoj with h | h
              · exact .inl (by rw [set_ne (by omega)]; exact h)
              · exact .inr h
        | cons t r =>
          obtain ⟨g1, g2, g3, g4⟩ := ih.st 0 t rfl
          have hclo : ansF xs (t + 1) 0 = k := by rw [g3]; exact ansF_here hc
          have hnd : ∀ u i, r[u]? = some i → i ≠ t := fun u i hu e => by
            subst e
            have h5 := (ih.st (u + 1) i (by simpa using hu)).2.2.1
            have h6 : ansF xs k (u + 1) = ansF xs (k + 1) u := ansF_shut u hc
            have h7 := ansF_ge xs (k + 1) u (by omega)
            omega
          refine ⟨by simp [ih.len], fun u i hu => ?_, fun i hi hoi => ?_, fun j hj hoj => ?_⟩
          · obtain ⟨h1, h2, h3, h4⟩ := ih.st (u + 1) i (by simpa using hu)
            have := hnd u i hu
            exact ⟨by omega, h2, h3.trans (ansF_shut u hc), by rw [set_ne (by omega), set_ne (by omega), set_ne (by omega)]; exact h4⟩
          · have hik : i ≠ k := by rintro rfl; exact hnA hoi
            by_cases hit : i = t
            · subst hit
              exact .inr ⟨by omega, by rw [hclo]; exact set_eq (by simp [ih.len]; omega), by rw [hclo, set_ne (by omega)]; exact set_eq (by simp [ih.len]; omega)⟩
            · rcases ih.op i (by omega) hoi with h | ⟨h1, h2, h3⟩
              · simp [hit] at h
                exact .inl h
              · have hct : ansF xs (i + 1) 0 ≠ t := fun e => by
                  rw [e, g4] at h3
                  simp at h3
                  omega
                exact .inr ⟨by omega, by rw [set_ne (by omega), set_ne (by omega), set_ne (by omega)]; exact h2, by rw [set_ne (by omega), set_ne (by omega), set_ne (by omega)]; exact h3⟩
          · by_cases hjk : j = k
            · subst hjk; exact .inr ⟨t, g2, hclo⟩
            · have hjt : j ≠ t := by rintro rfl; exact hoj g2
              rcases ih.else_ j (by omega) hoj with h | h
              · exact .inl (by rw [set_ne (by omega), set_ne (by omega), set_ne (by omega)]; exact h)
              · exact .inr h
      · rw [if_neg h22]
        have ho' : opB c = false := by simpa using ho
        refine ⟨by simp [ih.len], fun u i hu => ?_, fun i hi hoi => ?_, fun j hj hoj => ?_⟩
        · obtain ⟨h1, h2, h3, h4⟩ := ih.st u i hu
          exact ⟨by omega, h2, h3.trans (ansF_pass u hc ho' h22), by rw [set_ne (by omega)]; exact h4⟩
        · have hik : i ≠ k := by rintro rfl; exact hnA hoi
          rcases ih.op i (by omega) hoi with h | ⟨h1, h2, h3⟩
          · exact .inl h
          · exact .inr ⟨by omega, by rw [set_ne (by omega)]; exact h2, by rw [set_ne (by omega)]; exact h3⟩
        · by_cases hjk : j = k
          · subst hjk; exact .inl (set_eq (by rw [ih.len]; omega))
          · rcases ih.else_ j (by omega) hoj with h | h
            · exact .inl (by rw [set_ne (by omega)]; exact h)
            · exact .inr h
theorem opAt_lt {xs : List Int} {i : Nat} (h : OpAt xs i) : i < xs.length := by
  unfold OpAt at h
  rcases Nat.lt_or_ge i xs.length with hi | hi
  · exact hi
  · rw [List.getElem?_eq_none hi] at h; simp at h
theorem matF_good (xs : List Int) : Good xs (matF xs) := by
  have h := pmI_all xs xs.length (Nat.le_refl _)
  unfold matF
  refine ⟨h.len, fun i hi => ?_, fun i hi hlt => ?_, h.else_⟩
  · rcases h.op i (opAt_lt hi) hi with g | ⟨_, g, _⟩
    · obtain ⟨t, ht⟩ := List.getElem?_of_mem g
      obtain ⟨_, _, g3, g4⟩ := h.st t i ht
      rw [ansF_end] at g3
      rw [g3, g4]
    · exact g
  · rcases h.op i (opAt_lt hi) hi with g | ⟨_, _, g⟩
    · obtain ⟨t, ht⟩ := List.getElem?_of_mem g
      obtain ⟨_, _, g3, g4⟩ := h.st t i ht
      rw [ansF_end] at g3
      omega
    · exact g
/-- What goes together goes together once. -/
theorem ansF_inj {xs : List Int} {i j : Nat} (hi : OpAt xs i) (hj : OpAt xs j) (h : ansF xs (i + 1) 0 = ansF xs (j + 1) 0) (hl : ansF xs (i + 1) 0 < xs.length) : i = j := by
  have h1 := (matF_good xs).shut i hi hl
  have h2 := (matF_good xs).shut j hj (by omega)
  rw [← h, h1] at h2
  simp at h2
  omega
theorem pdi_not {xs : List Int} {i : Nat} (hl : ansF xs (i + 1) 0 < xs.length) : ¬ OpAt xs (ansF xs (i + 1) 0) := fun h => by
  have h1 := ansF_pdi xs (i + 1) 0 hl
  rw [opAt_of h1] at h
  cases h
structure RmI (xs : List Int) (k : Nat) (m : List Int) : Prop where
  len : m.length = xs.length
  op : ∀ i < k, OpAt xs i → m[i]? = some ((ansF xs (i + 1) 0 : Nat) : Int) ∧ (ansF xs (i + 1) 0 < xs.length → m[ansF xs (i + 1) 0]? = some (i : Int))
  else_ : ∀ j < xs.length, ¬ OpAt xs j → m[j]? = some (-1) ∨ ∃ i, OpAt xs i ∧ ansF xs (i + 1) 0 = j
theorem rmI_all (xs : List Int) (k : Nat) (hk : k ≤ xs.length) : RmI xs k (rmS xs k) := by
  induction k with
  | zero => exact ⟨by simp [rmS], fun i h => absurd h (by omega), fun j hj _ => .inl (by rw [rmS, List.getElem?_replicate, if_pos hj])⟩
  | succ k ih =>
    have ih := ih (by omega)
    rw [rmS]
    by_cases ho : xs[k]?.map opB = some true
    · rw [if_pos ho]
      have hoA : OpAt xs k := ho
      by_cases hl : ansF xs (k + 1) 0 < xs.length
      · simp only [hl, if_true]
        have hn := pdi_not hl
        have hge := ansF_ge xs (k + 1) 0 (by omega)
        refine ⟨by simp [ih.len], fun i hi hoi => ?_, fun j hj hoj => ?_⟩
        · have h1 : ansF xs (k + 1) 0 ≠ i := by rintro rfl; exact hn hoi
          by_cases hik : i = k
          · subst hik
            exact ⟨by rw [set_ne h1, set_eq (by rw [ih.len]; omega)], fun _ => set_eq (by simp [ih.len]; omega)⟩
          · obtain ⟨g1, g2⟩ := ih.op i (by omega) hoi
            refine ⟨by rw [set_ne h1, set_ne (by omega)]; exact g1, fun hli => ?_⟩
            have h2 : ansF xs (k + 1) 0 ≠ ansF xs (i + 1) 0 := fun e => hik (ansF_inj hoi hoA e.symm hli)
            have h3 : k ≠ ansF xs (i + 1) 0 := by intro e; exact pdi_not hli (by rw [← e]; exact hoA)
            rw [set_ne h2, set_ne h3]
            exact g2 hli
        · by_cases hja : ansF xs (k + 1) 0 = j
          · exact .inr ⟨k, hoA, hja⟩
          · have hjk : k ≠ j := by rintro rfl; exact hoj hoA
            rcases ih.else_ j hj hoj with h | h
            · exact .inl (by rw [set_ne hja, set_ne hjk]; exact h)
            · exact .inr h
      · simp only [hl, if_false]
        refine ⟨by simp [ih.len], fun i hi hoi => ?_, fun j hj hoj => ?_⟩
        · by_cases hik : i = k
          · subst hik
            exact ⟨set_eq (by rw [ih.len]; omega), fun h => absurd h hl⟩
          · obtain ⟨g1, g2⟩ := ih.op i (by omega) hoi
            refine ⟨by rw [set_ne (by omega)]; exact g1, fun hli => ?_⟩
            have h3 : k ≠ ansF xs (i + 1) 0 := by intro e; exact pdi_not hli (by rw [← e]; exact hoA)
            rw [set_ne h3]
            exact g2 hli
        · have hjk : k ≠ j := by rintro rfl; exact hoj hoA
          rcases ih.else_ j hj hoj with h | h
          · exact .inl (by rw [set_ne hjk]; exact h)
          · exact .inr h
    · rw [if_neg ho]
      refine ⟨ih.len, fun i hi hoi => ?_, ih.else_⟩
      have hik : i ≠ k := by rintro rfl; exact ho hoi
      exact ih.op i (by omega) hoi
/-- Both come to the same. -/
theorem rm_pm (xs : List Int) : rmS xs xs.length = matF xs := by
  have h := rmI_all xs xs.length (Nat.le_refl _)
  have g : Good xs (rmS xs xs.length) := ⟨h.len, fun i hi => (h.op i (opAt_lt hi) hi).1, fun i hi hl => (h.op i (opAt_lt hi) hi).2 hl, h.else_⟩
  exact g.same (matF_good xs)
/-- What goes together goes both ways. -/
theorem mat_back {xs : List Int} {i k : Nat} (h : (matF xs)[i]? = some (k : Int)) (hk : k < xs.length) : (matF xs)[k]? = some (i : Int) := by
  have g := matF_good xs
  have hi : i < xs.length := by
    have := (List.getElem?_eq_some_iff.1 h).1
    rwa [g.len] at this
  by_cases ho : OpAt xs i
  · rw [g.op i ho] at h
    have e : ansF xs (i + 1) 0 = k := by simp at h; omega
    subst e
    exact g.shut i ho hk
  · rcases g.else_ i hi ho with e | ⟨j, hj, e⟩
    · rw [e] at h
      simp at h
    · subst e
      rw [g.shut j hj hi] at h
      have e : j = k := by simp at h; omega
      subst e
      exact g.op j hj
theorem pmS_len (xs : List Int) (k : Nat) : (pmS xs k).1.length = xs.length := by
  induction k with
  | zero => simp [pmS]
  | succ k ih =>
    rw [pmS]
    split
    · exact ih
    · repeat' split
      all_goals simp [ih]
theorem pmS_stack (xs : List Int) (k : Nat) : (pmS xs k).2.length ≤ k := by
  induction k with
  | zero => simp [pmS]
  | succ k ih =>
    rw [pmS]
    split
    · omega
    · repeat' split
      all_goals (rename_i hs; simp_all; try omega)

/-- The first strong class, from so deep on. -/
def fstF : List Int → Nat → Int
  | [], _ => -1
  | c :: l, d => if opB c = true then fstF l (d + 1) else if c = 22 then fstF l (d - 1) else if d = 0 then (if c = 0 then 0 else if c = 1 ∨ c = 2 then 1 else fstF l 0) else fstF l d
/-- What stands apart may be passed over at once. -/
theorem fst_clo (l : List Int) (d : Nat) : fstF l (d + 1) = match clo l d with | some j => fstF (l.drop (j + 1)) 0 | none => -1 := by
  induction l generalizing d with
  | nil => rfl
  | cons c l ih =>
    rw [fstF, clo]
    split
    · rw [ih (d + 1)]
      cases clo l (d + 1) <;> rfl
    · by_cases h22 : c = 22
      · rw [if_pos h22, if_pos h22]
        by_cases hd : d = 0
        · subst hd; rfl
        · rw [if_neg hd, show d + 1 - 1 = (d - 1) + 1 by omega, ih (d - 1)]
          cases clo l (d - 1) <;> rfl
      · rw [if_neg h22, if_neg h22, if_neg (by omega), ih d]
        cases clo l d <;> rfl
def spanOf (xs : List Int) (s : Sp) : List Int := if max s.1 0 < min (max s.2 0) xs.length then (xs.drop (max s.1 0).toNat).take ((min (max s.2 0) xs.length).toNat - (max s.1 0).toNat) else []
def firstF (xs : List Int) (s : Sp) : Int := fstF (spanOf xs s) 0
def levelF (xs : List Int) (d : Int) : Int :=
  if d = 1 then 1 else if d = 2 then (if fstF xs 0 = -1 then 0 else fstF xs 0) else if d = 3 then (if fstF xs 0 = -1 then 1 else fstF xs 0) else 0
theorem fst_val (l : List Int) (d : Nat) : fstF l d = -1 ∨ fstF l d = 0 ∨ fstF l d = 1 := by
  induction l generalizing d with
  | nil => exact .inl rfl
  | cons c l ih =>
    rw [fstF]
    split
    · exact ih _
    · split
      · exact ih _
      · split
        · split
          · exact .inr (.inl rfl)
          · split
            · exact .inr (.inr rfl)
            · exact ih 0
        · exact ih _
theorem spanOf_all (xs : List Int) : spanOf xs (0, xs.length) = xs := by
  unfold spanOf
  rcases Nat.eq_zero_or_pos xs.length with h | h
  · rw [if_neg (by simp [h])]
    exact (List.eq_nil_of_length_eq_zero h).symm
  · rw [if_pos (by simp; omega)]
    rw [show (max (0 : Int) 0).toNat = 0 from rfl, show (min (max (xs.length : Int) 0) xs.length).toNat = xs.length by omega]
    simp
/-- Codes ahead that are no strong ones and begin nothing change nothing. -/
def calm (c : Int) : Bool := !(decide (c = 0) || decide (c = 1) || decide (c = 2)) && !opB c
theorem fst_calm (l r : List Int) (h : ∀ c ∈ l, calm c = true) : fstF (l ++ r) 0 = fstF r 0 := by
  induction l with
  | nil => rfl
  | cons c l ih =>
    have hc := h c (List.mem_cons_self ..)
    simp only [calm, Bool.and_eq_true, Bool.not_eq_true', Bool.or_eq_false_iff, decide_eq_false_iff_not] at hc
    rw [List.cons_append, fstF, if_neg (by rw [hc.2]; decide)]
    split
    · exact ih (fun c hc => h c (List.mem_cons_of_mem _ hc))
    · rw [if_pos rfl, if_neg hc.1.1.1, if_neg (by omega)]
      exact ih (fun c hc => h c (List.mem_cons_of_mem _ hc))
theorem fst_lead (l r : List Int) (c : Int) (h : ∀ c ∈ l, calm c = true) (hc : c = 0 ∨ c = 1) : fstF (l ++ c :: r) 0 = c := by
  rw [fst_calm l _ h]
  rcases hc with rfl | rfl <;> rfl
end Go.Proofs.YtpddjojgcenlkaaGreat
/- A stack of levels as mathematics: what each call leaves, that what begins and ends leaves it as it was, that levels rise. No function of the program. -/
namespace Go.Proofs.YtpddjojgcenlkaaGreat
open Go.RowKit

/-- An entry of a stack: level, override, whether it isolates. -/
structure Ent where
  lv : Int
  ov : Int
  is : Bool
deriving DecidableEq
/-- A stack: its entries, the last one first, above the first one; isolates and embeddings too many; isolates that count. -/
structure Stk where
  bot : Ent
  R : List Ent
  a : Nat
  b : Nat
  c : Nat
deriving DecidableEq
namespace Stk
def top (s : Stk) : Ent := s.R.headD s.bot
def all (s : Stk) : List Ent := s.bot :: s.R.reverse
def len (s : Stk) : Nat := s.R.length + 1
end Stk
/-- The next odd, or even, number. -/
def nextN (n : Int) (r : Bool) : Int := if (decide ((n + 1) % 2 = 1) != r) = true then n + 2 else n + 1
def newS (level : Int) : Stk := ⟨⟨min (max level 0) 125, 13, false⟩, [], 0, 0, 0⟩
section
variable (s : Stk)
def nextS (r : Bool) : Int := nextN s.top.lv r
def roomS (r : Bool) : Bool := decide (nextS s r ≤ 125) && (decide (s.a = 0) && decide (s.b = 0))
def pushS (e : Ent) : Bool × Stk := if e.lv ≤ s.top.lv ∨ 125 < e.lv then (false, s) else (true, { s with R := e :: s.R })
def popS : Bool × Stk := if s.R = [] then (false, s) else (true, { s with R := s.R.tail })
def embS (r : Bool) (o : Int) : Bool × Stk := if roomS s r = true then pushS s ⟨nextS s r, o, false⟩ else (false, if s.a = 0 then { s with b := s.b + 1 } else s)
def isoS (r : Bool) : Bool × Stk := if roomS s r = true then pushS { s with c := s.c + 1 } ⟨nextS s r, 13, true⟩ else (false, { s with a := s.a + 1 })
def endES : Stk := if 0 < s.a then s else if 0 < s.b then { s with b := s.b - 1 } else if s.top.is = true then s else (popS s).2
def endIS : Stk := if 0 < s.a then { s with a := s.a - 1 } else if 0 < s.c then { s with b := 0, R := (s.R.dropWhile fun e => !e.is).tail, c := s.c - 1 } else s
end
theorem nextN_gt (n : Int) (r : Bool) : n + 1 ≤ nextN n r ∧ nextN n r ≤ n + 2 := by unfold nextN; split <;> omega
section
variable {s : Stk} {r : Bool} {o : Int}
theorem room_iff : roomS s r = true ↔ nextS s r ≤ 125 ∧ s.a = 0 ∧ s.b = 0 := by unfold roomS; simp
theorem push_ok {e : Ent} (h1 : s.top.lv < e.lv) (h2 : e.lv ≤ 125) : pushS s e = (true, { s with R := e :: s.R }) := by unfold pushS; rw [if_neg (by omega)]
theorem emb_room (h : roomS s r = true) : embS s r o = (true, { s with R := ⟨nextS s r, o, false⟩ :: s.R }) := by
  unfold embS
  rw [if_pos h]
  exact push_ok (by show s.top.lv < nextS s r; have := nextN_gt s.top.lv r; unfold nextS; omega) (room_iff.1 h).1
theorem emb_no (h : roomS s r = false) : embS s r o = (false, if s.a = 0 then { s with b := s.b + 1 } else s) := by unfold embS; rw [if_neg (by simp [h])]
theorem iso_room (h : roomS s r = true) : isoS s r = (true, { s with R := ⟨nextS s r, 13, true⟩ :: s.R, c := s.c + 1 }) := by
  unfold isoS
  rw [if_pos h]
  have := push_ok (s := { s with c := s.c + 1 }) (e := ⟨nextS s r, 13, true⟩) (by show s.top.lv < nextS s r; have := nextN_gt s.top.lv r; unfold nextS; omega) (room_iff.1 h).1
  rw [this]
theorem iso_no (h : roomS s r = false) : isoS s r = (false, { s with a := s.a + 1 }) := by unfold isoS; rw [if_neg (by simp [h])]
/-- What begins and ends leaves all as it was. -/
theorem emb_back : endES (embS s r o).2 = s := by
  cases h : roomS s r with
  | true =>
    rw [emb_room h]
    have h3 := room_iff.1 h
    unfold endES popS
    simp [h3.2.1, h3.2.2, Stk.top]
    cases s
    simp_all
  | false =>
    rw [emb_no h]
    by_cases ha : s.a = 0
    · simp only [if_pos ha]
      unfold endES
      simp [ha]
      cases s
      simp_all
    · simp only [if_neg ha]
      unfold endES
      rw [if_pos (by omega)]
theorem iso_back : endIS (isoS s r).2 = s := by
  cases h : roomS s r with
  | true =>
    rw [iso_room h]
    have h3 := room_iff.1 h
    unfold endIS
    simp [h3.2.1]
    cases s
    simp_all
  | false =>
    rw [iso_no h]
    unfold endIS
    simp
end
/-- Levels rise from the first entry on, and are within bounds. -/
def Rises (s : Stk) : Prop := (s.R ++ [s.bot]).Pairwise (fun x y => y.lv < x.lv) ∧ (∀ e ∈ s.R ++ [s.bot], s.bot.lv ≤ e.lv ∧ e.lv ≤ 125) ∧ 0 ≤ s.bot.lv
theorem rises_new (level : Int) : Rises (newS level) := ⟨by simp [newS], by simp [newS]; omega, by simp [newS]; omega⟩
section
variable {s : Stk}
theorem Rises.top (h : Rises s) : s.bot.lv ≤ s.top.lv ∧ s.top.lv ≤ 125 := by
  unfold Stk.top
  cases hR : s.R with
  | nil => have := h.2.1 s.bot (by simp); simp; omega
  | cons e R => have := h.2.1 e (by simp [hR]); simpa using this
theorem Rises.sub (h : Rises s) {R : List Ent} (hs : R.Sublist s.R) {a b c : Nat} : Rises ⟨s.bot, R, a, b, c⟩ :=
  ⟨h.1.sublist (hs.append_right _), fun e he => h.2.1 e ((hs.append_right _).subset he), h.2.2⟩
theorem Rises.put (h : Rises s) {e : Ent} (h1 : s.top.lv < e.lv) (h2 : e.lv ≤ 125) {a b c : Nat} : Rises ⟨s.bot, e :: s.R, a, b, c⟩ := by
  have ht := h.top
  have hall : ∀ x ∈ s.R ++ [s.bot], x.lv < e.lv := by
    intro x hx
    unfold Stk.top at h1
    cases hR : s.R with
    | nil => rw [hR] at hx h1; simp at hx h1; subst hx; exact h1
    | cons y R =>
      rw [hR] at hx h1
      simp at h1
      have hp := h.1
      rw [hR, List.cons_append, List.pairwise_cons] at hp
      rw [List.cons_append, List.mem_cons] at hx
      rcases hx with rfl | hx
      · exact h1
      · have := hp.1 x hx; omega
  refine ⟨?_, ?_, h.2.2⟩
  · rw [List.cons_append, List.pairwise_cons]
    exact ⟨hall, h.1⟩
  · intro x hx
    rw [List.cons_append, List.mem_cons] at hx
    rcases hx with rfl | hx
    · exact ⟨by show s.bot.lv ≤ _; omega, h2⟩
    · exact h.2.1 x hx
theorem pair_len : ∀ {l : List Ent} {n : Int}, l.Pairwise (fun x y => y.lv < x.lv) → (∀ e ∈ l, n ≤ e.lv) → ∀ m : Int, n ≤ m + 1 → (∀ e ∈ l, e.lv ≤ m) → (l.length : Int) ≤ m + 1 - n
  | [], n, _, _, m, hm, _ => by simp; omega
  | e :: l, n, hp, hn, m, hm, hl => by
    rw [List.pairwise_cons] at hp
    have h1 := hn e (by simp)
    have h2 := hl e (by simp)
    have := pair_len (n := n) hp.2 (fun x hx => hn x (by simp [hx])) (e.lv - 1) (by omega) (fun x hx => by have := hp.1 x hx; omega)
    simp only [List.length_cons]
    omega
theorem Rises.len (h : Rises s) : s.len ≤ 126 := by
  have := pair_len (n := 0) h.1 (fun e he => by have := h.2.1 e he; have := h.2.2; omega) 125 (by omega) (fun e he => (h.2.1 e he).2)
  rw [List.length_append] at this
  simp at this
  unfold Stk.len
  omega
end
/-- What one call may do to the length and the level. -/
def Near (s t : Stk) : Prop := t.bot = s.bot ∧ Rises t ∧ (s.len < t.len → s.top.lv < t.top.lv) ∧ (t.len < s.len → t.top.lv < s.top.lv)
section
variable {s : Stk} {r : Bool} {o : Int}
theorem near_same (h : Rises s) {a b c : Nat} : Near s ⟨s.bot, s.R, a, b, c⟩ := ⟨rfl, h.sub (List.Sublist.refl _), fun h => by simp [Stk.len] at h, fun h => by simp [Stk.len] at h⟩
theorem near_put (h : Rises s) {e : Ent} (h1 : s.top.lv < e.lv) (h2 : e.lv ≤ 125) {a b c : Nat} : Near s ⟨s.bot, e :: s.R, a, b, c⟩ := ⟨rfl, h.put h1 h2, fun _ => h1, fun h => by simp [Stk.len] at h; omega⟩
theorem near_less (h : Rises s) {R : List Ent} (hs : R <:+ s.R) {a b c : Nat} : Near s ⟨s.bot, R, a, b, c⟩ := by
  refine ⟨rfl, h.sub hs.sublist, fun hl => ?_, fun hl => ?_⟩
  · have := hs.length_le; simp [Stk.len] at hl; omega
  · obtain ⟨P, hP⟩ := hs
    unfold Stk.top
    cases P with
    | nil => simp at hP; simp [Stk.len, ← hP] at hl
    | cons e P =>
      have hp := h.1
      rw [← hP, List.cons_append, List.cons_append, List.pairwise_cons] at hp
      rw [← hP]
      simp only [List.cons_append, List.headD_cons]
      cases R with
      | nil => exact hp.1 s.bot (by simp)
      | cons x R => exact hp.1 x (by simp)
theorem near_emb (h : Rises s) : Near s (embS s r o).2 := by
  cases hr : roomS s r with
  | true => rw [emb_room hr]; exact near_put h (by show s.top.lv < nextS s r; have := nextN_gt s.top.lv r; unfold nextS; omega) (room_iff.1 hr).1
  | false =>
    rw [emb_no hr]
    show Near s (if s.a = 0 then { s with b := s.b + 1 } else s)
    split
    · exact near_same h
    · exact near_same h
theorem near_iso (h : Rises s) : Near s (isoS s r).2 := by
  cases hr : roomS s r with
  | true => rw [iso_room hr]; exact near_put h (by show s.top.lv < nextS s r; have := nextN_gt s.top.lv r; unfold nextS; omega) (room_iff.1 hr).1
  | false => rw [iso_no hr]; exact near_same h
theorem near_endE (h : Rises s) : Near s (endES s) := by
  unfold endES
  split
  · exact near_same h
  · split
    · exact near_same h
    · split
      · exact near_same h
      · unfold popS
        split
        · exact near_same h
        · exact near_less h (List.tail_suffix _)
theorem near_endI (h : Rises s) : Near s (endIS s) := by
  unfold endIS
  split
  · exact near_same h
  · split
    · exact near_less h ((List.tail_suffix _).trans (List.dropWhile_suffix _))
    · exact near_same h
theorem near_pop (h : Rises s) : Near s (popS s).2 := by
  unfold popS
  split
  · exact near_same h
  · exact near_less h (List.tail_suffix _)
theorem near_push (h : Rises s) {e : Ent} : Near s (pushS s e).2 := by
  unfold pushS
  split
  · exact near_same h
  · exact near_put h (by omega) (by omega)
end
end Go.Proofs.YtpddjojgcenlkaaGreat
/- The levels of classes as mathematics: the stack ahead of each place, the level and the class; bounds, what is plain, what is deep. No function of the program. -/
namespace Go.Proofs.YtpddjojgcenlkaaGreat
open Go.RowKit

/-- Whether a class is left out. -/
def leftC (c : Int) : Bool := (decide (14 ≤ c) && decide (c ≤ 18)) || decide (c = 9)
/-- Whether what begins at a place goes from the right. -/
def rightC (xs : List Int) (i : Nat) : Bool := if xs.getD i 0 = 21 then decide (firstF xs ((i : Int) + 1, (matF xs).getD i 0) = 1) else decide (xs.getD i 0 = 20)
def givS (s : Stk) (c : Int) : Int := if s.top.ov = 13 then c else s.top.ov
def stepA (s : Stk) (c : Int) : Stk := if c = 22 then endIS s else s
def stepB (xs : List Int) (i : Nat) (c : Int) (s : Stk) : Stk :=
  if c = 16 then (embS s true 13).2 else if c = 14 then (embS s false 13).2 else if c = 17 then (embS s true 1).2 else if c = 15 then (embS s false 0).2 else if c = 18 then endES s else if opB c = true then (isoS s (rightC xs i)).2 else s
def outX (base : Int) (s : Stk) (c : Int) : Int × Int := if c = 10 then (base, c) else if leftC c = true then (s.top.lv, 9) else (s.top.lv, givS s c)
def baseL (level : Int) : Int := min (max level 0) 1
/-- The stack ahead of place k. -/
def stE (xs : List Int) (base : Int) : Nat → Stk
  | 0 => newS base
  | k + 1 => stepB xs k (xs.getD k 0) (stepA (stE xs base k) (xs.getD k 0))
def exA (xs : List Int) (base : Int) (k : Nat) : Int × Int := outX base (stepA (stE xs base k) (xs.getD k 0)) (xs.getD k 0)
def lvL (xs : List Int) (base : Int) (k : Nat) : List Int := (List.range k).map fun i => (exA xs base i).1
def clL (xs : List Int) (base : Int) (k : Nat) : List Int := (List.range k).map fun i => (exA xs base i).2
theorem lvL_step (xs : List Int) (base : Int) (k : Nat) : lvL xs base (k + 1) = lvL xs base k ++ [(exA xs base k).1] := by unfold lvL; rw [List.range_succ, List.map_append]; rfl
theorem clL_step (xs : List Int) (base : Int) (k : Nat) : clL xs base (k + 1) = clL xs base k ++ [(exA xs base k).2] := by unfold clL; rw [List.range_succ, List.map_append]; rfl
theorem lvL_len (xs : List Int) (base : Int) (k : Nat) : (lvL xs base k).length = k := by simp [lvL]
theorem clL_len (xs : List Int) (base : Int) (k : Nat) : (clL xs base k).length = k := by simp [clL]
theorem lvL_get {xs : List Int} {base : Int} {k i : Nat} (h : i < k) : (lvL xs base k)[i]? = some (exA xs base i).1 := by simp [lvL, h]
theorem base_in (level : Int) : 0 ≤ baseL level ∧ baseL level ≤ 1 := by unfold baseL; omega
theorem new_bot {base : Int} (h : 0 ≤ base ∧ base ≤ 1) : (newS base).bot = ⟨base, 13, false⟩ := by
  have : min (max base 0) 125 = base := by omega
  unfold newS
  rw [this]
theorem near_a {s : Stk} (h : Rises s) (c : Int) : (stepA s c).bot = s.bot ∧ Rises (stepA s c) := by
  unfold stepA
  split
  · have := near_endI h; exact ⟨this.1, this.2.1⟩
  · exact ⟨rfl, h⟩
theorem near_b {s : Stk} (h : Rises s) (xs : List Int) (i : Nat) (c : Int) : (stepB xs i c s).bot = s.bot ∧ Rises (stepB xs i c s) := by
  unfold stepB
  repeat' split
  all_goals first
    | exact ⟨(near_emb h).1, (near_emb h).2.1⟩
    | exact ⟨(near_endE h).1, (near_endE h).2.1⟩
    | exact ⟨(near_iso h).1, (near_iso h).2.1⟩
    | exact ⟨rfl, h⟩
theorem st_rises {xs : List Int} {base : Int} : ∀ k, (stE xs base k).bot = (newS base).bot ∧ Rises (stE xs base k)
  | 0 => ⟨rfl, rises_new base⟩
  | k + 1 => by
    have h := st_rises (xs := xs) (base := base) k
    have h1 := near_a h.2 (xs.getD k 0)
    have h2 := near_b h1.2 xs k (xs.getD k 0)
    exact ⟨h2.1.trans (h1.1.trans h.1), h2.2⟩
/-- Levels are from the paragraph's to the limit. -/
theorem ex_in {xs : List Int} {base : Int} (hb : 0 ≤ base ∧ base ≤ 1) (k : Nat) : base ≤ (exA xs base k).1 ∧ (exA xs base k).1 ≤ 125 := by
  have h := st_rises (xs := xs) (base := base) k
  have h1 := near_a h.2 (xs.getD k 0)
  have ht := h1.2.top
  rw [h1.1, h.1, new_bot hb] at ht
  unfold exA outX
  simp only at ht
  split
  · simp only; omega
  · split
    · exact ht
    · exact ht
theorem new_end (base : Int) : endIS (newS base) = newS base := by simp [endIS, newS]
/-- Without what embeds, overrides or isolates nothing changes. -/
theorem st_plain {xs : List Int} {base : Int} (hp : ∀ c ∈ xs, leftC c = false ∧ opB c = false) : ∀ k, k ≤ xs.length → stE xs base k = newS base
  | 0, _ => rfl
  | k + 1, hk => by
    have hc : xs.getD k 0 ∈ xs := by rw [List.getD_eq_getElem?_getD, List.getElem?_eq_getElem (by omega), Option.getD_some]; exact List.getElem_mem _
    have h := hp _ hc
    rw [stE, st_plain hp k (by omega)]
    generalize xs.getD k 0 = c at h
    have ha : stepA (newS base) c = newS base := by
      unfold stepA
      split
      · exact new_end base
      · rfl
    have hl := h.1
    unfold leftC at hl
    simp only [Bool.or_eq_false_iff, Bool.and_eq_false_iff, decide_eq_false_iff_not] at hl
    rw [ha, stepB, if_neg (by omega), if_neg (by omega), if_neg (by omega), if_neg (by omega), if_neg (by omega), if_neg (by rw [h.2]; simp)]
theorem ex_plain {xs : List Int} {base : Int} (hb : 0 ≤ base ∧ base ≤ 1) (hp : ∀ c ∈ xs, leftC c = false ∧ opB c = false) {k : Nat} (hk : k < xs.length) : exA xs base k = (base, xs.getD k 0) := by
  have hc : xs.getD k 0 ∈ xs := by rw [List.getD_eq_getElem?_getD, List.getElem?_eq_getElem (by omega), Option.getD_some]; exact List.getElem_mem _
  have h := hp _ hc
  unfold exA
  rw [st_plain hp k (by omega)]
  generalize xs.getD k 0 = c at h
  have ha : stepA (newS base) c = newS base := by
    unfold stepA
    split
    · exact new_end base
    · rfl
  have ht : (newS base).top = ⟨base, 13, false⟩ := new_bot hb
  rw [ha, outX, ht, h.1]
  split
  · rfl
  · simp only [Bool.false_eq_true, if_false]
    unfold givS
    rw [ht]
    simp
theorem plain_all {xs : List Int} {base : Int} (hb : 0 ≤ base ∧ base ≤ 1) (hp : ∀ c ∈ xs, leftC c = false ∧ opB c = false) : clL xs base xs.length = xs ∧ ∀ n ∈ lvL xs base xs.length, n = base := by
  constructor
  · refine List.ext_getElem? fun i => ?_
    by_cases hi : i < xs.length
    · unfold clL
      rw [List.getElem?_map, List.getElem?_range hi, Option.map_some, ex_plain hb hp hi, List.getD_eq_getElem?_getD, List.getElem?_eq_getElem hi, Option.getD_some]
    · rw [List.getElem?_eq_none (by rw [clL_len]; omega), List.getElem?_eq_none (by omega)]
  · intro n hn
    unfold lvL at hn
    obtain ⟨i, hi, rfl⟩ := List.mem_map.1 hn
    rw [ex_plain hb hp (List.mem_range.1 hi)]
/-- The stack behind k isolates. -/
def deepS (f : Nat → Int) : Nat → Stk
  | 0 => newS 0
  | k + 1 => (isoS (deepS f k) (decide (f k = 20))).2
theorem deep_end (f : Nat → Int) (k : Nat) : endIS (deepS f (k + 1)) = deepS f k := iso_back
section
variable {xs : List Int} {n : Nat} {f : Nat → Int}
theorem deep_in (hf : ∀ i, i < n → xs.getD i 0 = f i ∧ (f i = 19 ∨ f i = 20)) : ∀ k, k ≤ n → stE xs 0 k = deepS f k
  | 0, _ => rfl
  | k + 1, hk => by
    have h := hf k (by omega)
    rw [stE, deep_in hf k (by omega), deepS]
    have hr : rightC xs k = decide (f k = 20) := by unfold rightC; rw [if_neg (by rw [h.1]; omega), h.1]
    rw [h.1, stepA, if_neg (by omega), stepB, if_neg (by omega), if_neg (by omega), if_neg (by omega), if_neg (by omega), if_neg (by omega), if_pos (by rw [opB_iff]; omega), hr]
theorem deep_out (hf : ∀ i, i < n → xs.getD i 0 = f i ∧ (f i = 19 ∨ f i = 20)) (hg : ∀ i, i < n → xs.getD (n + i) 0 = 22) : ∀ k, k ≤ n → stE xs 0 (n + k) = deepS f (n - k)
  | 0, _ => deep_in hf n (Nat.le_refl _)
  | k + 1, hk => by
    have h := hg k (by omega)
    rw [← Nat.add_assoc, stE, deep_out hf hg k (by omega), h, stepA, if_pos rfl, show n - k = (n - (k + 1)) + 1 by omega, deep_end]
    rfl
theorem deep_sym (hf : ∀ i, i < n → xs.getD i 0 = f i ∧ (f i = 19 ∨ f i = 20)) (hg : ∀ i, i < n → xs.getD (n + i) 0 = 22) {i : Nat} (hi : i < n) : (exA xs 0 i).1 = (exA xs 0 (2 * n - 1 - i)).1 := by
  have h := hf i hi
  have h2 := hg (n - 1 - i) (by omega)
  rw [show n + (n - 1 - i) = 2 * n - 1 - i by omega] at h2
  have h3 := deep_out hf hg (n - 1 - i) (by omega)
  rw [show n + (n - 1 - i) = 2 * n - 1 - i by omega, show n - (n - 1 - i) = i + 1 by omega] at h3
  have h4 := deep_in hf i (by omega)
  have e1 : (exA xs 0 i).1 = (deepS f i).top.lv := by
    unfold exA
    rw [h4, h.1, stepA, if_neg (by omega), outX, if_neg (by omega)]
    split <;> rfl
  have e2 : (exA xs 0 (2 * n - 1 - i)).1 = (deepS f i).top.lv := by
    unfold exA
    rw [h3, h2, stepA, if_pos rfl, deep_end, outX, if_neg (by omega)]
    split <;> rfl
  rw [e1, e2]
theorem deep_last (hf : ∀ i, i < n → xs.getD i 0 = f i ∧ (f i = 19 ∨ f i = 20)) (hg : ∀ i, i < n → xs.getD (n + i) 0 = 22) (hl : xs.getD (2 * n) 0 = 0) : (exA xs 0 (2 * n)).1 = 0 := by
  have h3 := deep_out hf hg n (Nat.le_refl _)
  rw [show n + n = 2 * n by omega, Nat.sub_self] at h3
  unfold exA
  rw [h3, hl]
  show (outX 0 (stepA (newS 0) 0) 0).1 = 0
  decide
end
end Go.Proofs.YtpddjojgcenlkaaGreat
