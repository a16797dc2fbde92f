/- Texts of one claim, one behind the other. -/
import Derived.Test.YtpddjojgcenlkaaGreatMgNu19
import Derived.Test.YtpddjojgcenlkaaGreatMgNu21
import Derived.Test.YtpddjojgcenlkaaGreatMgNu29
/- naskhlaw26.NeutralBounds. -/
namespace Go.Proofs.YtpddjojgcenlkaaGreat
open Go.RowKit

set_option maxRecDepth 100000 in
set_option maxHeartbeats 1500000 in
theorem neutralBounds_any (A : Option Addr) (n c : Nat) (cs : List Int) (d : Int) (w : World) (hr : Rd w 1 A n (cs.map (Value.int .i64))) (_hnc : n ≤ c) (hn : n ≤ maxLen) :
    Calls Tryz.prog 3 #[.slice A n c, .int .i64 d] w fun e w' => e = .returned (.bool true) ∧ Below w.heap.size w w' := by
  unfold maxLen at hn
  have HAW := Lib.hid awakeNu_any
  by_cases hn3 : 300 < n
  · have g1 : (300 : Int) < (n : Int) := by omega
    go_enter Tryz.func3, Tryz.ntmps3
    go_wp2_with (first
      | (go_at_call 5; refine (HAW.out _).mono ?_; rintro e w1 ⟨rfl, hb1⟩)
      | fail)
    go_ret
    exact ⟨rfl, hb1⟩
  · have g1 : ¬ (300 : Int) < (n : Int) := by omega
    obtain ⟨xs, hxs⟩ : ∃ xs, cs.map classF = xs := ⟨_, rfl⟩
    obtain ⟨base, hbase⟩ : ∃ base, levelF xs d = base := ⟨_, rfl⟩
    have hxl : xs.length = n := by rw [← hxs, List.length_map]; simpa using hr.len1
    have hbi := level_in xs d
    rw [hbase] at hbi
    have hin := neuL_in (codes := cs) (xs := xs) hbi
    have hll : (neuL cs xs base).length = n := by rw [neuL_len, hxl]
    obtain ⟨L, hL⟩ : ∃ L, neuL cs xs base = L := ⟨_, rfl⟩
    have HC := Lib.hid (fun W (hB : Below w.heap.size w W) => refClasses_any A n c cs W (hr.below hB) (by omega))
    rw [hxs] at HC
    have HV := Lib.hid (fun W (hB : Below w.heap.size w W) B m (hnm : n ≤ m) (hs : Rd W 1 B n (xs.map (Value.int .i64))) => nuLevels_any A B n c m cs xs d W (hr.below hB) hs hnm (by omega))
    rw [hbase, hL] at HV
    have HLV := Lib.hid (fun W B m (hnm : n ≤ m) (hs : Rd W 1 B n (xs.map (Value.int .i64))) => rfLevel_any B n m xs d W hs (by omega) hnm)
    rw [hbase] at HLV
    rw [hL] at hin hll
    have HIN := Lib.hid hin
    have HLL := Lib.hid hll
    have hb0 := Lib.hid (Below.refl w.heap.size w)
    clear hr hxs hbase hxl hin hll hL hbi
    go_enter Tryz.func3, Tryz.ntmps3
    go_wp2_with (first
      | (go_at_call 8; with_reducible refine (HLV.out _ C4 k4 hk4 HR4.out).mono ?_; rintro e w5 ⟨rfl, hb5⟩; have HB5 := Lib.hid (below_self HB4.out hb5); have HL5 := Lib.hid ((HL3.out.below HB34.out).below hb5); clear hb5)
      | (go_at_call 7; with_reducible refine (HC.out _ HB3.out).mono ?_; rintro e w4 ⟨v4, rfl, hv4, hb4⟩; obtain ⟨C4, k4, he4, hk4⟩ := own_form hv4; subst he4; have HR4 := Lib.hid (Rd.of_own hv4); have HB4 := Lib.hid (below_self HB3.out hb4); have HB34 := Lib.hid hb4; clear hv4 hb4)
      | (go_at_call 6; with_reducible refine (HV.out _ HB2.out C2 k2 hk2 HR2.out).mono ?_; rintro e w3 ⟨⟨ga, rfl, hl3⟩, hb3⟩; have HL3 := Lib.hid hl3; have HB3 := Lib.hid (below_self HB2.out hb3); clear hl3 hb3)
      | (go_at_call 7; with_reducible refine (HC.out _ hb0.out).mono ?_; rintro e w2 ⟨v2, rfl, hv2, hb2⟩; obtain ⟨C2, k2, he2, hk2⟩ := own_form hv2; subst he2; have HR2 := Lib.hid (Rd.of_own hv2); have HB2 := Lib.hid hb2; clear hv2 hb2)
      | fail)
    go_loopw [36] (fun i wr => ∃ k : Nat, k ≤ n ∧ i = .int .i64 (k : Int) ∧ wr = w5) (fun i _ => n - (intOf i).toNat)
    case atStart => exact ⟨0, Nat.zero_le _, rfl, rfl⟩
    case round =>
      obtain ⟨k, hk, rfl, rfl⟩ := hrel
      by_cases hlt : k < n
      · obtain ⟨v, hv⟩ : ∃ v, L[k]? = some v := ⟨_, List.getElem?_eq_getElem (by rw [HLL.out]; exact hlt)⟩
        have hvi := HIN.out v (List.mem_of_getElem? hv)
        obtain ⟨ad, hae, _, hcell⟩ := HL5.out.at_ hlt
        obtain rfl := Option.some.inj hae
        have c1 := hcell (.int .i64 v) (by rw [List.getElem?_map, hv]; rfl)
        rw [addNew] at c1
        have g2 : ¬ v < base := by omega
        have g3 : ¬ (126 : Int) < v := by omega
        have hki : (k : Int) < (n : Int) := by omega
        clear hcell hv hvi hae
        go_wp2_with fail
        go_roundw
        case rel => exact ⟨k + 1, by omega, by go_num, by first | rfl | trivial⟩
        case measure => simp [intOf]; omega
      · obtain rfl : k = n := by omega
        go_wp2_with (first
          | (go_at_call 5; refine (HAW.out _).mono ?_; rintro e w6 ⟨rfl, hb6⟩; have HB6 := Lib.hid (below_self HB5.out hb6); clear hb6)
          | fail)
        go_ret
        exact ⟨rfl, HB6.out⟩
end Go.Proofs.YtpddjojgcenlkaaGreat
/- naskhlaw26.NeutralStrong. -/
namespace Go.Proofs.YtpddjojgcenlkaaGreat
open Go.RowKit

/-- What embeds, overrides and isolates nothing. -/
def keepC (c : Int) : Bool := decide (classF c < 14) && decide (classF c ≠ 9)
theorem keep_take {cs : List Int} {k : Nat} {x : Int} (h : cs[k]? = some x) : (cs.take (k + 1)).filter keepC = (cs.take k).filter keepC ++ (if keepC x = true then [x] else []) := by
  rw [List.take_add_one, h, Option.toList_some, List.filter_append]
  congr 1
  by_cases hk : keepC x = true
  · rw [if_pos hk, List.filter_cons_of_pos hk, List.filter_nil]
  · rw [if_neg hk, List.filter_cons_of_neg hk, List.filter_nil]
theorem keep_plain {cs : List Int} : ∀ c ∈ (cs.filter keepC).map classF, leftC c = false ∧ opB c = false := by
  intro c hc
  obtain ⟨x, hx, rfl⟩ := List.mem_map.1 hc
  have := (List.mem_filter.1 hx).2
  unfold keepC at this
  rw [Bool.and_eq_true, decide_eq_true_eq, decide_eq_true_eq] at this
  constructor
  · unfold leftC
    simp
    omega
  · unfold opB
    simp
    omega
set_option maxRecDepth 100000 in
set_option maxHeartbeats 1500000 in
theorem neutralStrong_any (A : Option Addr) (n c : Nat) (cs : List Int) (d : Int) (w : World) (hr : Rd w 1 A n (cs.map (Value.int .i64))) (_hnc : n ≤ c) (hn : n ≤ maxLen) :
    Calls Tryz.prog 4 #[.slice A n c, .int .i64 d] w fun e w' => e = .returned (.bool true) ∧ Below w.heap.size w w' := by
  unfold maxLen at hn
  have HAW := Lib.hid awakeNu_any
  by_cases hn3 : 300 < n
  · have g1 : (300 : Int) < (n : Int) := by omega
    go_enter Tryz.func4, Tryz.ntmps4
    go_wp2_with (first
      | (go_at_call 5; refine (HAW.out _).mono ?_; rintro e w1 ⟨rfl, hb1⟩)
      | fail)
    go_ret
    exact ⟨rfl, hb1⟩
  · have g1 : ¬ (300 : Int) < (n : Int) := by omega
    have hcl : cs.length = n := by simpa using hr.len1
    have HCL := Lib.hid hcl
    have HR := Lib.hid hr
    clear hr hcl
    go_enter Tryz.func4, Tryz.ntmps4
    go_wp2_with fail
    go_loopw [5, 19] (fun vl i wr => ∃ k p : Nat, k ≤ n ∧ i = .int .i64 (k : Int) ∧ ((cs.take k).filter keepC).length = p ∧ p ≤ k ∧ wr.ownsRow w.heap.size 3 1 vl p (((cs.take k).filter keepC).map (Value.int .i64)) ∧ Below w.heap.size w wr) (fun _ i _ => n - (intOf i).toNat)
    case atStart => exact ⟨0, 0, Nat.zero_le _, rfl, rfl, Nat.le_refl _, ⟨rfl, .inl ⟨rfl, rfl⟩⟩, Below.refl _ _⟩
    case round =>
      obtain ⟨k, p, hk, rfl, hp, hpk, ho, hb⟩ := hrel
      have HO := Lib.hid ho
      have HB := Lib.hid hb
      have HP := Lib.hid hp
      by_cases hlt : k < n
      · obtain ⟨x, hx⟩ : ∃ x, cs[k]? = some x := ⟨_, List.getElem?_eq_getElem (by rw [HCL.out]; exact hlt)⟩
        obtain ⟨ad, rfl, hab, hcell⟩ := (HR.out.below hb).at_ hlt
        have cx := hcell (.int .i64 x) (by rw [List.getElem?_map, hx]; rfl)
        have HT := Lib.hid (keep_take hx)
        obtain ⟨v, hv⟩ : ∃ v, classF x = v := ⟨_, rfl⟩
        have HCX := Lib.hid (fun W => refClass_any x v hv W)
        have hki : (k : Int) < (n : Int) := by omega
        have HKX : Hid (keepC x = (decide (v < 14) && decide (v ≠ 9))) := Lib.hid (by unfold keepC; rw [hv])
        clear hcell hx hv ho hb hp
        by_cases h14 : v < 14
        · by_cases h9 : v = 9
          · subst h9
            have HNO := Lib.hid (HT.out.trans (by rw [if_neg (by rw [HKX.out]; decide), List.append_nil]))
            clear h14
            go_wp2_with (first
              | (go_at_call 9; with_reducible refine (HCX.out _).mono ?_; rintro e w1 ⟨rfl, hb1⟩; have HB1 := Lib.hid (below_self HB2.out hb1); have HO1 := Lib.hid (own_below HO2.out hb1); clear hb1)
              | (go_at_call 9; with_reducible refine (HCX.out _).mono ?_; rintro e w2 ⟨rfl, hb2⟩; have HB2 := Lib.hid (below_self HB.out hb2); have HO2 := Lib.hid (own_below HO.out hb2); clear hb2)
              | fail)
            go_roundw
            case rel => exact ⟨k + 1, p, by omega, by go_num, by rw [HNO.out]; exact HP.out, by omega, by rw [HNO.out]; exact HO1.out, HB1.out⟩
            case measure => simp [intOf]; omega
          · have g9 : (v != 9) = true := by simp [h9]
            have HYES := Lib.hid (HT.out.trans (by rw [if_pos (by rw [HKX.out, decide_eq_true h14, decide_eq_true h9]; rfl)]))
            go_wp2_with (first
              | (go_at_call 9; with_reducible refine (HCX.out _).mono ?_; rintro e w1 ⟨rfl, hb1⟩; have HB1 := Lib.hid (below_self HB2.out hb1); have HO1 := Lib.hid (own_below HO2.out hb1); clear hb1)
              | (go_at_call 9; with_reducible refine (HCX.out _).mono ?_; rintro e w2 ⟨rfl, hb2⟩; have HB2 := Lib.hid (below_self HB.out hb2); have HO2 := Lib.hid (own_below HO.out hb2); clear hb2)
              | (at_builtin; refine wpList_app rfl _ _ _ rfl intSliceK (by decide) _ p _ rfl (HO1.out.alloc _) ⟨w1.heap.size, 0, none⟩ 1 1 [.int .i64 x] rfl rfl (cells_new w1 [_] _) (oneInt _ _) (by omega) (by unfold maxLen; omega) (Nat.le_trans HB1.out.size (by simp)) ?_; intro v4 w4 o4 g4 t4)
              | fail)
            have HB4 := Lib.hid (below_app (HB1.out.alloc HB1.out.size (.cells #[.int .i64 x] 3)) g4 (HO1.out.alloc _) (Nat.le_trans HB1.out.size (by simp)))
            have HO4 : Hid (w4.ownsRow w.heap.size 3 1 v4 (p + 1) (((cs.take (k + 1)).filter keepC).map (Value.int .i64))) := Lib.hid (by rw [HYES.out, List.map_append]; exact o4)
            clear g4 o4 t4
            go_roundw
            case rel => exact ⟨k + 1, p + 1, by omega, by go_num, by rw [HYES.out, List.length_append, HP.out]; rfl, by omega, HO4.out, HB4.out⟩
            case measure => simp [intOf]; omega
        · have HNO := Lib.hid (HT.out.trans (by rw [if_neg (by rw [HKX.out, decide_eq_false h14]; simp), List.append_nil]))
          go_wp2_with (first
            | (go_at_call 9; with_reducible refine (HCX.out _).mono ?_; rintro e w2 ⟨rfl, hb2⟩; have HB2 := Lib.hid (below_self HB.out hb2); have HO2 := Lib.hid (own_below HO.out hb2); clear hb2)
            | fail)
          go_roundw
          case rel => exact ⟨k + 1, p, by omega, by go_num, by rw [HNO.out]; exact HP.out, by omega, by rw [HNO.out]; exact HO2.out, HB2.out⟩
          case measure => simp [intOf]; omega
      · obtain rfl : k = n := by omega
        obtain ⟨l, hl⟩ : ∃ l, cs.filter keepC = l := ⟨_, rfl⟩
        have htk : (cs.take k).filter keepC = l := by rw [List.take_of_length_le (by rw [HCL.out]; exact Nat.le_refl _), hl]
        rw [htk] at ho hp
        obtain ⟨xs, hxs⟩ : ∃ xs, l.map classF = xs := ⟨_, rfl⟩
        obtain ⟨base, hbase⟩ : ∃ base, levelF xs d = base := ⟨_, rfl⟩
        have hbi := level_in xs d
        rw [hbase] at hbi
        have hpl : ∀ c ∈ xs, leftC c = false ∧ opB c = false := by rw [← hxs, ← hl]; exact keep_plain
        have hstr := fun (i : Nat) (c : Int) (h1 : xs[i]? = some c) h2 => neuL_strong (codes := l) hbi hpl h1 h2
        have hxl : xs.length = p := by rw [← hxs, List.length_map, hp]
        obtain ⟨L, hL⟩ : ∃ L, neuL l xs base = L := ⟨_, rfl⟩
        have hLl : L.length = p := by rw [← hL, neuL_len, hxl]
        rw [hL] at hstr
        obtain ⟨C, cc, he, hcc⟩ := own_form ho
        subst he
        have HRl := Lib.hid (Rd.of_own ho)
        have HC := Lib.hid (refClasses_any C p cc l wr HRl.out (by omega))
        rw [hxs] at HC
        have HV := Lib.hid (fun W (hB : Below wr.heap.size wr W) B m (hnm : p ≤ m) (hs : Rd W 1 B p (xs.map (Value.int .i64))) => nuLevels_any C B p cc m l xs d W (HRl.out.below hB) hs hnm (by omega))
        rw [hbase, hL] at HV
        have HSTR := Lib.hid hstr
        have HXL := Lib.hid hxl
        have HLL := Lib.hid hLl
        obtain ⟨b2, hb2⟩ : ∃ b2, 2 * base = b2 := ⟨_, rfl⟩
        have HB2b := Lib.hid hb2
        clear ho hp HO HP htk hl hxs hbase hpl hstr hxl hL hLl hb
        go_wp2_with (first
          | (go_at_call 6; with_reducible refine (HV.out _ HB2.out C2 k2 hk2 HR2.out).mono ?_; rintro e w3 ⟨⟨ga, rfl, hl3⟩, hb3⟩; have HL3 := Lib.hid hl3; have HB3 := Lib.hid (below_self HB.out (below_self HB2.out hb3)); have HR3 := Lib.hid (HR2.out.below hb3); clear hl3 hb3)
          | (go_at_call 7; with_reducible refine HC.out.mono ?_; rintro e w2 ⟨v2, rfl, hv2, hb2⟩; obtain ⟨C2, k2, he2, hk2⟩ := own_form hv2; subst he2; have HR2 := Lib.hid (Rd.of_own hv2); have HB2 := Lib.hid hb2; clear hv2 hb2)
          | fail)
        go_loopw [52] (fun i wi => ∃ q : Nat, q ≤ p ∧ i = .int .i64 (q : Int) ∧ wi = w3) (fun i _ => p - (intOf i).toNat)
        case atStart => exact ⟨0, Nat.zero_le _, rfl, rfl⟩
        case round =>
          obtain ⟨q, hq, rfl, rfl⟩ := hrel
          by_cases hqp : q < p
          · obtain ⟨x, hx⟩ : ∃ x, xs[q]? = some x := ⟨_, List.getElem?_eq_getElem (by rw [HXL.out]; exact hqp)⟩
            obtain ⟨v, hv⟩ : ∃ v, L[q]? = some v := ⟨_, List.getElem?_eq_getElem (by rw [HLL.out]; exact hqp)⟩
            obtain ⟨ad, rfl, _, hcell⟩ := HR3.out.at_ hqp
            have c1 := hcell (.int .i64 x) (by rw [List.getElem?_map, hx]; rfl)
            obtain ⟨ad', hae, _, hcell'⟩ := HL3.out.at_ hqp
            obtain rfl := Option.some.inj hae
            have c2 := hcell' (.int .i64 v) (by rw [List.getElem?_map, hv]; rfl)
            rw [addNew] at c2
            have hs := HSTR.out q x hx
            rw [hv] at hs
            have hqi : (q : Int) < (p : Int) := by omega
            have h2b := HB2b.out
            clear hcell hcell' hx hv hae
            by_cases h0 : x = 0
            · subst h0
              have := Option.some.inj (hs (.inl rfl))
              rw [if_pos rfl] at this
              obtain rfl : v = b2 := by omega
              clear this hs
              go_wp2_with fail
              go_roundw
              case rel => exact ⟨q + 1, by omega, by go_num, by first | rfl | trivial⟩
              case measure => simp [intOf]; omega
            · by_cases h1 : x = 1
              · subst h1
                have := Option.some.inj (hs (.inr (.inl rfl)))
                rw [if_neg (by decide)] at this
                subst this
                clear hs h0 h2b
                go_wp2_with fail
                go_roundw
                case rel => exact ⟨q + 1, by omega, by go_num, by first | rfl | trivial⟩
                case measure => simp [intOf]; omega
              · by_cases h2 : x = 2
                · subst h2
                  have := Option.some.inj (hs (.inr (.inr rfl)))
                  rw [if_neg (by decide)] at this
                  subst this
                  clear hs h0 h1 h2b
                  go_wp2_with fail
                  go_roundw
                  case rel => exact ⟨q + 1, by omega, by go_num, by first | rfl | trivial⟩
                  case measure => simp [intOf]; omega
                · have e0 : (x == 0) = false := by simp [h0]
                  have e1 : (x == 1) = false := by simp [h1]
                  have e2 : (x == 2) = false := by simp [h2]
                  clear hs h0 h1 h2 h2b
                  go_wp2_with fail
                  go_roundw
                  case rel => exact ⟨q + 1, by omega, by go_num, by first | rfl | trivial⟩
                  case measure => simp [intOf]; omega
          · obtain rfl : q = p := by omega
            go_wp2_with (first
              | (go_at_call 5; refine (HAW.out _).mono ?_; rintro e w6 ⟨rfl, hb6⟩; have HB6 := Lib.hid (below_self HB3.out hb6); clear hb6)
              | fail)
            go_ret
            exact ⟨rfl, HB6.out⟩
end Go.Proofs.YtpddjojgcenlkaaGreat
