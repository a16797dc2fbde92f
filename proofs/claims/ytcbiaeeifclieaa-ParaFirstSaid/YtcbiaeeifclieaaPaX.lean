/- naskhlaw20's ParaFirst. -/
import Derived.Test.YtcbiaeeifclieaaPaW
namespace Go.Proofs.Ytcbiaeeifclieaa
open Go.RowKit

theorem calm_step {l : List Int} {k : Nat} {x : Int} (h : l[k]? = some x) : (l.take (k + 1)).filter calm = (l.take k).filter calm ++ (if calm x = true then [x] else []) := by
  rw [List.take_add_one, h, List.filter_append]
  congr 1
  by_cases hx : calm x = true <;> simp [hx]
theorem level_lead (l r : List Int) (c : Int) (h : ∀ x ∈ l, calm x = true) (hc : c = 0 ∨ c = 1) : levelF (l ++ [c] ++ r) 2 = c ∧ levelF (l ++ [c] ++ r) 3 = c ∧ levelF (l ++ [c] ++ r) 1 = 1 := by
  have := fst_lead l r c h hc
  rw [List.append_assoc, List.singleton_append]
  unfold levelF
  rw [this, if_neg (by decide), if_pos rfl, if_neg (by omega), if_neg (by decide), if_neg (by decide), if_pos rfl, if_neg (by omega), if_pos rfl]
  exact ⟨rfl, rfl, rfl⟩
set_option maxRecDepth 100000 in
set_option maxHeartbeats 4000000 in
theorem paraFirst_any (A A2 : Option Addr) (n c n2 c2 : Nat) (xs ys : List Int) (rt : Bool) (w : World) (hr : Rd w 1 A n (xs.map (Value.int .i64))) (hr2 : Rd w 1 A2 n2 (ys.map (Value.int .i64))) (hn : n ≤ maxLen) (hn2 : n2 ≤ maxLen) :
    Calls Try.prog 7 #[.slice A n c, .slice A2 n2 c2, .bool rt] w fun e w' => e = .returned (.bool true) ∧ Below w.heap.size w w' := by
  unfold maxLen at hn hn2
  by_cases hs : n ≤ 300 ∧ n2 ≤ 300
  · obtain ⟨hs1, hs2⟩ := hs
    have hlen : xs.length = n := by simpa using hr.len1
    have hlen2 : ys.length = n2 := by simpa using hr2.len1
    have HR := Lib.hid hr
    obtain ⟨zs, hzs⟩ : ∃ zs, ys.map classF = zs := ⟨_, rfl⟩
    have HZL := Lib.hid (show zs.length = n2 by rw [← hzs, List.length_map, hlen2])
    have HC2 := Lib.hid (rfClasses_any A2 n2 c2 ys w hr2 (by omega))
    rw [hzs] at HC2
    have HC1 := Lib.hid (fun W (h : Below w.heap.size w W) => rfClasses_any A n c xs W (hr.below h) (by omega))
    obtain ⟨us, hus⟩ : ∃ us, xs.map classF = us := ⟨_, rfl⟩
    rw [hus] at HC1
    have HUL := Lib.hid (show us.length = n by rw [← hus, List.length_map, hlen])
    have HLV := Lib.hid (fun c hc => level_lead (zs.filter calm) us c (fun x hx => (List.mem_filter.1 hx).2) hc)
    have hfl : (zs.filter calm).length ≤ n2 := by rw [← HZL.out]; exact List.length_filter_le _ _
    clear hr hr2 hlen hlen2 hzs hus
    go_enter Try.func7, Try.ntmps7
    go_wp2_with fail
    refine HC2.out.mono ?_
    rintro e w1 ⟨v, rfl, hown, hb1⟩
    obtain ⟨V, cv, rfl, _⟩ := own_form hown
    have HV := Lib.hid (Rd.of_own hown)
    have HB1 := Lib.hid hb1
    clear hown hb1
    go_wp2_with fail
    go_loopw [7, 24] (fun v i wr => ∃ k : Nat, k ≤ n2 ∧ i = .int .i64 (k : Int) ∧ wr.ownsRow w1.heap.size 3 1 v ((zs.take k).filter calm).length (((zs.take k).filter calm).map (Value.int .i64)) ∧ Below w1.heap.size w1 wr) (fun _ i _ => n2 - (intOf i).toNat)
    case atStart => exact ⟨0, Nat.zero_le _, rfl, ⟨rfl, .inl ⟨rfl, rfl⟩⟩, Below.refl _ _⟩
    case round =>
      obtain ⟨k, hk, rfl, hown, hb⟩ := hrel
      have hfk : ((zs.take k).filter calm).length ≤ k := Nat.le_trans (List.length_filter_le _ _) (by rw [List.length_take]; omega)
      obtain ⟨fl, hfl2⟩ : ∃ fl, (zs.take k).filter calm = fl := ⟨_, rfl⟩
      have HFL := Lib.hid hfl2
      rw [hfl2] at hown hfk
      have HO := Lib.hid hown
      have HB := Lib.hid hb
      clear hown hb hfl2
      have hz := HB.out.size
      by_cases hlt : k < n2
      · obtain ⟨x, hx⟩ : ∃ x, zs[k]? = some x := ⟨_, List.getElem?_eq_getElem (by rw [HZL.out]; exact hlt)⟩
        obtain ⟨ad, rfl, hab, hcell⟩ := (HV.out.below HB.out).at_ hlt
        have cx : wr.cell? (ad.add k) = some (.int .i64 x) := hcell _ (by rw [List.getElem?_map, hx]; rfl)
        have HS := Lib.hid (calm_step hx)
        rw [HFL.out] at HS
        have hkn : (k : Int) < (n2 : Int) := by omega
        obtain ⟨o, ho⟩ : ∃ o, opB x = o := ⟨_, rfl⟩
        have HI := Lib.hid (fun W => rfOpens_of x o ho W)
        have hcm : calm x = (!(decide (x = 0) || decide (x = 1) || decide (x = 2)) && !o) := by unfold calm; rw [ho]
        clear hcell hx ho
        by_cases h0 : x = 0
        · subst h0
          rw [hcm, show (!(decide ((0 : Int) = 0) || decide ((0 : Int) = 1) || decide ((0 : Int) = 2)) && !o) = false by simp, if_neg (by decide), List.append_nil] at HS
          clear hcm
          go_wp2_with fail
          go_roundw
          case rel => exact ⟨k + 1, by omega, by go_num, by rw [HS.out]; exact HO.out, HB.out⟩
          case measure => simp [intOf]; omega
        · have g0 : (x != 0) = true := by simp [h0]
          by_cases h1 : x = 1
          · subst h1
            rw [hcm, show (!(decide ((1 : Int) = 0) || decide ((1 : Int) = 1) || decide ((1 : Int) = 2)) && !o) = false by simp, if_neg (by decide), List.append_nil] at HS
            clear hcm h0
            go_wp2_with fail
            go_roundw
            case rel => exact ⟨k + 1, by omega, by go_num, by rw [HS.out]; exact HO.out, HB.out⟩
            case measure => simp [intOf]; omega
          · have g1 : (x != 1) = true := by simp [h1]
            by_cases h2 : x = 2
            · subst h2
              rw [hcm, show (!(decide ((2 : Int) = 0) || decide ((2 : Int) = 1) || decide ((2 : Int) = 2)) && !o) = false by simp, if_neg (by decide), List.append_nil] at HS
              clear hcm h0 h1
              go_wp2_with fail
              go_roundw
              case rel => exact ⟨k + 1, by omega, by go_num, by rw [HS.out]; exact HO.out, HB.out⟩
              case measure => simp [intOf]; omega
            · have g2 : (x != 2) = true := by simp [h2]
              rw [hcm, decide_eq_false h0, decide_eq_false h1, decide_eq_false h2] at HS
              clear hcm h0 h1 h2
              cases o with
              | true =>
                rw [show (!(false || false || false) && !true) = false from rfl, if_neg (by decide), List.append_nil] at HS
                go_wp2_with (first
                  | (go_at_call 33; with_reducible refine (HI.out _).mono ?_; rintro e w2 ⟨rfl, rfl⟩)
                  | fail)
                go_roundw
                case rel => exact ⟨k + 1, by omega, by go_num, by rw [HS.out]; exact HO.out, HB.out⟩
                case measure => simp [intOf]; omega
              | false =>
                rw [show (!(false || false || false) && !false) = true from rfl, if_pos rfl] at HS
                go_wp2_with (first
                  | (go_at_call 33; with_reducible refine (HI.out _).mono ?_; rintro e w2 ⟨rfl, rfl⟩)
                  | (at_builtin; refine wpList_app rfl _ _ _ rfl intSliceM (by decide) _ fl.length _ rfl (HO.out.alloc _) ⟨wr.heap.size, 0, none⟩ 1 1 [.int .i64 x] rfl rfl (cells_new wr [_] _) (oneInt _ _) (by omega) (by unfold maxLen; omega) (Nat.le_trans hz (by simp)) ?_; intro v1 w3 hown1 hg1 hat1)
                  | fail)
                have hgr := below_app (HB.out.alloc hz _) hg1 (HO.out.alloc _) (Nat.le_trans hz (by simp))
                go_roundw
                case rel => exact ⟨k + 1, by omega, by go_num, by rw [HS.out, List.length_append, List.map_append]; exact hown1, hgr⟩
                case measure => simp [intOf]; omega
      · obtain rfl : k = n2 := by omega
        have HZ := Lib.hid (show fl = zs.filter calm by rw [← HFL.out, List.take_of_length_le (by rw [HZL.out]; exact Nat.le_refl _)])
        rw [← HZ.out] at HLV
        have HBW := Lib.hid (below_self HB1.out HB.out)
        clear HZ HFL hfl HV HC2
        obtain ⟨q, hq⟩ : ∃ q, fl.length = q := ⟨_, rfl⟩
        have HQ := Lib.hid hq
        rw [hq] at HO hfk
        clear hq
        cases rt with
        | false =>
          have HL3 := Lib.hid (HLV.out 0 (by decide))
          have HLa := Lib.hid (fun (V : Option Addr) (cc : Nat) (W : World) (h : Rd W 1 V (q + 1 + n) (fl.map (Value.int .i64) ++ [.int .i64 0] ++ us.map (Value.int .i64))) (hc : q + 1 + n ≤ cc) => (prLevel_any V (q + 1 + n) cc (fl ++ [0] ++ us) 2 W (by simpa using h) (by omega) hc))
          have HLb := Lib.hid (fun (V : Option Addr) (cc : Nat) (W : World) (h : Rd W 1 V (q + 1 + n) (fl.map (Value.int .i64) ++ [.int .i64 0] ++ us.map (Value.int .i64))) (hc : q + 1 + n ≤ cc) => (prLevel_any V (q + 1 + n) cc (fl ++ [0] ++ us) 3 W (by simpa using h) (by omega) hc))
          have HLc := Lib.hid (fun (V : Option Addr) (cc : Nat) (W : World) (h : Rd W 1 V (q + 1 + n) (fl.map (Value.int .i64) ++ [.int .i64 0] ++ us.map (Value.int .i64))) (hc : q + 1 + n ≤ cc) => (prLevel_any V (q + 1 + n) cc (fl ++ [0] ++ us) 1 W (by simpa using h) (by omega) hc))
          rw [HL3.out.1] at HLa
          rw [HL3.out.2.1] at HLb
          rw [HL3.out.2.2] at HLc
          clear HL3 HLV
          go_wp2_with (first
            | (at_builtin; refine wpList_app rfl _ _ _ rfl intSliceM (by decide) _ q _ rfl (HO.out.alloc _) ⟨wr.heap.size, 0, none⟩ 1 1 [.int .i64 0] rfl rfl (cells_new wr [_] _) (oneInt _ _) (by omega) (by unfold maxLen; omega) (Nat.le_trans hz (by simp)) ?_; intro v1 w3 hown1 hg1 hat1; have HO3 := Lib.hid hown1; have HB3 := Lib.hid (below_app (HB.out.alloc hz _) hg1 (HO.out.alloc _) (Nat.le_trans hz (by simp))); clear hown1 hg1 hat1; have HBX := Lib.hid (below_self HB1.out HB3.out))
            | (go_at_call 32; with_reducible refine (HC1.out _ HBX.out).mono ?_; rintro e w4 ⟨v4, rfl, hown4, hb4⟩; obtain ⟨V4, c4, rfl, _⟩ := own_form hown4; have HR4 := Lib.hid (Rd.of_own hown4); have HO4 := Lib.hid (own_below HO3.out hb4); have HB4 := Lib.hid (HB3.out.trans (hb4.mono HB3.out.size)); clear hown4 hb4)
            | (at_builtin; refine wpList_appR rfl _ _ _ rfl intSliceM (by decide) _ (q + 1) _ rfl HO4.out V4 n c4 (us.map (Value.int .i64)) rfl HR4.out (oneInts _ _) (by omega) (by unfold maxLen; omega) HB4.out.size ?_; intro v5 w5 hown5 hg5 hat5; have HO5 := Lib.hid hown5; have HB5 := Lib.hid (below_app HB4.out hg5 HO4.out HB4.out.size); clear hown5 hg5 hat5; obtain ⟨V5, c5, rfl, hc5⟩ := own_form HO5.out; have HR5 := Lib.hid (Rd.of_own HO5.out); have HBB5 := Lib.hid (below_self HB1.out HB5.out))
            | (go_at_call 28; with_reducible refine (HLa.out _ _ _ HR5.out hc5).mono ?_; rintro e w6 ⟨rfl, hb6⟩; have HR6 := Lib.hid (HR5.out.below hb6); have HB6 := Lib.hid (below_self HBB5.out hb6); clear hb6)
            | (go_at_call 28; with_reducible refine (HLb.out _ _ _ HR6.out hc5).mono ?_; rintro e w7 ⟨rfl, hb7⟩; have HR7 := Lib.hid (HR6.out.below hb7); have HB7 := Lib.hid (below_self HB6.out hb7); clear hb7)
            | (go_at_call 28; with_reducible refine (HLc.out _ _ _ HR7.out hc5).mono ?_; rintro e w8 ⟨rfl, hb8⟩; have HB8 := Lib.hid (below_self HB7.out hb8); clear hb8)
            | (go_at_call 20; refine (awakePa_any _).mono ?_; rintro e w9 ⟨rfl, hb9⟩; have HB9 := Lib.hid (below_self HB8.out hb9); clear hb9)
            | fail)
          go_ret
          exact ⟨rfl, HB9.out⟩
        | true =>
          have HL3 := Lib.hid (HLV.out 1 (by decide))
          have HLa := Lib.hid (fun (V : Option Addr) (cc : Nat) (W : World) (h : Rd W 1 V (q + 1 + n) (fl.map (Value.int .i64) ++ [.int .i64 1] ++ us.map (Value.int .i64))) (hc : q + 1 + n ≤ cc) => (prLevel_any V (q + 1 + n) cc (fl ++ [1] ++ us) 2 W (by simpa using h) (by omega) hc))
          have HLb := Lib.hid (fun (V : Option Addr) (cc : Nat) (W : World) (h : Rd W 1 V (q + 1 + n) (fl.map (Value.int .i64) ++ [.int .i64 1] ++ us.map (Value.int .i64))) (hc : q + 1 + n ≤ cc) => (prLevel_any V (q + 1 + n) cc (fl ++ [1] ++ us) 3 W (by simpa using h) (by omega) hc))
          have HLc := Lib.hid (fun (V : Option Addr) (cc : Nat) (W : World) (h : Rd W 1 V (q + 1 + n) (fl.map (Value.int .i64) ++ [.int .i64 1] ++ us.map (Value.int .i64))) (hc : q + 1 + n ≤ cc) => (prLevel_any V (q + 1 + n) cc (fl ++ [1] ++ us) 1 W (by simpa using h) (by omega) hc))
          rw [HL3.out.1] at HLa
          rw [HL3.out.2.1] at HLb
          rw [HL3.out.2.2] at HLc
          clear HL3 HLV
          go_wp2_with (first
            | (at_builtin; refine wpList_app rfl _ _ _ rfl intSliceM (by decide) _ q _ rfl (HO.out.alloc _) ⟨wr.heap.size, 0, none⟩ 1 1 [.int .i64 1] rfl rfl (cells_new wr [_] _) (oneInt _ _) (by omega) (by unfold maxLen; omega) (Nat.le_trans hz (by simp)) ?_; intro v1 w3 hown1 hg1 hat1; have HO3 := Lib.hid hown1; have HB3 := Lib.hid (below_app (HB.out.alloc hz _) hg1 (HO.out.alloc _) (Nat.le_trans hz (by simp))); clear hown1 hg1 hat1; have HBX := Lib.hid (below_self HB1.out HB3.out))
            | (go_at_call 32; with_reducible refine (HC1.out _ HBX.out).mono ?_; rintro e w4 ⟨v4, rfl, hown4, hb4⟩; obtain ⟨V4, c4, rfl, _⟩ := own_form hown4; have HR4 := Lib.hid (Rd.of_own hown4); have HO4 := Lib.hid (own_below HO3.out hb4); have HB4 := Lib.hid (HB3.out.trans (hb4.mono HB3.out.size)); clear hown4 hb4)
            | (at_builtin; refine wpList_appR rfl _ _ _ rfl intSliceM (by decide) _ (q + 1) _ rfl HO4.out V4 n c4 (us.map (Value.int .i64)) rfl HR4.out (oneInts _ _) (by omega) (by unfold maxLen; omega) HB4.out.size ?_; intro v5 w5 hown5 hg5 hat5; have HO5 := Lib.hid hown5; have HB5 := Lib.hid (below_app HB4.out hg5 HO4.out HB4.out.size); clear hown5 hg5 hat5; obtain ⟨V5, c5, rfl, hc5⟩ := own_form HO5.out; have HR5 := Lib.hid (Rd.of_own HO5.out); have HBB5 := Lib.hid (below_self HB1.out HB5.out))
            | (go_at_call 28; with_reducible refine (HLa.out _ _ _ HR5.out hc5).mono ?_; rintro e w6 ⟨rfl, hb6⟩; have HR6 := Lib.hid (HR5.out.below hb6); have HB6 := Lib.hid (below_self HBB5.out hb6); clear hb6)
            | (go_at_call 28; with_reducible refine (HLb.out _ _ _ HR6.out hc5).mono ?_; rintro e w7 ⟨rfl, hb7⟩; have HR7 := Lib.hid (HR6.out.below hb7); have HB7 := Lib.hid (below_self HB6.out hb7); clear hb7)
            | (go_at_call 28; with_reducible refine (HLc.out _ _ _ HR7.out hc5).mono ?_; rintro e w8 ⟨rfl, hb8⟩; have HB8 := Lib.hid (below_self HB7.out hb8); clear hb8)
            | (go_at_call 20; refine (awakePa_any _).mono ?_; rintro e w9 ⟨rfl, hb9⟩; have HB9 := Lib.hid (below_self HB8.out hb9); clear hb9)
            | fail)
          go_ret
          exact ⟨rfl, HB9.out⟩
  · have hcase : 300 < n ∨ (n ≤ 300 ∧ 300 < n2) := by omega
    clear hr hr2 hs
    rcases hcase with h | ⟨h, h'⟩
    all_goals
      go_enter Try.func7, Try.ntmps7
      go_wp2_with fail
      refine (awakePa_any _).mono ?_
      rintro e w4 ⟨rfl, hb4⟩
      go_wp2
      go_ret
      exact ⟨rfl, hb4⟩
end Go.Proofs.Ytcbiaeeifclieaa
