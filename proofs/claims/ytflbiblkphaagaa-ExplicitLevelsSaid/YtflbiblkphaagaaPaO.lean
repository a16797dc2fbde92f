/- The reference's closes, Matches. -/
import Derived.Test.YtflbiblkphaagaaPaM
namespace Go.Proofs.Ytflbiblkphaagaa
open Go.RowKit

set_option maxRecDepth 100000 in
set_option maxHeartbeats 2000000 in
theorem rfCloses_any (A : Option Addr) (n c i : Nat) (xs : List Int) (w : World) (hr : Rd w 1 A n (xs.map (Value.int .i64))) (hn : n ≤ 1000000) (hi : i < n) :
    Calls Try.prog 60 #[.slice A n c, .int .i64 (i : Int)] w fun e w' => e = .returned (.int .i64 (ansF xs (i + 1) 0 : Nat)) ∧ w = w' := by
  have hlen : xs.length = n := by simpa using hr.len1
  obtain ⟨a, ha⟩ : ∃ a, ansF xs (i + 1) 0 = a := ⟨_, rfl⟩
  have HA := Lib.hid ha
  have HL := Lib.hid hlen
  have HR := Lib.hid hr
  rw [ha]
  clear hlen hr ha
  go_enter Try.func60, Try.ntmps60
  go_wp2_with fail
  go_loopw [5, 6] (fun d k wr => ∃ (j e : Nat), j ≤ n ∧ e ≤ j ∧ k = .int .i64 (j : Int) ∧ d = .int .i64 (e : Int) ∧ wr = w ∧ ansF xs j e = a) (fun _ k _ => n - (intOf k).toNat)
  case atStart => exact ⟨i + 1, 0, by omega, by omega, by go_num, rfl, rfl, HA.out⟩
  case round =>
    obtain ⟨j, d, hj, hdj, rfl, rfl, rfl, hfs⟩ := hrel
    have HS := Lib.hid hfs
    clear hfs
    by_cases hlt : j < n
    · obtain ⟨x, hx⟩ : ∃ x, xs[j]? = some x := ⟨_, List.getElem?_eq_getElem (by rw [HL.out]; exact hlt)⟩
      obtain ⟨ad, rfl, hab, hcell⟩ := HR.out.at_ hlt
      have cx : wr.cell? (ad.add j) = some (.int .i64 x) := hcell _ (by rw [List.getElem?_map, hx]; rfl)
      obtain ⟨o, ho⟩ : ∃ o, opB x = o := ⟨_, rfl⟩
      have HI := Lib.hid (fun W => rfOpens_of x o ho W)
      have HX := Lib.hid hx
      have HO := Lib.hid ho
      clear hcell hx ho
      cases o with
      | true =>
        have HN := Lib.hid ((ansF_open d HX.out HO.out).symm.trans HS.out)
        go_wp2_with (first
          | (go_at_call 34; with_reducible refine (HI.out _).mono ?_; rintro e w2 ⟨rfl, rfl⟩)
          | fail)
        go_roundw
        case rel => exact ⟨j + 1, d + 1, by omega, by omega, by go_num, by go_num, trivial, HN.out⟩
        case measure => simp [intOf]; omega
      | false =>
        by_cases h22 : x = 22
        · subst h22
          rcases Nat.eq_zero_or_pos d with rfl | hd
          · have HN := Lib.hid (show j = a from (ansF_here HX.out).symm.trans HS.out)
            go_wp2_with (first
              | (go_at_call 34; with_reducible refine (HI.out _).mono ?_; rintro e w2 ⟨rfl, rfl⟩)
              | fail)
            go_ret
            exact ⟨retI (by have := HN.out; omega), rfl⟩
          · obtain ⟨f, rfl⟩ : ∃ f, d = f + 1 := ⟨d - 1, by omega⟩
            have HN := Lib.hid ((ansF_shut f HX.out).symm.trans HS.out)
            obtain ⟨D, hD⟩ : ∃ D : Int, ((f + 1 : Nat) : Int) = D := ⟨_, rfl⟩
            have hm4 : D - 1 = (f : Int) := by omega
            obtain ⟨hD1, hD2, hD3⟩ : 0 ≤ D ∧ D ≤ 1000001 ∧ (D == 0) = false := ⟨by omega, by omega, by simp; omega⟩
            rw [hD]
            clear hD hd
            go_wp2_with (first
              | (go_at_call 34; with_reducible refine (HI.out _).mono ?_; rintro e w2 ⟨rfl, rfl⟩)
              | fail)
            go_roundw
            case rel => exact ⟨j + 1, f, by omega, by omega, by go_num, by go_num, trivial, HN.out⟩
            case measure => simp [intOf]; omega
        · have HN := Lib.hid ((ansF_pass d HX.out HO.out h22).symm.trans HS.out)
          have g22 : (x == 22) = false := by simp [h22]
          clear h22
          go_wp2_with (first
            | (go_at_call 34; with_reducible refine (HI.out _).mono ?_; rintro e w2 ⟨rfl, rfl⟩)
            | fail)
          go_roundw
          case rel => exact ⟨j + 1, d, by omega, by omega, by go_num, rfl, trivial, HN.out⟩
          case measure => simp [intOf]; omega
    · obtain rfl : j = n := by omega
      have HN := Lib.hid (show j = a by have := HS.out; rw [← HL.out, ansF_end] at this; rw [← HL.out]; exact this)
      go_wp2
      go_ret
      exact ⟨retI (by have := HN.out; omega), rfl⟩
theorem rmS_yes {xs : List Int} {k : Nat} {x : Int} (hx : xs[k]? = some x) (ho : opB x = true) : rmS xs (k + 1) = if ansF xs (k + 1) 0 < xs.length then ((rmS xs k).set k (ansF xs (k + 1) 0)).set (ansF xs (k + 1) 0) k else (rmS xs k).set k (ansF xs (k + 1) 0) := by
  rw [rmS, if_pos (by rw [hx]; simp [ho])]
theorem rmS_no {xs : List Int} {k : Nat} {x : Int} (hx : xs[k]? = some x) (ho : opB x = false) : rmS xs (k + 1) = rmS xs k := by
  rw [rmS, if_neg (by rw [hx]; simp [ho])]
set_option maxRecDepth 100000 in
set_option maxHeartbeats 2000000 in
theorem rfMatches_any (A : Option Addr) (n c : Nat) (xs : List Int) (w : World) (hr : Rd w 1 A n (xs.map (Value.int .i64))) (hn : n ≤ 100000) :
    Calls Try.prog 57 #[.slice A n c] w fun e w' => ∃ v, e = .returned v ∧ w'.ownsRow w.heap.size 3 1 v n ((matF xs).map (Value.int .i64)) ∧ Below w.heap.size w w' := by
  have hlen : xs.length = n := by simpa using hr.len1
  have HL := Lib.hid hlen
  have HR := Lib.hid hr
  clear hlen hr
  go_enter Try.func57, Try.ntmps57
  go_wp2_with fail
  go_loopw [3, 4] (fun v i wr => ∃ k : Nat, k ≤ n ∧ i = .int .i64 (k : Int) ∧ wr.ownsRow w.heap.size 3 1 v k (List.replicate k (Value.int .i64 (-1))) ∧ Below w.heap.size w wr) (fun _ i _ => n - (intOf i).toNat)
  case atStart => exact ⟨0, Nat.zero_le _, rfl, ⟨rfl, .inl ⟨rfl, rfl⟩⟩, Below.refl _ _⟩
  case round =>
    obtain ⟨k, hk, rfl, hown, hb⟩ := hrel
    have HO := Lib.hid hown
    have HB := Lib.hid hb
    clear hown hb
    have hz := HB.out.size
    by_cases hlt : k < n
    · go_wp2_with (first
        | (at_builtin; refine wpList_app rfl _ _ _ rfl intSliceM (by decide) _ k _ rfl (HO.out.alloc _) ⟨wr.heap.size, 0, none⟩ 1 1 [.int .i64 (-1)] rfl rfl (cells_new wr [_] _) (oneInt _ _) (by omega) (by unfold maxLen; omega) (Nat.le_trans hz (by simp)) ?_; intro v1 w1 hown1 hg1 hat1)
        | fail)
      have hgr := below_app (HB.out.alloc hz _) hg1 (HO.out.alloc _) (Nat.le_trans hz (by simp))
      go_roundw
      case rel => exact ⟨k + 1, by omega, by go_num, by rw [List.replicate_succ']; exact hown1, hgr⟩
      case measure => simp [intOf]; omega
    · obtain rfl : k = n := by omega
      have HS0 : Hid (rmS xs 0 = List.replicate k (-1)) := Lib.hid (by rw [rmS, HL.out])
      obtain ⟨V, cv, hv, hcv⟩ := own_form HO.out
      subst hv
      go_wp2_with fail
      go_loopw [5] (fun i ws => ∃ j : Nat, j ≤ k ∧ i = .int .i64 (j : Int) ∧ ws.ownsRow w.heap.size 3 1 (.slice V k cv) k ((rmS xs j).map (Value.int .i64)) ∧ Below w.heap.size w ws) (fun i _ => k - (intOf i).toNat)
      case atStart => exact ⟨0, Nat.zero_le _, rfl, by rw [HS0.out, List.map_replicate]; exact HO.out, HB.out⟩
      case round =>
        obtain ⟨j, hj, rfl, hown2, hb2⟩ := hrel
        by_cases hlt2 : j < k
        · obtain ⟨x, hx⟩ : ∃ x, xs[j]? = some x := ⟨_, List.getElem?_eq_getElem (by rw [HL.out]; exact hlt2)⟩
          obtain ⟨ad, hA, hab, hcell⟩ := (HR.out.below hb2).at_ hlt2
          subst hA
          have cx : wr.cell? (ad.add j) = some (.int .i64 x) := hcell _ (by rw [List.getElem?_map, hx]; rfl)
          obtain ⟨o, ho⟩ : ∃ o, opB x = o := ⟨_, rfl⟩
          have HI := Lib.hid (fun W => rfOpens_of x o ho W)
          have HX := Lib.hid hx
          have HO' := Lib.hid ho
          clear hcell hx ho
          cases o with
          | false =>
            have HN := Lib.hid (rmS_no HX.out HO'.out)
            have HO2 := Lib.hid hown2
            have HB2 := Lib.hid hb2
            clear hown2 hb2
            go_wp2_with (first
              | (go_at_call 34; with_reducible refine (HI.out _).mono ?_; rintro e w2 ⟨rfl, rfl⟩)
              | fail)
            go_roundw
            case rel => exact ⟨j + 1, by omega, by go_num, by rw [HN.out]; exact HO2.out, HB2.out⟩
            case measure => simp [intOf]; omega
          | true =>
            have HN := Lib.hid (rmS_yes HX.out HO'.out)
            have HCL := Lib.hid (rfCloses_any (some ad) k c j xs wr (HR.out.below hb2) (by omega) hlt2)
            obtain ⟨g, cg, hv, hcg, hg, hbg, _⟩ := own_at hown2 (by omega)
            simp only [Value.slice.injEq] at hv
            obtain ⟨rfl, _, rfl⟩ := hv
            obtain ⟨⟨u, cu⟩, fu⟩ := own_slot hown2 (j := j) (by omega)
            have hal := ansF_le xs (j + 1) 0
            rw [HL.out] at hal
            obtain ⟨a, ha⟩ : ∃ a, ansF xs (j + 1) 0 = a := ⟨_, rfl⟩
            rw [ha] at HN HCL hal
            rw [HL.out] at HN
            have HO3 := Lib.hid ((hown2.stored j (.int .i64 (a : Int))).1)
            have HB3 := Lib.hid (hb2.setCell (p := ⟨g, j, none⟩) hbg (.int .i64 (a : Int)))
            have hj0 : (0 : Int) ≤ (j : Int) := by omega
            have hjk : (j : Int) < (k : Int) := by omega
            by_cases hak : a < k
            · obtain ⟨⟨u2, cu2⟩, fu2⟩ := own_slot HO3.out (j := a) (by omega)
              have HO4 := Lib.hid ((HO3.out.stored a (.int .i64 (j : Int))).1)
              have HB4 := Lib.hid (HB3.out.setCell (p := ⟨g, a, none⟩) hbg (.int .i64 (j : Int)))
              rw [if_pos hak] at HN
              have ha0 : (0 : Int) ≤ (a : Int) := by omega
              have hakI : (a : Int) < (k : Int) := by omega
              clear hown2 hb2 ha
              go_wp2_with (first
                | (go_at_call 34; with_reducible refine (HI.out _).mono ?_; rintro e w2 ⟨rfl, rfl⟩)
                | (go_at_call 60; with_reducible refine HCL.out.mono ?_; rintro e w3 ⟨rfl, rfl⟩)
                | fail)
              go_roundw
              case rel => exact ⟨j + 1, by omega, by go_num, by rw [HN.out, List.map_set, List.map_set]; exact HO4.out, HB4.out⟩
              case measure => simp [intOf]; omega
            · rw [if_neg hak] at HN
              have hakI : ¬ (a : Int) < (k : Int) := by omega
              clear hown2 hb2 ha
              go_wp2_with (first
                | (go_at_call 34; with_reducible refine (HI.out _).mono ?_; rintro e w2 ⟨rfl, rfl⟩)
                | (go_at_call 60; with_reducible refine HCL.out.mono ?_; rintro e w3 ⟨rfl, rfl⟩)
                | fail)
              go_roundw
              case rel => exact ⟨j + 1, by omega, by go_num, by rw [HN.out, List.map_set]; exact HO3.out, HB3.out⟩
              case measure => simp [intOf]; omega
        · obtain rfl : j = k := by omega
          have HZ := Lib.hid (show rmS xs j = matF xs by have := rm_pm xs; rwa [HL.out] at this)
          have HO2 := Lib.hid hown2
          have HB2 := Lib.hid hb2
          clear hown2 hb2
          go_wp2
          go_ret
          exact ⟨_, rfl, by rw [← HZ.out]; exact HO2.out, HB2.out⟩
end Go.Proofs.Ytflbiblkphaagaa
