/- The project's Ranges of a table. -/
import Derived.Test.YtfobhnpmaooalaaTrT
import Derived.Test.YtfobhnpmaooalaaTrQ
namespace Go.Proofs.Ytfobhnpmaooalaa
open Go.RowKit

theorem rangeSliceT : SliceOf Try.prog 22 31 3 24 := .mk_ (z := .agg #[.int .i64 0, .int .i64 0, .int .i64 0]) Try.underlying22 (by kernel_rfl) rfl
theorem oneInt3 (k : IntKind) (x y z : Int) : ∀ u ∈ [Value.int k x, .int k y, .int k z], u.oneCell' = true := by
  intro u hu
  simp at hu
  rcases hu with rfl | rfl | rfl <;> rfl
theorem cellsG_setHi (o : List Rg) (s : Rg) (x : Int) : (cellsG (o ++ [s])).set (o.length * 3 + 1) (.int .i64 x) = cellsG (o ++ [(s.1, x, s.2.2)]) := by
  rw [cellsG_snoc, cellsG_snoc, List.set_append_right _ _ (by rw [cellsG_len]; omega), cellsG_len, show o.length * 3 + 1 - o.length * 3 = 1 by omega]
  rfl
/-- What a walk over the codes holds at code k. -/
def RowsAt (w : World) (g : Int → Int) (z : Int) (v a i : Value) (wr : World) : Prop := ∃ (k : Nat) (rows : List Rg) (ah : Int), (k : Int) ≤ 1114112 ∧ i = .int .i64 k ∧ a = .int .i64 ah ∧ rowsF g z k = (rows, ah) ∧ wr.ownsRow w.heap.size 31 3 v rows.length (cellsG rows) ∧ Below w.heap.size w wr
theorem rows_fin {l : List Rg} {z ah : Int} {k : Nat} {rows : List Rg} (h : riseB (-1) l = true) (hk : (k : Int) ≤ 1114112) (hn : ¬ (k : Int) < 1114112) (hr : rowsF (getG l z) z k = (rows, ah)) : rows = refRows l z := by
  have e : k = 1114112 := by omega
  rw [← rows_all h, ← e, hr]
theorem rows_step {g : Int → Int} {z ah : Int} {k : Nat} {rows : List Rg} (h : rowsF g z k = (rows, ah)) : rowsF g z (k + 1) = runS z k (g k) (rows, ah) := by rw [rowsF, h]
theorem rows_len {g : Int → Int} {z ah : Int} {k : Nat} {rows : List Rg} (h : rowsF g z k = (rows, ah)) : rows.length ≤ k := by
  have := rowsF_len g z k
  rwa [h] at this
theorem rows_some {g : Int → Int} {z ah : Int} {k : Nat} {rows : List Rg} (h : rowsF g z k = (rows, ah)) (ha : ah ≠ z) : ∃ o s, rows = o ++ [s] := by
  have := rowsF_some (g := g) (z := z) k (by rw [h]; exact ha)
  rwa [h] at this
theorem runS_z {z x v ah : Int} {rows : List Rg} (h : v = z) : runS z x v (rows, ah) = (rows, v) := if_pos h
theorem runS_on {z x v ah : Int} {o : List Rg} {s : Rg} (h : v ≠ z) (h2 : v = ah) : runS z x v (o ++ [s], ah) = (o ++ [(s.1, x, s.2.2)], v) := by
  unfold runS
  rw [if_neg h, if_pos h2]
  simp only [lastHi_snoc]
theorem runS_new {z x v ah : Int} {rows : List Rg} (h : v ≠ z) (h2 : v ≠ ah) : runS z x v (rows, ah) = (rows ++ [(x, x, v)], v) := by
  unfold runS
  rw [if_neg h, if_neg h2]
set_option maxRecDepth 100000 in
set_option maxHeartbeats 4000000 in
theorem prRanges_any (b nb : Nat) (l : List Rg) (z : Int) (w : World) (hT : TabAt w b l z nb) (hl : riseB (-1) l = true) :
    Calls Try.prog 14 #[.pointer (some ⟨b, 0, none⟩)] w fun e w' => (∃ v, e = .returned v ∧ w'.ownsRow w.heap.size 31 3 v (refRows l z).length (cellsG (refRows l z))) ∧ Below w.heap.size w w' := by
  have HT := Lib.hid hT
  have hz : w.cell? ⟨b, 8705, none⟩ = some (.int .i64 z) := by
    obtain ⟨cs, bl, wh, g, cap, h1, h2, h3, h4, _⟩ := hT
    exact h1.cell h4
  have HFIN := Lib.hid (fun (k : Nat) (rows : List Rg) (ah : Int) => rows_fin (z := z) (ah := ah) (k := k) (rows := rows) hl)
  obtain ⟨R, hR⟩ : ∃ R, refRows l z = R := ⟨_, rfl⟩
  rw [hR] at HFIN ⊢
  obtain ⟨g, hg⟩ : ∃ g, getG l z = g := ⟨_, rfl⟩
  have HG := Lib.hid (fun c => congrFun hg c)
  rw [hg] at HFIN
  clear hT hl hR hg
  go_enter Try.func14, Try.ntmps14
  go_wp2_with fail
  refine (prMade_any b nb l z w HT.out).mono ?_
  rintro e w1 ⟨rfl, rfl⟩
  go_wp2
  go_loopw [3, 4, 15] (fun v a i wr => RowsAt w g z v a i wr) (fun _ _ i _ => (1114112 - intOf i).toNat)
  case atStart => exact ⟨0, [], z, by omega, rfl, rfl, rfl, ⟨rfl, .inl ⟨rfl, rfl⟩⟩, Below.refl _ _⟩
  case round =>
    obtain ⟨k, rows, ah, hk, rfl, rfl, hst, hown, hb⟩ := hrel
    have HST := Lib.hid hst
    clear hst
    by_cases hlt : (k : Int) < 1114112
    · obtain ⟨y, hy⟩ : ∃ y, g k = y := ⟨_, rfl⟩
      have HV := Lib.hid (prValue_any b nb l z k wr (HT.out.below hb) (by omega) (by omega))
      rw [HG.out, hy] at HV
      have HS := Lib.hid (rows_step HST.out)
      rw [hy] at HS
      have HLEN := Lib.hid (rows_len HST.out)
      have HSOME := Lib.hid (rows_some HST.out)
      obtain ⟨Av, cv, rfl, hcv⟩ := own_form hown
      have HO := Lib.hid hown
      clear hy hown
      go_wp2_with fail
      refine HV.out.mono ?_
      rintro e w3 ⟨rfl, hb3⟩
      have hb4 := hb.trans (hb3.mono hb.size)
      have hz3 := cell_below hb4 hz
      have HO3 := Lib.hid (own_below HO.out hb3)
      clear HV HO
      by_cases h1 : y = z
      · have HX := Lib.hid (HS.out.trans (runS_z h1))
        subst h1
        go_wp2
        go_roundw
        case rel => exact ⟨k + 1, rows, y, by omega, by go_num, rfl, HX.out, HO3.out, hb4⟩
        case measure => simp [intOf]; omega
      · have g1 : (y == z) = false := by simp [h1]
        by_cases h2 : y = ah
        · obtain ⟨o, s, hrows⟩ := HSOME.out (by rw [← h2]; exact h1)
          have HX := Lib.hid (show rowsF g z (k + 1) = (o ++ [(s.1, (k : Int), s.2.2)], y) by rw [HS.out, hrows]; exact runS_on h1 h2)
          obtain ⟨h, hh⟩ : ∃ h, o.length = h := ⟨_, rfl⟩
          have hm : rows.length = h + 1 := by rw [hrows, List.length_append, hh]; rfl
          obtain ⟨gb, rfl⟩ : ∃ gb, Av = some ⟨gb, 0, none⟩ := by
            obtain ⟨g', cap', hv, _⟩ := HO3.out.form (by omega)
            injection hv with e
            exact ⟨g', e⟩
          have hgb := (HO3.out.lt gb rfl).1
          have hst2 := (HO3.out.stored (h * 3 + 1) (.int .i64 k)).1
          rw [show cellsG rows = cellsG (o ++ [s]) by rw [hrows], ← hh, cellsG_setHi, hh] at hst2
          obtain ⟨⟨cu, hcu⟩, hfz⟩ := own_slot HO3.out (j := h * 3 + 1) (by omega)
          have hb5 := hb4.setCell (p := ⟨gb, h * 3 + 1, none⟩) (by simp only; exact hgb) (.int .i64 k)
          obtain ⟨m, hml⟩ : ∃ m, rows.length = m := ⟨_, rfl⟩
          have he : (rows.length : Int) - 1 = (h : Int) := by omega
          have hhm : h < rows.length := by omega
          have HN := Lib.hid hst2
          have HLEQ := Lib.hid (show (o ++ [(s.1, (k : Int), s.2.2)]).length = rows.length by rw [hm]; simp [hh])
          have g2 : (y == ah) = true := by simp [h2]
          clear h2
          have HK := Lib.hid hk
          have HLT := Lib.hid hlt
          have hlen := HLEN.out
          have hh9 : h ≤ k := by omega
          clear hst2 hml hh h1 HSOME hm HO3 hrows
          go_wp2
          go_roundw
          case rel => exact ⟨k + 1, _, y, by have := HLT.out; omega, by go_num, rfl, HX.out, by rw [HLEQ.out]; exact HN.out, hb5⟩
          case measure => have := HLT.out; simp [intOf]; omega
        · have HX := Lib.hid (HS.out.trans (runS_new h1 h2))
          have g2 : (y == ah) = false := by simp [h2]
          have hlen := HLEN.out
          have hsz := hb4.size
          clear h1 h2 HSOME
          have HNEW := Lib.hid (cells_new w3 [.int .i64 k, .int .i64 k, .int .i64 y] 31)
          have HB4 := Lib.hid hb4
          have HO4 := Lib.hid (HO3.out.alloc (.cells #[.int .i64 k, .int .i64 k, .int .i64 y] 31))
          go_wp2_with (at_builtin; refine wpList_app rfl _ _ 22 rfl rangeSliceT (by decide) (.slice Av rows.length cv) rows.length (cellsG rows) rfl HO4.out ⟨w3.heap.size, 0, none⟩ 1 1 [.int .i64 k, .int .i64 k, .int .i64 y] rfl rfl HNEW.out (oneInt3 _ _ _ _) (by omega) (by unfold maxLen; omega) (by simp; omega) ?_; intro v' w5 h5 g5 _; have hb5 := below_app (HB4.out.alloc HB4.out.size (.cells #[.int .i64 k, .int .i64 k, .int .i64 y] 31)) g5 HO4.out (by simp; omega))
          rw [← cellsG_snoc rows ((k : Int), (k : Int), y)] at h5
          go_wp2
          go_roundw
          case rel => exact ⟨k + 1, _, y, by omega, by go_num, rfl, HX.out, by simpa using h5, hb5⟩
          case measure => simp [intOf]; omega
    · have HR := Lib.hid (HFIN.out k rows ah hk (by omega) HST.out)
      go_wp2
      go_ret
      exact ⟨⟨_, rfl, by rw [← HR.out]; exact hown⟩, hb⟩
end Go.Proofs.Ytfobhnpmaooalaa
