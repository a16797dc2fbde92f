/- The reference's falls, walked: whether a group stands from a place on, falling. -/
import Derived.BigQuiet
import Derived.Test.YtbnjflkafdkcpaaAcD
import Derived.Test.YtbnjflkafdkcpaaHp
import Derived.Test.YtbnjflkafdkcpaaMem3
namespace Go.Proofs.Ytbnjflkafdkcpaa
open Go.RowKit

set_option maxRecDepth 100000 in
set_option maxHeartbeats 1500000 in
theorem raFalls_any (A : Option Addr) (n c i a b : Nat) (o : List Int) (w : World) (hr : Rd w 1 A n (o.map (Value.int .i64))) (hn : n ≤ 100000) (hi : i ≤ 100000) (hab : a < b) (hb : b ≤ 100000) :
    Calls Try.prog 30 #[.slice A n c, .int .i64 (i : Int), .agg #[.int .i64 (a : Int), .int .i64 (b : Int)]] w fun e w' => e = .returned (.bool (fallB o i ((a : Int), (b : Int)))) ∧ Below w.heap.size w w' := by
  have hlen : o.length = n := by simpa using hr.len1
  have hg : lenG ((a : Int), (b : Int)) = b - a := by unfold lenG; simp only; omega
  obtain ⟨m, hm⟩ : ∃ m, b - a = m := ⟨_, rfl⟩
  rw [hm] at hg
  have hbm : (b : Int) - (a : Int) = (m : Int) := by omega
  have HFB := Lib.hid (show fallB o i ((a : Int), (b : Int)) = decide (i + m ≤ n ∧ ∀ k, k < m → o.getD (i + k) 0 = (b : Int) - 1 - (k : Int)) by unfold fallB; rw [hg, hlen])
  have hbx := heap_alloc_new w (.cells #[.int .i64 (a : Int), .int .i64 (b : Int)] 31)
  have HBN := Lib.hid (below_new w (.cells #[.int .i64 (a : Int), .int .i64 (b : Int)] 31))
  obtain ⟨W, hW⟩ : ∃ W, w.alloc (.cells #[.int .i64 (a : Int), .int .i64 (b : Int)] 31) = W := ⟨_, rfl⟩
  obtain ⟨bx, hbe⟩ : ∃ bx, w.heap.size = bx := ⟨_, rfl⟩
  rw [hW] at hbx HBN
  rw [hbe] at hbx
  have c0 : W.cell? ⟨bx, 0, none⟩ = some (.int .i64 (a : Int)) := hp_cell (j := 0) hbx rfl
  have c1 : W.cell? ⟨bx, 1, none⟩ = some (.int .i64 (b : Int)) := hp_cell (j := 1) hbx rfl
  have HR := Lib.hid (hr.below HBN.out)
  have HLEN := Lib.hid hlen
  have HW := Lib.hid hW
  have HBE := Lib.hid hbe
  have HC1 := Lib.hid c1
  obtain ⟨q, hq⟩ : ∃ q : Int, (n : Int) - (m : Int) = q := ⟨_, rfl⟩
  have HQ := Lib.hid hq
  clear hr hlen hg hbx hW hbe
  go_enter Try.func30, Try.ntmps30
  by_cases hfit : i + m ≤ n
  · have hqi : ¬ q < (i : Int) := by omega
    have HF := Lib.hid hfit
    clear hfit
    go_wp2
    rw [HBE.out, HW.out]
    go_loopw [8] (fun s wr => ∃ k q : Nat, k ≤ m ∧ s = .int .i64 (k : Int) ∧ (∀ j, j < k → o.getD (i + j) 0 = (b : Int) - 1 - (j : Int)) ∧ wr = W.drewN q) (fun s _ => m - (intOf s).toNat)
    case atStart => exact ⟨0, 0, Nat.zero_le _, rfl, fun j hj => by omega, rfl⟩
    case round =>
      obtain ⟨k, q', hk, rfl, hall, rfl⟩ := hrel
      have HALL := Lib.hid hall
      clear hall
      by_cases hlt : k < m
      · obtain ⟨x, hx⟩ : ∃ x, o[i + k]? = some x := ⟨_, List.getElem?_eq_getElem (by rw [HLEN.out]; have := HF.out; omega)⟩
        have hxd : o.getD (i + k) 0 = x := by rw [List.getD_eq_getElem?_getD, hx]; rfl
        obtain ⟨ad, rfl, _, hcell⟩ := HR.out.at_ (show i + k < n by have := HF.out; omega)
        have cx := hcell (.int .i64 x) (by rw [List.getElem?_map, hx]; rfl)
        obtain ⟨p, hp⟩ : ∃ p, i + k = p := ⟨_, rfl⟩
        rw [hp] at cx
        have hik : (i : Int) + (k : Int) = (p : Int) := by omega
        have hpn : (p : Int) < (n : Int) := by have := HF.out; omega
        have hki : (k : Int) < (m : Int) := by omega
        obtain ⟨y, hy⟩ : ∃ y : Int, (b : Int) - 1 - (k : Int) = y := ⟨_, rfl⟩
        have hb1 : (b : Int) - 1 = ((b - 1 : Nat) : Int) := by omega
        have HY := Lib.hid hy
        have HXD := Lib.hid hxd
        obtain ⟨bb, hbb⟩ : ∃ bb : Int, (b : Int) - 1 = bb := ⟨_, rfl⟩
        rw [hbb] at hy
        have c1 := HC1.out
        clear hx hxd hcell hb1 hp
        by_cases hxy : x = y
        · subst hxy
          have HN := Lib.hid (show ∀ j, j < k + 1 → o.getD (i + j) 0 = (b : Int) - 1 - (j : Int) from fun j hj => by
            by_cases e : j = k
            · subst e
              rw [HXD.out, HY.out]
            · exact HALL.out j (by omega))
          have g : (x != x) = false := by simp
          go_wp2
          go_quiet (fail)
          go_wp2
          go_roundw
          case rel => exact ⟨k + 1, _, by omega, by go_num, HN.out, rfl⟩
          case measure => simp [intOf]; omega
        · have g : (x != y) = true := by simp [hxy]
          have HN := Lib.hid (show fallB o i ((a : Int), (b : Int)) = false by
            rw [HFB.out]
            refine decide_eq_false ?_
            rintro ⟨_, h⟩
            have := h k hlt
            rw [HXD.out, HY.out] at this
            exact hxy this)
          clear hxy
          go_wp2
          go_quiet (fail)
          go_wp2
          go_ret
          exact ⟨by rw [HN.out]; rfl, below_drewN (below_drewN HBN.out _) _⟩
      · obtain rfl : k = m := by omega
        have HN := Lib.hid (show fallB o i ((a : Int), (b : Int)) = true by
          rw [HFB.out]
          exact decide_eq_true ⟨HF.out, HALL.out⟩)
        go_wp2
        go_ret
        exact ⟨by rw [HN.out]; rfl, below_drewN HBN.out _⟩
  · have hqi : q < (i : Int) := by omega
    have HN := Lib.hid (show fallB o i ((a : Int), (b : Int)) = false by
      rw [HFB.out]
      exact decide_eq_false fun h => hfit h.1)
    clear hfit
    have HB2 : Hid (Below w.heap.size w (w.alloc (.cells #[.int .i64 (a : Int), .int .i64 (b : Int)] 31))) := Lib.hid (by rw [HW.out]; exact HBN.out)
    have c0' := c0
    have c1' := c1
    rw [← HW.out, ← HBE.out] at c0' c1'
    go_wp2
    go_ret
    exact ⟨by rw [HN.out]; rfl, HB2.out⟩
end Go.Proofs.Ytbnjflkafdkcpaa
