/- Texts of one claim, one behind the other. -/
import Derived.Laws.EntriesVeiled
import Derived.Test.YtdgomaoikeffhaaGreatMgAp2
import Derived.Test.YtdgomaoikeffhaaGreatMgAp3
/- neutral's fill, rows, pick, walked. -/
namespace Go.Proofs.YtdgomaoikeffhaaGreat
open Go.RowKit

theorem mixR_set {R l : List Int} (h : R.length = l.length) {k : Nat} {x : Int} (hk : k < l.length) (hR : R[k]? = some x) : mixR R l (k + 1) = (mixR R l k).set k x := by
  rw [mixR_fill h (Nat.le_succ k) hk (fun j h1 h2 => by rw [show j = k by omega]; exact hR), Nat.succ_sub (Nat.le_refl k), Nat.sub_self]
  rfl
set_option maxRecDepth 100000 in
set_option maxHeartbeats 2000000 in
theorem nuFill_any (base g n c lo m cm : Nat) (ys : List Int) (x : Int) (w : World) (h : w.ownsRow base 3 1 (.slice (some ⟨g, 0, none⟩) n c) n (ys.map (Value.int .i64))) (hm : lo + m ≤ n) (hn : n ≤ 1000000) :
    Calls Tryz.prog 76 #[.slice (some ⟨g, lo, none⟩) m cm, .int .i64 x] w fun e w' => e = .returned (.tuple #[]) ∧ w'.ownsRow base 3 1 (.slice (some ⟨g, 0, none⟩) n c) n ((setsR ys lo x m).map (Value.int .i64)) ∧ w.grownBy w' (some g) := by
  have hyl : ys.length = n := by have := h.1; simpa using this
  have HYL := Lib.hid hyl
  have H := Lib.hid h
  clear h hyl
  go_enter Tryz.func76, Tryz.ntmps76
  go_wp2
  go_loopw [7] (fun i wr => ∃ k : Nat, k ≤ m ∧ i = .int .i64 (k : Int) ∧ wr.ownsRow base 3 1 (.slice (some ⟨g, 0, none⟩) n c) n ((setsR ys lo x k).map (Value.int .i64)) ∧ w.grownBy wr (some g)) (fun i _ => m - (intOf i).toNat)
  case atStart => exact ⟨0, Nat.zero_le _, rfl, H.out, World.grownBy.refl _ _⟩
  case round =>
    obtain ⟨k, hk, rfl, ho, hg⟩ := hrel
    have HO := Lib.hid ho
    have HG := Lib.hid hg
    by_cases hlt : k < m
    · have hki : (k : Int) < (m : Int) := by omega
      have fz : wr.frozen? ⟨g, lo + k, none⟩ = false := ho.frozenAt (lo + k)
      have hc : ∃ z, wr.cell? ⟨g, lo + k, none⟩ = some z := by
        have hl : lo + k < (setsR ys lo x k).length := by rw [setsR_len, HYL.out]; omega
        obtain ⟨g2, c2, hv2, _, _, _, hcs2⟩ := own_at HO.out (show 0 < n by omega)
        simp only [Value.slice.injEq, Option.some.injEq, Addr.mk.injEq, and_true, true_and] at hv2
        obtain ⟨rfl, rfl⟩ := hv2
        exact ⟨_, hcs2 (lo + k) (.int .i64 ((setsR ys lo x k)[lo + k])) (by rw [List.getElem?_map, List.getElem?_eq_getElem hl]; rfl)⟩
      obtain ⟨z, hc⟩ := hc
      have HS : Hid ((wr.setCell ⟨g, lo + k, none⟩ (.int .i64 x)).ownsRow base 3 1 (.slice (some ⟨g, 0, none⟩) n c) n ((setsR ys lo x (k + 1)).map (Value.int .i64))) := Lib.hid (by
        rw [setsR, List.map_set]
        exact (HO.out.stored (lo + k) (.int .i64 x)).1)
      have HG2 := Lib.hid (grown_set HG.out (lo + k) (.int .i64 x))
      clear ho hg
      go_wp2
      go_roundw
      case rel => exact ⟨k + 1, by omega, by go_num, HS.out, HG2.out⟩
      case measure => simp [intOf]; omega
    · obtain rfl : k = m := by omega
      go_wp2
      exact bodyPost_end (v := .tuple #[]) (by simp [results, go_sem]) rfl ⟨rfl, HO.out, HG.out⟩
set_option maxRecDepth 100000 in
set_option maxHeartbeats 4000000 in
theorem nuRows_any (f : FuncId) (lb : Array Value) (eg : ∀ args w, (callFunc f args).run Tryz.prog w = .ok (.enter f args) w) (A : Option Addr) (n c : Nat) (l : List Int) (J : Nat → World → Prop) (hl : l.length = n) (hn : n ≤ 100000)
    (hrd : ∀ k W, J k W → Rd W 1 A n (l.map (Value.int .i64))) (hadv : ∀ k x W, l[k]? = some x → neuB x = false → J k W → J (k + 1) W)
    (hdo : ∀ lo hi W, RowN l lo hi → J lo W → Calls Tryz.prog f (#[.int .i64 (lo : Int), .int .i64 (hi : Int)] ++ lb) W fun e W' => e = .returned (.tuple #[]) ∧ J hi W') (w : World) (h0 : J 0 w) :
    Calls Tryz.prog 73 #[.slice A n c, .func (.func f) #[] lb] w fun e w' => e = .returned (.tuple #[]) ∧ J n w' := by
  have HL := Lib.hid hl
  have HRD := Lib.hid hrd
  have HADV := Lib.hid hadv
  have HDO := Lib.hid hdo
  have H0 := Lib.hid h0
  clear hl hrd hadv hdo h0
  go_enter Tryz.func73, Tryz.ntmps73
  go_wp2
  go_loopw [4] (fun i wr => ∃ k q : Nat, k ≤ n + 1 ∧ i = .int .i64 (k : Int) ∧ q = min k n ∧ J q wr ∧ (k = 0 ∨ n < k ∨ ∃ x, l[k - 1]? = some x ∧ neuB x = false)) (fun i _ => n + 1 - (intOf i).toNat)
  case atStart => exact ⟨0, 0, Nat.zero_le _, rfl, by simp, H0.out, .inl rfl⟩
  case round =>
    obtain ⟨k, q, hk, rfl, hq, hJ, hah⟩ := hrel
    have HJ := Lib.hid hJ
    have HAH := Lib.hid hah
    have HQ := Lib.hid hq
    clear hJ hah hq
    by_cases hlt : k < n
    · have hqk : q = k := by have := HQ.out; omega
      have HJK : Hid (J k wr) := Lib.hid (by rw [← hqk]; exact HJ.out)
      have HR := Lib.hid (HRD.out k wr HJK.out)
      have hki : (k : Int) < (n : Int) := by omega
      clear hqk
      go_wp2
      go_loopw [5] (fun i wi => ∃ h : Nat, wi = wr ∧ k ≤ h ∧ h ≤ n ∧ i = .int .i64 (h : Int) ∧ ∀ j x, k ≤ j → j < h → l[j]? = some x → neuB x = true) (fun i _ => n - (intOf i).toNat)
      case atStart => exact ⟨k, rfl, Nat.le_refl _, by omega, rfl, fun j x h1 h2 => by omega⟩
      case round =>
        obtain ⟨h, rfl, hkh, hhn, rfl, hne⟩ := hrel
        have HNE := Lib.hid hne
        clear hne
        have stop : (h = n ∨ ∃ x, l[h]? = some x ∧ neuB x = false) → Hid ((k < h → RowN l k h) ∧ (h < n → ∃ x, l[h]? = some x ∧ neuB x = false)) := fun hs => Lib.hid ⟨fun hlt2 => ⟨hlt2, by rw [HL.out]; exact hhn, HNE.out, by
            rcases HAH.out with h1 | h1 | h1
            · exact .inl h1
            · omega
            · exact .inr h1, by rw [HL.out]; exact hs⟩, fun hlt2 => hs.resolve_left (by omega)⟩
        by_cases hh : h < n
        · obtain ⟨x, hx⟩ : ∃ x, l[h]? = some x := ⟨_, List.getElem?_eq_getElem (by rw [HL.out]; exact hh)⟩
          obtain ⟨ad, rfl, hab, hcell⟩ := HR.out.at_ hh
          have cx := hcell (.int .i64 x) (by rw [List.getElem?_map, hx]; rfl)
          have hhi : (h : Int) < (n : Int) := by omega
          clear hcell
          cases hb : neuB x with
          | true =>
            have HN := Lib.hid (fun W => nuNeu_any x true hb W)
            have HNE2 := Lib.hid (show ∀ j y, k ≤ j → j < h + 1 → l[j]? = some y → neuB y = true from fun j y h1 h2 hy => by
              by_cases e : j = h
              · subst e
                rw [hx] at hy
                obtain rfl := Option.some.inj hy
                exact hb
              · exact HNE.out j y h1 (by omega) hy)
            clear hx hb stop
            go_wp2_with (first
              | (go_at_call 101; refine (HN.out _).mono ?_; rintro e w1 ⟨rfl, rfl⟩)
              | fail)
            go_roundw
            case rel => exact ⟨h + 1, by first | rfl | trivial, by omega, by omega, by go_num, HNE2.out⟩
            case measure => simp [intOf]; omega
          | false =>
            have HN := Lib.hid (fun W => nuNeu_any x false hb W)
            have HST := stop (.inr ⟨x, hx, hb⟩)
            clear hb stop
            by_cases hkh2 : k < h
            · have HD := Lib.hid (HDO.out k h wr (HST.out.1 hkh2) HJK.out)
              have hki2 : (k : Int) < (h : Int) := by omega
              have HX := Lib.hid hx
              clear hx
              go_wp2_with (first
                | (go_at_call 101; refine (HN.out _).mono ?_; rintro e w1 ⟨rfl, rfl⟩)
                | fail)
              refine HD.out.mono ?_
              rintro e w2 ⟨rfl, hj2⟩
              have HJ2 := Lib.hid hj2
              clear hj2
              go_wp2_with fail
              obtain ⟨y, hy1, hy2⟩ := HST.out.2 hh
              go_roundw
              case rel => exact ⟨h + 1, h + 1, by omega, by go_num, by omega, HADV.out h y _ hy1 hy2 HJ2.out, .inr (.inr ⟨y, by simpa using hy1, hy2⟩)⟩
              case measure => simp [intOf]; omega
            · obtain rfl : h = k := by omega
              have HX := Lib.hid hx
              clear hx
              go_wp2_with (first
                | (go_at_call 101; refine (HN.out _).mono ?_; rintro e w1 ⟨rfl, rfl⟩)
                | fail)
              obtain ⟨y, hy1, hy2⟩ := HST.out.2 hh
              go_roundw
              case rel => exact ⟨h + 1, h + 1, by omega, by go_num, by omega, HADV.out h y _ hy1 hy2 HJK.out, .inr (.inr ⟨y, by simpa using hy1, hy2⟩)⟩
              case measure => simp [intOf]; omega
        · obtain rfl : h = n := by omega
          have HST := stop (.inl rfl)
          have HD := Lib.hid (HDO.out k h wr (HST.out.1 hlt) HJK.out)
          clear stop
          go_wp2_with fail
          refine HD.out.mono ?_
          rintro e w2 ⟨rfl, hj2⟩
          have HJ2 := Lib.hid hj2
          clear hj2
          go_wp2_with fail
          go_roundw
          case rel => exact ⟨h + 1, h, by omega, by go_num, by omega, HJ2.out, .inr (.inl (by omega))⟩
          case measure => simp [intOf]; omega
    · have hqn : q = n := by have := HQ.out; omega
      subst hqn
      have hki : ¬ (k : Int) < (q : Int) := by omega
      go_wp2
      exact bodyPost_end (v := .tuple #[]) (by simp [results, go_sem]) rfl ⟨rfl, HJ.out⟩
end Go.Proofs.YtdgomaoikeffhaaGreat
