/- mirror.each, with any closure, walked. -/
import Derived.BigQuiet
import Derived.Shelf.Abstract
import Derived.Laws.BitsAllLaws
import Derived.Test.YtbnjflkafdkcpaaMrP
import Derived.Test.YtbnjflkafdkcpaaBxM
namespace Go.Proofs.Ytbnjflkafdkcpaa
open Go.RowKit

theorem MirAt.notc {w : World} {m n : Nat} (h : MirAt w m n) : ∃ o, w.heap[m]? = some o ∧ NotC o := h.obj
theorem MirAt.noc {w w' : World} {m n : Nat} (h : MirAt w m n) (hk : NoC w w') : MirAt w' m n := by
  obtain ⟨o, h1, h2⟩ := h.obj
  exact h.heap ((hk m o h1 h2).trans h1.symm)
set_option maxRecDepth 100000 in
set_option maxHeartbeats 4000000 in
theorem mrEach_any (f : FuncId) (lb : Array Value) (eg : ∀ args w, (callFunc f args).run Try.prog w = .ok (.enter f args) w) (A B : Option Addr) (n c d base : Nat) (cs lv : List Int) (J : Nat → World → Prop) (hl : cs.length = n) (hl2 : lv.length = n) (hn : n ≤ 100000)
    (hwf : ∀ x ∈ cs, (Lit.int .i64 x).wf = true)
    (hbs : ∀ k W, J k W → base ≤ W.heap.size)
    (hrd : ∀ k W, J k W → Rd W 1 A n (cs.map (Value.int .i64))) (hrs : ∀ k W, J k W → Rd W 1 B n (lv.map (Value.int .i64)))
    (hk : ∀ k W W' S, J k W → Kept W W' S → (∀ i ∈ S, ∃ o, W.heap[i]? = some o ∧ NotC o) → (∀ i ∈ S, base ≤ i) → J k W')
    (hdo : ∀ k x y W, cs[k]? = some x → lv[k]? = some y → J k W → Calls Try.prog f (#[.int .i64 x, .int .i64 (mrV x y)] ++ lb) W fun e W' => e = .returned (.tuple #[]) ∧ J (k + 1) W' ∧ NoC W W') (w : World) (h0 : J 0 w) :
    Calls Try.prog 36 #[.slice A n c, .slice B n d, .func (.func f) #[] lb] w fun e w' => e = .returned (.tuple #[]) ∧ J n w' := by
  have HL := Lib.hid hl
  have HL2 := Lib.hid hl2
  have HWF := Lib.hid hwf
  have HBS := Lib.hid hbs
  have HRD := Lib.hid hrd
  have HRS := Lib.hid hrs
  have HK := Lib.hid hk
  have HDO := Lib.hid hdo
  have H0 := Lib.hid h0
  have hmk : ∀ (W : World), (Instr.makeMap 52 none).run Try.prog W = .ok (.map (some W.heap.size)) (W.alloc (.map #[] 0)) := fun _ => rfl
  clear hl hl2 hwf hbs hrd hrs hk hdo h0
  go_enter Try.func36, Try.ntmps36
  go_wp2_with fail
  obtain ⟨m0, hm0⟩ : ∃ m0, w.heap.size = m0 := ⟨_, rfl⟩
  have HJ1 : Hid (J 0 (w.alloc (.map #[] 0))) := Lib.hid (HK.out 0 w _ [] H0.out (Kept.of_below (below_new _ _) []) (by simp) (by simp))
  have HM1 : Hid (MirAt (w.alloc (.map #[] 0)) m0 0) := Lib.hid (by rw [← hm0]; exact MirAt.made w)
  have HB0 : Hid (base ≤ m0) := Lib.hid (by rw [← hm0]; exact HBS.out 0 w H0.out)
  rw [hm0]
  clear hm0
  go_loopw [18] (fun i wr => ∃ k : Nat, k ≤ n ∧ i = .int .i64 (k : Int) ∧ J k wr ∧ MirAt wr m0 k) (fun i _ => n - (intOf i).toNat)
  case atStart => exact ⟨0, Nat.zero_le _, rfl, HJ1.out, HM1.out⟩
  case round =>
    obtain ⟨k, hk, rfl, hJ, hM⟩ := hrel
    have HJ := Lib.hid hJ
    have HM := Lib.hid hM
    clear hJ hM
    by_cases hlt : k < n
    · obtain ⟨x, hx⟩ : ∃ x, cs[k]? = some x := ⟨_, List.getElem?_eq_getElem (by rw [HL.out]; exact hlt)⟩
      obtain ⟨y, hy⟩ : ∃ y, lv[k]? = some y := ⟨_, List.getElem?_eq_getElem (by rw [HL2.out]; exact hlt)⟩
      obtain ⟨ad, rfl, _, hc1⟩ := (HRD.out k wr HJ.out).at_ hlt
      obtain ⟨bd, rfl, _, hc2⟩ := (HRS.out k wr HJ.out).at_ hlt
      have cx := hc1 (.int .i64 x) (by rw [List.getElem?_map, hx]; rfl)
      have cy := hc2 (.int .i64 y) (by rw [List.getElem?_map, hy]; rfl)
      have hki : (k : Int) < (n : Int) := by omega
      have hk5 : k ≤ 100000 := by omega
      have HWX := Lib.hid (HWF.out x (List.mem_of_getElem? hx))
      have HD := Lib.hid (fun W => HDO.out k x y W hx hy)
      clear hx hy hc1 hc2
      by_cases hy2 : y % 2 = 0
      · have hbit : bits .and .i64 y 1 = 0 := by rw [and1_i64, hy2]
        have hv : mrV x y = x := if_pos hy2
        rw [hv] at HD
        clear hy2 hv
        go_wp2_with (first
          | (go_at_fn f; refine (HD.out _ HJ.out).mono ?_; rintro e w2 ⟨rfl, hJ2, hN2⟩; have HJ2 := Lib.hid hJ2; have HM2 := Lib.hid (HM.out.noc hN2); clear hJ2 hN2)
          | fail)
        go_roundw
        case rel => exact ⟨k + 1, by omega, by go_num, HJ2.out, by
          obtain ⟨D, h1, h2⟩ := HM2.out
          exact ⟨D, h1.mono (Nat.le_succ k), h2⟩⟩
        case measure => simp [intOf]; omega
      · have hbit : bits .and .i64 y 1 = 1 := by rw [and1_i64]; omega
        have hv : mrV x y = mirF x := if_neg hy2
        rw [hv] at HD
        obtain ⟨z, hz⟩ : ∃ z, mirF x = z := ⟨_, rfl⟩
        have HLK := Lib.hid (mrLook_any m0 k x wr HM.out HWX.out hk5)
        rw [hz] at HD HLK
        clear hy2 hv hz
        go_wp2_with (first
          | (go_at_call 41; refine HLK.out.mono ?_; rintro e w1 ⟨rfl, hM1, hK1⟩; have HM1 := Lib.hid hM1; have HJ1 := Lib.hid (HK.out k wr w1 [m0] HJ.out hK1 (fun i hi => by rw [List.mem_singleton.1 hi]; exact HM.out.notc) (fun i hi => by rw [List.mem_singleton.1 hi]; exact HB0.out)); clear hM1 hK1)
          | (go_at_fn f; refine (HD.out _ HJ1.out).mono ?_; rintro e w2 ⟨rfl, hJ2, hN2⟩; have HJ2 := Lib.hid hJ2; have HM2 := Lib.hid (HM1.out.noc hN2); clear hJ2 hN2)
          | fail)
        go_roundw
        case rel => exact ⟨k + 1, by omega, by go_num, HJ2.out, HM2.out⟩
        case measure => simp [intOf]; omega
    · obtain rfl : k = n := by omega
      go_wp2_with fail
      exact bodyPost_end (v := .tuple #[]) (by simp [results, go_sem]) rfl ⟨rfl, HJ.out⟩
end Go.Proofs.Ytbnjflkafdkcpaa
