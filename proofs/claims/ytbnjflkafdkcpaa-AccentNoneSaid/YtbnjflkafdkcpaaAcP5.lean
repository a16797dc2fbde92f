/- accent.Order, walked. -/
import Derived.Test.YtbnjflkafdkcpaaAcP4
import Derived.Test.YtbnjflkafdkcpaaOrPm
import Derived.Test.YtbnjflkafdkcpaaCloneI
import Derived.Test.YtbnjflkafdkcpaaRaO
namespace Go.Proofs.Ytbnjflkafdkcpaa
open Go.RowKit

theorem oneIntsA (l : List Int) : ∀ u ∈ l.map (Value.int .i64), u.oneCell' = true := fun u hu => by
  obtain ⟨x, _, rfl⟩ := List.mem_map.1 hu
  rfl
set_option maxRecDepth 100000 in
set_option maxHeartbeats 2000000 in
theorem acOrder_any (A B C : Option Addr) (n m p c d e : Nat) (o ls : List Int) (ms : List Bool) (w : World) (hr : Rd w 1 A n (o.map (Value.int .i64))) (hs : Rd w 1 B m (ls.map (Value.int .i64))) (ht : Rd w 1 C p (ms.map Value.bool)) (hn : n ≤ 100000) :
    Calls Try.prog 9 #[.slice A n c, .slice B m d, .slice C p e] w fun e w' => ∃ v, e = .returned (.tuple #[v, .int .i64 (accE o ls ms)]) ∧ w'.ownsRow w.heap.size 3 1 v (accR o ls ms).length ((accR o ls ms).map (Value.int .i64)) ∧ Below w.heap.size w w' := by
  have hol : o.length = n := by simpa using hr.len1
  have hll : ls.length = m := by simpa using hs.len1
  have hml : ms.length = p := by simpa using ht.len1
  by_cases hlen : n ≠ m ∨ n ≠ p
  · have HE : Hid (accE o ls ms = 1) := Lib.hid (by unfold accE; rw [if_pos (by omega)])
    have HR : Hid (accR o ls ms = []) := Lib.hid (by unfold accR; rw [if_pos (by omega)])
    clear hr hs ht hol hll hml
    rw [HE.out, HR.out]
    by_cases hnm : n = m
    · subst hnm
      have hnp : ((n : Int) != (p : Int)) = true := by simp; omega
      clear hlen
      go_enter Try.func9, Try.ntmps9
      go_wp2_with fail
      exact bodyPost_ret (v := .tuple #[.slice none 0 0, .int .i64 1]) (by simp [results, go_sem]) rfl ⟨_, rfl, ⟨rfl, .inl ⟨rfl, rfl⟩⟩, Below.refl _ _⟩
    · have hnm2 : ((n : Int) != (m : Int)) = true := by simp; omega
      clear hlen
      go_enter Try.func9, Try.ntmps9
      go_wp2_with fail
      exact bodyPost_ret (v := .tuple #[.slice none 0 0, .int .i64 1]) (by simp [results, go_sem]) rfl ⟨_, rfl, ⟨rfl, .inl ⟨rfl, rfl⟩⟩, Below.refl _ _⟩
  · obtain rfl : n = m := by omega
    obtain rfl : n = p := by omega
    clear hlen
    have HIV := Lib.hid (orInverse_any A n c o w hr hn)
    by_cases hp : permB o = true
    · have HE : Hid (accE o ls ms = 0) := Lib.hid (by unfold accE; rw [if_neg (by omega), if_neg (by rw [hp]; decide)])
      have HR : Hid (accR o ls ms = accU0 o (grpA ls ms n)) := Lib.hid (by unfold accR; rw [if_neg (by omega), if_neg (by rw [hp]; decide)]; unfold grpF; rw [if_pos (by omega), hll]; rfl)
      have hiv : invE o = (invI o, 0) := by unfold invE; rw [if_pos hp]; rfl
      have hil : (invI o).length = n := by rw [invI_len, hol]
      rw [hiv] at HIV
      simp only [hil] at HIV
      have HLN : Hid ((accU0 o (grpA ls ms n)).length = n) := Lib.hid (by rw [accU0_len, hol])
      have HCL := Lib.hid (fun W (hB : Below w.heap.size w W) => cloneInt_any A n c (o.map (Value.int .i64)) W (hr.below hB) (oneIntsA o) (by omega))
      have HEA := Lib.hid (fun (w2 : World) (bw bt cW : Nat) (W1 : Option Addr) (hcW : n ≤ cW) (hbw : w2.heap[bw]? = some (.cells #[.slice W1 n cW] 22 (0, 0))) (hwr : Rd w2 1 W1 n ((invI o).map (Value.int .i64))) (hB : Below w.heap.size w w2) (W : World) (v0 : Value) (hX : BxR w2 w2.heap.size bt 22 3 1 v0 n (o.map (Value.int .i64)) W) =>
        acEach_any _ #[.pointer (some ⟨bw, 0, none⟩), .pointer (some ⟨bt, 0, none⟩)] eg_turn B C n d e ls ms (fun G W => ∃ v, BxR w2 w2.heap.size bt 22 3 1 v n ((accU0 o G).map (Value.int .i64)) W) hll hml hn
          (fun G W h => by obtain ⟨v, h⟩ := h; exact hs.below (below_self hB h.bel)) (fun G W h => by obtain ⟨v, h⟩ := h; exact ht.below (below_self hB h.bel))
          (fun G W q h => by obtain ⟨v, h⟩ := h; exact ⟨v, h.low (drewBelow q)⟩)
          (fun lo hi W hg h => by obtain ⟨v, h⟩ := h; exact acTurn_any w2 bw bt n cW W1 o ls ms lo hi hp hol hll hg hn hcW hbw hwr W v h) W ⟨v0, hX⟩)
      clear hr hs ht hol hll hml hiv hil hp
      rw [HE.out, HR.out, HLN.out]
      go_enter Try.func9, Try.ntmps9
      go_wp2_with (first
        | (go_at_call 24; refine HIV.out.mono ?_; rintro e w1 ⟨v1, rfl, hv1, hb1⟩; obtain ⟨A1, c1, he1, hc1⟩ := own_form hv1; subst he1; have HR1 := Lib.hid ((Rd.of_own hv1).alloc (.cells #[.slice A1 n c1] 22)); have HB1 : Hid (Below w.heap.size w (w1.alloc (.cells #[.slice A1 n c1] 22))) := Lib.hid (hb1.alloc hb1.size _); have HBX := Lib.hid (heap_alloc_new w1 (.cells #[.slice A1 n c1] 22)); clear hv1 hb1)
        | (go_at_call 19; refine (HCL.out _ HB1.out).mono ?_; rintro e w3 ⟨v3, rfl, hv3, hb3⟩; obtain ⟨A3, c3, he3, _⟩ := own_form hv3; subst he3; have HX := Lib.hid (BxR.start hv3 hb3 hb3.size 22); have HS3 := Lib.hid hb3.size; clear hv3 hb3)
        | (go_at_call 25; refine (HEA.out _ w1.heap.size w3.heap.size c1 A1 hc1 HBX.out HR1.out HB1.out _ _ HX.out).mono ?_; rintro e w4 ⟨rfl, v4, h4⟩; obtain ⟨A4, c4, he4, _⟩ := own_form h4.row; subst he4; have H4 := Lib.hid h4; have cc4 : w4.cell? ⟨w3.heap.size, 0, none⟩ = some (.slice A4 n c4) := hp_cell h4.box rfl; clear h4)
        | fail)
      have hsz := HB1.out.size
      exact bodyPost_ret (v := .tuple #[.slice A4 n c4, .int .i64 0]) (by simp [results, go_sem]) rfl ⟨_, rfl, own_base H4.out.row hsz, below_self HB1.out H4.out.bel⟩
    · have hpf : permB o = false := by simpa using hp
      have HE : Hid (accE o ls ms = 13) := Lib.hid (by unfold accE; rw [if_neg (by omega), if_pos hpf])
      have HR : Hid (accR o ls ms = []) := Lib.hid (by unfold accR; rw [if_neg (by omega), if_pos hpf])
      have hiv : invE o = ([], 13) := by unfold invE; rw [if_neg hp]
      rw [hiv] at HIV
      simp only [List.length_nil, List.map_nil] at HIV
      clear hr hs ht hol hll hml hiv hp hpf
      rw [HE.out, HR.out]
      go_enter Try.func9, Try.ntmps9
      go_wp2_with (first
        | (go_at_call 24; refine HIV.out.mono ?_; rintro e w1 ⟨v1, rfl, hv1, hb1⟩; obtain ⟨A1, c1, he1, hc1⟩ := own_form hv1; subst he1; have HB1 : Hid (Below w.heap.size w (w1.alloc (.cells #[.slice A1 0 c1] 22))) := Lib.hid (hb1.alloc hb1.size _); clear hv1 hb1)
        | fail)
      exact bodyPost_ret (v := .tuple #[.slice none 0 0, .int .i64 13]) (by simp [results, go_sem]) rfl ⟨_, rfl, ⟨rfl, .inl ⟨rfl, rfl⟩⟩, HB1.out⟩
end Go.Proofs.Ytbnjflkafdkcpaa
