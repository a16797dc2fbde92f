/- The project's outs of clusters: their Out spans, sorted by Lo; and Check. -/
import Derived.Test.YtdgomaoikeffhaaClD
import Derived.Test.YtdgomaoikeffhaaSortS
import Derived.Test.YtdgomaoikeffhaaPartsD
namespace Go.Proofs.Ytdgomaoikeffhaa
open Go.RowKit

set_option maxRecDepth 100000 in
theorem outsLit_any : CmpLoAt 51 := by
  intro x y w
  obtain ⟨a, b⟩ := x
  obtain ⟨c, d⟩ := y
  go_enter Try.func51, Try.ntmps51
  go_wp2_with (go_at_call 41; refine (cmpI_any _ _ _).mono ?_; rintro e w' ⟨rfl, rfl⟩)
  go_ret
  exact ⟨rfl, _, by rw [Sort.alloc_eq_grow, Sort.alloc_eq_grow, Sort.grow_grow]⟩

theorem spanInfo : (Try.prog.info? 24).map (fun i => (i.zero, i.size, i.bytes)) = some (some (.agg #[.int .i64 0, .int .i64 0]), 2, 16) := by kernel_rfl

/-- A row while its first k elements are filled. -/
def fillS (l : List Sp) (k : Nat) : List Value := cellsS (l.take k) ++ List.replicate ((l.length - k) * 2) (.int .i64 0)
theorem fillS_start (l : List Sp) : fillS l 0 = List.replicate (l.length * 2) (.int .i64 0) := by simp [fillS, cellsS]
theorem fillS_end (l : List Sp) : fillS l l.length = cellsS l := by simp [fillS]
theorem fillS_step {l : List Sp} {k : Nat} {s : Sp} (h : l[k]? = some s) : ((fillS l k).set (k * 2) (.int .i64 s.1)).set (k * 2 + 1) (.int .i64 s.2) = fillS l (k + 1) := by
  have hlt := (List.getElem?_eq_some_iff.1 h).1
  have hc : (cellsS (l.take k)).length = k * 2 := by rw [cellsS_len, List.length_take]; omega
  have hs : cellsS (l.take (k + 1)) = cellsS (l.take k) ++ [.int .i64 s.1, .int .i64 s.2] := by rw [List.take_add_one, h]; simp [cellsS, encS]
  unfold fillS
  obtain ⟨m, hm⟩ : ∃ m, l.length - k = m + 1 := ⟨l.length - k - 1, by omega⟩
  have hm2 : l.length - (k + 1) = m := by omega
  rw [hm, hm2, hs, show (m + 1) * 2 = m * 2 + 1 + 1 by omega, List.replicate_succ, List.replicate_succ, List.set_append_right _ _ (by omega), hc, Nat.sub_self, List.set_cons_zero, List.set_append_right _ _ (by omega), hc, show k * 2 + 1 - k * 2 = 1 by omega]
  simp

set_option maxRecDepth 100000 in
set_option maxHeartbeats 2000000 in
theorem prOuts_any (A : Option Addr) (n c : Nat) (l : List Cl) (w : World) (hr : Rd w 4 A n (cellsC l)) (hn : n ≤ 1000000) :
    Calls Try.prog 46 #[.slice A n c] w fun e w' => ∃ v l', e = .returned v ∧ List.Perm l' (l.map Prod.snd) ∧ LoSorted l' ∧ w'.ownsRow w.heap.size 24 2 v n (cellsS l') ∧ Below w.heap.size w w' := by
  have hlen : l.length = n := by have := hr.1; rw [cellsC_len] at this; omega
  have hlm : (l.map Prod.snd).length = n := by simpa using hlen
  have HL := Lib.hid hlen
  have HM := Lib.hid hlm
  clear hlen hlm
  have eg : ∀ args w, (callFunc 51 args).run Try.prog w = .ok (.enter 51 args) w := enters_of Try.func51 (by kernel_rfl) rfl
  go_enter Try.func46, Try.ntmps46
  go_wp2_with (at_make; refine wpList_mkZ rfl _ _ _ rfl Try.underlying29 spanInfo (z0 := .int .i64 0) (by decide) (by intro j hj; match j, hj with | 0, _ => rfl | 1, _ => rfl) (base := w.heap.size) (kl := .i64) (kc := .i64) n n n rfl rfl rfl rfl (by omega) (by unfold maxLen; omega) (Nat.le_refl _) ?_; intro w1 hown hg1)
  have hb1 := below_make (w := w) (w' := w1) hg1
  have HO := Lib.hid (show w1.ownsRow w.heap.size 24 2 (.slice (some ⟨w.heap.size, 0, none⟩) n n) n (fillS (l.map Prod.snd) 0) by rw [fillS_start, HM.out]; exact hown)
  clear hown hg1
  go_loopw [11] (fun i wr => ∃ k : Nat, k ≤ n ∧ i = .int .i64 k ∧ wr.ownsRow w.heap.size 24 2 (.slice (some ⟨w.heap.size, 0, none⟩) n n) n (fillS (l.map Prod.snd) k) ∧ Below w.heap.size w wr) (fun i _ => n - (intOf i).toNat)
  case atStart => exact ⟨0, Nat.zero_le _, rfl, HO.out, hb1⟩
  case round =>
    obtain ⟨k, hk, rfl, hown, hbr⟩ := hrel
    clear HO hb1
    by_cases hlt : k < n
    · obtain ⟨s, hsk⟩ : ∃ s, l[k]? = some s := ⟨_, List.getElem?_eq_getElem (by rw [HL.out]; exact hlt)⟩
      obtain ⟨ad, rfl, hab, c1, c2, c3, c4⟩ := (hr.below hbr).clus hsk
      have HF := Lib.hid (fillS_step (l := l.map Prod.snd) (k := k) (s := s.2) (by rw [List.getElem?_map, hsk]; rfl))
      clear hsk
      obtain ⟨⟨s1, s2⟩, s3, s4⟩ := s
      simp only at c1 c2 c3 c4
      have ha := hown.alloc (.cells #[.int .i64 s1, .int .i64 s2, .int .i64 s3, .int .i64 s4] 63)
      obtain ⟨⟨u0, x0⟩, z0⟩ := own_slot ha (j := k * 2) (by omega)
      obtain ⟨⟨u1, x1⟩, z1⟩ := own_slot ha (j := k * 2 + 1) (by omega)
      have HS := Lib.hid (own_store2 ha (k * 2) (.int .i64 s3) (.int .i64 s4))
      have hbb := ((hbr.alloc hbr.size (.cells #[.int .i64 s1, .int .i64 s2, .int .i64 s3, .int .i64 s4] 63)).setCell (p := ⟨w.heap.size, k * 2, none⟩) (Nat.le_refl _) (.int .i64 s3)).setCell (p := ⟨w.heap.size, k * 2 + 1, none⟩) (Nat.le_refl _) (.int .i64 s4)
      go_wp2
      go_roundw
      case rel => exact ⟨k + 1, by omega, by go_num, by rw [← HF.out]; exact HS.out, hbb⟩
      case measure => simp [intOf]; omega
    · have HK := Lib.hid (show fillS (l.map Prod.snd) k = cellsS (l.map Prod.snd) by rw [show k = (l.map Prod.snd).length by rw [HM.out]; omega, fillS_end])
      rw [HK.out] at hown
      go_wp2_with fail
      refine (sortS_any _ eg outsLit_any hown (by omega)).mono ?_
      rintro e w2 ⟨rfl, l', hp, hs, hown2, hg2⟩
      have hb2 := hbr.grown hg2 hbr.size (fun k hk => by injection hk with hk; omega)
      go_wp2
      go_ret
      exact ⟨_, l', rfl, hp, hs, hown2, hb2⟩
end Go.Proofs.Ytdgomaoikeffhaa
