/- lamalef.Find. -/
import Derived.Test.YtcjcimdembkbkaaLfS
namespace Go.Proofs.Ytcjcimdembkbkaa
open Go.RowKit

theorem find_start (A B : Option Addr) (n c d : Nat) (xs ts : List Int) (th : Bool) (w : World) (hr : Rd w 1 A n (xs.map (Value.int .i64))) (hs : Rd w 1 B n (ts.map (Value.int .i64))) :
    LGot w (((((w.alloc (.cells #[.slice A n c] 22)).alloc (.cells #[.slice B n d] 22)).alloc (.cells #[.bool th] 4)).alloc (.cells #[.slice none 0 0] 35)).alloc (.cells #[.int .i64 0] 3)) w.heap.size A n c xs B d ts th 0 [] := by
  have hk : Below w.heap.size w (((((w.alloc (.cells #[.slice A n c] 22)).alloc (.cells #[.slice B n d] 22)).alloc (.cells #[.bool th] 4)).alloc (.cells #[.slice none 0 0] 35)).alloc (.cells #[.int .i64 0] 3)) :=
    (((((Below.refl _ _).alloc (Nat.le_refl _) _).alloc (by simp) _).alloc (by simp; omega) _).alloc (by simp; omega) _).alloc (by simp; omega) _
  have hla : 0 < n → ∀ ad, A = some ad → ad.block < w.heap.size := fun hp ad e => by
    obtain ⟨ad', e', hb, _⟩ := hr.2 hp
    rw [e] at e'
    cases e'
    exact hb
  have hlb : 0 < n → ∀ ad, B = some ad → ad.block < w.heap.size := fun hp ad e => by
    obtain ⟨ad', e', hb, _⟩ := hs.2 hp
    rw [e] at e'
    cases e'
    exact hb
  generalize hA : w.alloc (.cells #[.slice A n c] 22) = wa at *
  generalize hB : wa.alloc (.cells #[.slice B n d] 22) = wb at *
  generalize hC : wb.alloc (.cells #[.bool th] 4) = wc at *
  generalize hD : wc.alloc (.cells #[.slice none 0 0] 35) = wd at *
  generalize hE : wd.alloc (.cells #[.int .i64 0] 3) = we at *
  have sa : wa.heap.size = w.heap.size + 1 := by rw [← hA, World.size_alloc]
  have sb : wb.heap.size = w.heap.size + 2 := by rw [← hB, World.size_alloc, sa]
  have sc : wc.heap.size = w.heap.size + 3 := by rw [← hC, World.size_alloc, sb]
  have sd : wd.heap.size = w.heap.size + 4 := by rw [← hD, World.size_alloc, sc]
  have oa : ∀ {k o}, k < wa.heap.size → wa.heap[k]? = some o → wb.heap[k]? = some o := fun hk h => by rw [← hB, heap_alloc_old (h := hk)]; exact h
  have ob : ∀ {k o}, k < wb.heap.size → wb.heap[k]? = some o → wc.heap[k]? = some o := fun hk h => by rw [← hC, heap_alloc_old (h := hk)]; exact h
  have oc : ∀ {k o}, k < wc.heap.size → wc.heap[k]? = some o → wd.heap[k]? = some o := fun hk h => by rw [← hD, heap_alloc_old (h := hk)]; exact h
  have od : ∀ {k o}, k < wd.heap.size → wd.heap[k]? = some o → we.heap[k]? = some o := fun hk h => by rw [← hE, heap_alloc_old (h := hk)]; exact h
  refine ⟨.slice none 0 0, ⟨?_, ?_, ?_, ?_, ?_, hr.below hk, hs.below hk, hla, hlb⟩, ⟨rfl, .inl ⟨rfl, rfl⟩⟩, hk⟩
  · refine od (by omega) (oc (by omega) (ob (by omega) (oa (by omega) ?_)))
    rw [← hA]; exact heap_alloc_new _ _
  · refine od (by omega) (oc (by omega) (ob (by omega) ?_))
    rw [← sa, ← hB]; exact heap_alloc_new _ _
  · refine od (by omega) (oc (by omega) ?_)
    rw [← sb, ← hC]; exact heap_alloc_new _ _
  · refine od (by omega) ?_
    rw [← sc, ← hD]; exact heap_alloc_new _ _
  · rw [← sd, ← hE]; exact heap_alloc_new _ _
set_option maxRecDepth 100000 in
set_option maxHeartbeats 4000000 in
theorem lfFind_any (A B : Option Addr) (n m c d : Nat) (xs ts : List Int) (th : Bool) (w : World) (hr : Rd w 1 A n (xs.map (Value.int .i64))) (hs : Rd w 1 B m (ts.map (Value.int .i64))) (hn : n ≤ 1000000) :
    Calls Try.prog 30 #[.slice A n c, .slice B m d, .bool th] w fun e w' => (∃ v, e = .returned v ∧ w'.ownsRow w.heap.size 37 2 v (lfFind alefB xs ts th).length (cellsS (lfFind alefB xs ts th))) ∧ Below w.heap.size w w' := by
  have hxl : xs.length = n := by simpa using hr.len1
  have htl : ts.length = m := by simpa using hs.len1
  by_cases hnm : n = m
  · subst hnm
    obtain ⟨F, hF⟩ : ∃ F, lfFind alefB xs ts th = F := ⟨_, rfl⟩
    have HF := Lib.hid (show lfUpto alefB xs ts th n = F by rw [← hF]; unfold lfFind; rw [if_pos (by rw [hxl, htl]), hxl])
    rw [hF]
    have HG := Lib.hid (find_start A B n c d xs ts th w hr hs)
    have HXL := Lib.hid hxl
    clear hr hs hxl htl hF
    go_enter Try.func30, Try.ntmps30
    go_wp2_with fail
    simp only [Nat.add_assoc, Nat.reduceAdd]
    have hG := HG.out
    clear HG
    generalize (((((w.alloc (.cells #[.slice A n c] 22)).alloc (.cells #[.slice B n d] 22)).alloc (.cells #[.bool th] 4)).alloc (.cells #[.slice none 0 0] 35)).alloc (.cells #[.int .i64 0] 3)) = w5 at *
    obtain ⟨s, hse⟩ : ∃ s, w.heap.size = s := ⟨_, rfl⟩
    rw [hse] at hG
    simp only [hse]
    have HG := Lib.hid hG
    have HSE := Lib.hid hse
    clear hG hse
    go_loopw [20] (fun i wr => ∃ (k : Nat) (bh : Int), k ≤ n ∧ i = .int .i64 k ∧ lfNext ts k bh ∧ LGot w wr s A n c xs B d ts th bh (lfUpto alefB xs ts th k)) (fun i _ => n - (intOf i).toNat)
    case atStart => exact ⟨0, 0, Nat.zero_le _, rfl, lfNext.start ts, HG.out⟩
    case round =>
      obtain ⟨k, bh, hk, rfl, hnx, v, hS, hown, hb⟩ := hrel
      obtain ⟨c0, c1, c2, c3, c4, f3, f4⟩ := hS.cell
      have HB := Lib.hid hb
      have HNX := Lib.hid hnx
      by_cases hlt : k < n
      · obtain ⟨x, hxk⟩ : ∃ x, xs[k]? = some x := ⟨_, List.getElem?_eq_getElem (by rw [HXL.out]; exact hlt)⟩
        have hcell := hS.rx.at_ hlt
        obtain ⟨ad, rfl, _, hc⟩ := hcell
        have cs : wr.cell? (ad.add k) = some (.int .i64 x) := hc _ (by rw [List.getElem?_map, hxk]; rfl)
        by_cases hx : x = 1604
        · subst hx
          have HST := Lib.hid (lfSettle_any s n c d k (some ad) B xs ts th bh _ _ wr ⟨v, hS, hown, Below.refl _ _⟩ hlt hxk hnx (lfUpto_succ alefB xs ts th k).symm (lfUpto_le _ _ _ _ _) hn)
          clear hS hown hnx hb hc hxk c1 c2 c3 c4 f3 f4
          go_wp2_with (first
            | (go_at_call 49; with_reducible refine HST.out.mono ?_; rintro e w7 ⟨⟨vv, rfl⟩, hG7⟩)
            | fail)
          go_roundw
          case rel =>
            obtain ⟨v7, hS7, ho7, hb7⟩ := hG7
            exact ⟨k + 1, _, by omega, by go_num, (lfNext.new_ ts k).up, v7, hS7, ho7, HB.out.trans hb7⟩
          case measure => simp [intOf]; omega
        · have HK := Lib.hid (show LGot w wr s (some ad) n c xs B d ts th bh (lfUpto alefB xs ts th (k + 1)) by
            have he : lfAt alefB xs ts th k = [] := by
              unfold lfAt
              rw [if_neg (fun h => hx (by rw [hxk] at h; exact Option.some.inj h))]
            rw [lfUpto_succ, he, List.append_nil]
            exact ⟨v, hS, hown, hb⟩)
          have g1 : (x == 1604) = false := by simp [hx]
          clear hS hown hnx hb hc hxk c1 c2 c3 c4 f3 f4 hx
          go_wp2_with fail
          go_roundw
          case rel => exact ⟨k + 1, bh, by omega, by go_num, HNX.out.up, HK.out⟩
          case measure => simp [intOf]; omega
      · obtain rfl : k = n := by omega
        have HO := Lib.hid (show wr.ownsRow s 37 2 v F.length (cellsS F) by rw [← HF.out]; exact own_base hown (by omega))
        clear hS hown hnx hb
        go_wp2_with fail
        go_ret
        rw [HSE.out]
        exact ⟨⟨_, rfl, HO.out⟩, HB.out⟩
  · rw [show lfFind alefB xs ts th = [] from if_neg (by rw [hxl, htl]; exact hnm)]
    have g1 : ((n : Int) == (m : Int)) = false := by simp; omega
    have g2 : ((n : Int) != (m : Int)) = true := by simp; omega
    have hbb : Below w.heap.size w (((w.alloc (.cells #[.slice A n c] 22)).alloc (.cells #[.slice B m d] 22)).alloc (.cells #[.bool th] 4)) := (((Below.refl _ _).alloc (Nat.le_refl _) _).alloc (by simp) _).alloc (by simp; omega) _
    have HBB := Lib.hid hbb
    clear hr hs hxl htl hnm hbb
    go_enter Try.func30, Try.ntmps30
    go_wp2_with fail
    go_ret
    exact ⟨⟨_, rfl, ⟨rfl, .inl ⟨rfl, rfl⟩⟩⟩, HBB.out⟩
end Go.Proofs.Ytcjcimdembkbkaa
