/- Texts of one claim, one behind the other. -/
import Derived.Laws.EntriesVeiled
import Derived.Shelf.Abstract
import Derived.Deep.RegionLaw
import Derived.Test.YtdgomaoikeffhaaGreatMgAp2
import Derived.Test.YtdgomaoikeffhaaGreatMgAp3
import Derived.Test.YtdgomaoikeffhaaGreatMgAp12
/- neutral's N2, walked. -/
namespace Go.Proofs.YtdgomaoikeffhaaGreat
open Go.RowKit

/-- N2 at work: what it captured; the classes up to lo as they will be. -/
structure N2At (w0 w : World) (gb b5 b6 : Nat) (A C : Option Addr) (n cc : Nat) (l : List Int) (level dir : Int) (lo : Nat) : Prop where
  x5 : w.heap[b5]? = some (.cells #[.int .i64 dir] 3 (0, 0))
  x6 : w.heap[b6]? = some (.cells #[.slice C n cc] 22 (0, 0))
  l5 : b5 < gb
  bs : w0.heap.size ≤ gb
  row : w.ownsRow gb 3 1 (.slice C n cc) n ((mixR (nu2 level l) l lo).map (Value.int .i64))
  rd : Rd w 1 A n (l.map (Value.int .i64))
  rdb : 0 < n → ∀ ad, A = some ad → ad.block < w0.heap.size
  low : Below w0.heap.size w0 w
section
variable {w0 w w' : World} {gb b5 b6 n cc lo : Nat} {A C : Option Addr} {l : List Int} {level dir : Int}
theorem N2At.put {g hi : Nat} (h : N2At w0 w gb b5 b6 A (some ⟨g, 0, none⟩) n cc l level dir lo) (hg : w.grownBy w' (some g)) (hr : w'.ownsRow gb 3 1 (.slice (some ⟨g, 0, none⟩) n cc) n ((mixR (nu2 level l) l hi).map (Value.int .i64))) : N2At w0 w' gb b5 b6 A (some ⟨g, 0, none⟩) n cc l level dir hi := by
  have hgl := h.row.lt g rfl
  obtain ⟨c1, h1⟩ := own_row h.row g rfl
  have n6 : b6 ≠ g := by rintro rfl; have := h.x6; rw [h1] at this; simp at this
  have n5 : b5 ≠ g := by have := h.l5; omega
  have blk : ∀ {b : Nat} {o : Obj}, w.heap[b]? = some o → b ≠ g → w'.heap[b]? = some o := fun hb hn => (hg.block _ (hp_lt hb) (fun e => hn (Option.some.inj e))).trans hb
  have hlow : Below w0.heap.size w w' := (Below.refl _ w).grown hg h.low.size (fun k e => by cases e; have := h.bs; omega)
  exact ⟨blk h.x5 n5, blk h.x6 n6, h.l5, h.bs, hr, h.rd.belowS h.rdb hlow, h.rdb, h.low.trans hlow⟩
theorem N2At.turn {hi : Nat} (h : N2At w0 w gb b5 b6 A C n cc l level dir lo) (he : mixR (nu2 level l) l hi = mixR (nu2 level l) l lo) : N2At w0 w gb b5 b6 A C n cc l level dir hi :=
  ⟨h.x5, h.x6, h.l5, h.bs, by rw [he]; exact h.row, h.rd, h.rdb, h.low⟩
end
theorem nu2_at {level : Int} {l : List Int} {j : Nat} {c : Int} (h : l[j]? = some c) : (nu2 level l)[j]? = some (if neuB c = true then ofL level else c) := by
  unfold nu2
  rw [List.getElem?_map, h]
  rfl
set_option maxRecDepth 100000 in
set_option maxHeartbeats 1500000 in
theorem n2Do_any (w0 w : World) (gb b5 b6 : Nat) (A C : Option Addr) (n cc : Nat) (l : List Int) (level : Int) (lo hi : Nat) (hR : RowN l lo hi) (h : N2At w0 w gb b5 b6 A C n cc l level (ofL level) lo) (hn : n ≤ 100000) :
    Calls Tryz.prog 78 #[.int .i64 (lo : Int), .int .i64 (hi : Int), .pointer (some ⟨b6, 0, none⟩), .pointer (some ⟨b5, 0, none⟩)] w fun e w' => e = .returned (.tuple #[]) ∧ N2At w0 w' gb b5 b6 A C n cc l level (ofL level) hi := by
  have hll : l.length = n := by simpa using h.rd.len1
  have hlt := hR.lt
  have hle := hR.le
  rw [hll] at hle
  obtain ⟨g, c', hvg, hncc, hgl, hgb, _⟩ := own_at h.row (show 0 < n by omega)
  simp only [Value.slice.injEq] at hvg
  obtain ⟨rfl, -, rfl⟩ := hvg
  obtain ⟨x, hx⟩ : ∃ x, ofL level = x := ⟨_, rfl⟩
  have hRl : (nu2 level l).length = l.length := nu2_len _ _
  have HFILL : Hid (mixR (nu2 level l) l hi = setsR (mixR (nu2 level l) l lo) lo x (hi - lo)) := Lib.hid (mixR_fill hRl (Nat.le_of_lt hlt) (by omega) fun j h3 h4 => by
    have hj : l[j]? = some l[j] := List.getElem?_eq_getElem (by omega)
    rw [nu2_at hj, if_pos (hR.neu j _ h3 h4 hj), hx])
  rw [hx] at h ⊢
  have c5 : w.cell? ⟨b5, 0, none⟩ = some (.int .i64 x) := hp_cell (j := 0) h.x5 rfl
  have c6 : w.cell? ⟨b6, 0, none⟩ = some (.slice (some ⟨g, 0, none⟩) n cc) := hp_cell (j := 0) h.x6 rfl
  have H := Lib.hid h
  have HF := Lib.hid (fun W (hr : W.ownsRow gb 3 1 (.slice (some ⟨g, 0, none⟩) n cc) n ((mixR (nu2 level l) l lo).map (Value.int .i64))) => nuFill_any gb g n cc lo (hi - lo) (cc - lo) _ x W hr (by omega) (by omega))
  have hne : ¬ cc = lo := by omega
  have hloi : (lo : Int) ≤ (hi : Int) := by omega
  have hhic : (hi : Int) ≤ (cc : Int) := by omega
  have HX := Lib.hid hx
  clear hR h hRl hgl hgb hx
  go_enter Tryz.func78, Tryz.ntmps78
  go_wp2
  go_region_law (first
    | (go_simp; go_at_call 76; refine (HF.out _ (by first | exact H.out.row | exact H.out.row.drew)).mono ?_; rintro e w3 ⟨rfl, ho3, hg3⟩)
    | fail)
  all_goals exact bodyPost_end (v := .tuple #[]) (by simp [results, go_sem]) rfl ⟨rfl, H.out.put ⟨hg3.os, hg3.tape, hg3.output, hg3.size, hg3.block⟩ (by rw [HFILL.out]; exact ho3)⟩
theorem egN2 : ∀ args w, (callFunc 78 args).run Tryz.prog w = .ok (.enter 78 args) w := enters_of Tryz.func78 (by kernel_rfl) rfl
set_option maxRecDepth 100000 in
set_option maxHeartbeats 1500000 in
theorem n2Rest_any (A C : Option Addr) (n c cc gb b5 b6 : Nat) (l : List Int) (level : Int) (w W : World) (h : N2At w W gb b5 b6 A C n cc l level (ofL level) 0) (hn : n ≤ 100000) :
    Calls Tryz.prog 73 #[.slice A n c, .func (.func 78) #[] #[.pointer (some ⟨b6, 0, none⟩), .pointer (some ⟨b5, 0, none⟩)]] W fun e w' => e = .returned (.tuple #[]) ∧ N2At w w' gb b5 b6 A C n cc l level (ofL level) n :=
  nuRows_any 78 #[.pointer (some ⟨b6, 0, none⟩), .pointer (some ⟨b5, 0, none⟩)] egN2 A n c l (fun k W => N2At w W gb b5 b6 A C n cc l level (ofL level) k) (by simpa using h.rd.len1) hn (fun k W h => h.rd)
    (fun k x W hx hne h => h.turn (mixR_same (nu2_len _ _) (Nat.le_succ k) fun j h1 h2 => by rw [show j = k by omega, nu2_at hx, hne, hx]; rfl))
    (fun lo hi W hR h => n2Do_any w W gb b5 b6 A C n cc l level lo hi hR h hn) W h
set_option maxRecDepth 100000 in
set_option maxHeartbeats 1500000 in
theorem nuN2_any (A : Option Addr) (n c : Nat) (l : List Int) (level : Int) (w : World) (hr : Rd w 1 A n (l.map (Value.int .i64))) (hn : n ≤ 100000) :
    Calls Tryz.prog 46 #[.slice A n c, .int .i64 level] w fun e w' => ∃ v, e = .returned v ∧ w'.ownsRow w.heap.size 3 1 v n ((nu2 level l).map (Value.int .i64)) ∧ Below w.heap.size w w' := by
  have hll : l.length = n := by simpa using hr.len1
  have HRB := Lib.hid (show 0 < n → ∀ ad, A = some ad → ad.block < w.heap.size from fun h0 ad e => by
    obtain ⟨ad', e', hb, _⟩ := hr.2 h0
    rw [e] at e'
    obtain rfl := Option.some.inj e'
    exact hb)
  obtain ⟨y, hy⟩ : ∃ y, level % 2 = y := ⟨_, rfl⟩
  have HO := Lib.hid (fun W => nuOdd_any level y hy W)
  have hy2 : y = 0 ∨ y = 1 := by omega
  have hof : ofL level = y := by
    unfold ofL
    rw [hy]
    rcases hy2 with rfl | rfl <;> rfl
  have HOF := Lib.hid hof
  have HLL := Lib.hid hll
  -- what lies behind the box of the direction
  have key : ∀ W5 : World, W5.heap[w.heap.size]? = some (.cells #[.int .i64 y] 3 (0, 0)) → W5.heap.size = w.heap.size + 1 → Below w.heap.size w W5 → ∀ (w6 : World) (C : Option Addr) (cc : Nat), w6.ownsRow W5.heap.size 3 1 (.slice C n cc) n (l.map (Value.int .i64)) → Below W5.heap.size W5 w6 → N2At w (w6.alloc (.cells #[.slice C n cc] 22)) W5.heap.size w.heap.size w6.heap.size A C n cc l level (ofL level) 0 := fun W5 x5 hs5 hb5 w6 C cc hv6 hb6 => by
    have hz := hb6.size
    exact ⟨((below_new w6 _).block _ (by omega)).trans ((hb6.block _ (by omega)).trans (by rw [HOF.out]; exact x5)), heap_alloc_new w6 _, by omega, by omega, by rw [mixR_zero]; exact hv6.alloc _, ((hr.below hb5).below hb6).alloc _, HRB.out, (hb5.trans (hb6.mono hb5.size)).alloc (Nat.le_trans hb5.size hz) _⟩
  have KEY := Lib.hid key
  have HR := Lib.hid hr
  have hz : mixR (nu2 level l) l n = nu2 level l := mixR_all (nu2_len _ _) (by rw [hll]; exact Nat.le_refl _)
  have HZ := Lib.hid hz
  have hbx := heap_alloc_new w (.cells #[.int .i64 y] 3)
  have HBX := Lib.hid hbx
  have hsx := World.size_alloc w (.cells #[.int .i64 y] 3)
  have HBB := Lib.hid (below_new w (.cells #[.int .i64 y] 3))
  have HSX := Lib.hid hsx
  clear key hz hof hll hr hy hbx hsx
  rcases hy2 with rfl | rfl
  · go_enter Tryz.func46, Tryz.ntmps46
    go_wp2_with (first
      | (go_at_call 77; refine (HO.out _).mono ?_; rintro e w1 ⟨rfl, rfl⟩)
      | (go_at_call 6; refine (cloneInt_any A n c _ (w.alloc (.cells #[.int .i64 0] 3)) (HR.out.alloc _) (oneInts _ _) (by omega)).mono ?_; rintro e w6 ⟨v6, rfl, hv6, hb6⟩; obtain ⟨C, cc, he6, hncc⟩ := own_form hv6; subst he6; have HJ := Lib.hid (KEY.out _ HBX.out HSX.out HBB.out w6 C cc hv6 hb6); clear hv6 hb6)
      | (go_at_call 73; with_reducible refine (n2Rest_any A C n c cc _ w.heap.size w6.heap.size l level w _ HJ.out hn).mono ?_; rintro e w8 ⟨rfl, hj8⟩; have HJ8 := Lib.hid hj8; have c78 : w8.cell? ⟨w6.heap.size, 0, none⟩ = some (.slice C n cc) := hp_cell (j := 0) HJ8.out.x6 rfl; clear hj8)
      | fail)
    go_ret
    have h := HJ8.out
    refine ⟨_, rfl, ?_, h.low⟩
    rw [← HZ.out]
    exact own_base h.row h.bs
  · go_enter Tryz.func46, Tryz.ntmps46
    go_wp2_with (first
      | (go_at_call 77; refine (HO.out _).mono ?_; rintro e w1 ⟨rfl, rfl⟩)
      | (go_at_call 6; refine (cloneInt_any A n c _ (w.alloc (.cells #[.int .i64 1] 3)) (HR.out.alloc _) (oneInts _ _) (by omega)).mono ?_; rintro e w6 ⟨v6, rfl, hv6, hb6⟩; obtain ⟨C, cc, he6, hncc⟩ := own_form hv6; subst he6; have HJ := Lib.hid (KEY.out _ HBX.out HSX.out HBB.out w6 C cc hv6 hb6); clear hv6 hb6)
      | (go_at_call 73; with_reducible refine (n2Rest_any A C n c cc _ w.heap.size w6.heap.size l level w _ HJ.out hn).mono ?_; rintro e w8 ⟨rfl, hj8⟩; have HJ8 := Lib.hid hj8; have c78 : w8.cell? ⟨w6.heap.size, 0, none⟩ = some (.slice C n cc) := hp_cell (j := 0) HJ8.out.x6 rfl; clear hj8)
      | fail)
    go_ret
    have h := HJ8.out
    refine ⟨_, rfl, ?_, h.low⟩
    rw [← HZ.out]
    exact own_base h.row h.bs
end Go.Proofs.YtdgomaoikeffhaaGreat
