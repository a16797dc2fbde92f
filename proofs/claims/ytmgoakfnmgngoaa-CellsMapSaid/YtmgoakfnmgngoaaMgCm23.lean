/- Texts of one claim, one behind the other. -/
import Derived.Deep.CutBlock
import Derived.Deep.DeepCutAuto
import Derived.Deep.LoopGhost
import Derived.Test.YtmgoakfnmgngoaaMgCm2
import Derived.Test.YtmgoakfnmgngoaaMgCm3
import Derived.Test.YtmgoakfnmgngoaaMgCm6
import Derived.Test.YtmgoakfnmgngoaaMgCm8
import Derived.Test.YtmgoakfnmgngoaaMgCm14
import Derived.Test.YtmgoakfnmgngoaaMgCm15
import Derived.Test.YtmgoakfnmgngoaaMgCm16
import Derived.Test.YtmgoakfnmgngoaaMgCm19
import Derived.Test.YtmgoakfnmgngoaaMgCm22
/- CellsMap's calls: what the cells, and the spans that were joined, are between them. -/
namespace Go.Proofs.Ytmgoakfnmgngoaa
open Go.RowKit

theorem lenR_setLe : ∀ (R : List RC) (i : Nat) (r : RC), lenR (R.set i r) ≤ lenR R + r.2.2.length
  | [], i, r => by simp [lenR]
  | s :: R, 0, r => by simp [lenR, List.sum_cons]; omega
  | s :: R, i + 1, r => by
    have := lenR_setLe R i r
    simp only [lenR, List.set_cons_succ, List.map_cons, List.sum_cons] at this ⊢
    omega
/-- Each end lies within the text; what was joined lies behind its first cell's end. -/
def EndsM (n : Nat) (R : List RC) (J : List Sp) : Prop := (∀ (i : Nat) (r : RC), R[i]? = some r → r.2.1 ≤ (n : Int)) ∧ ∀ s ∈ J, 0 ≤ s.1 ∧ s.1 < s.2 ∧ s.2 ≤ (n : Int) ∧ ∃ r, R[s.1.toNat]? = some r ∧ s.2 ≤ r.2.1
theorem EndsM.set {n : Nat} {R : List RC} {J : List Sp} (h : EndsM n R J) {i : Nat} {r : RC} (hr : R[i]? = some r) {v : Value} {e : Int} {l : List Int} (he : r.2.1 ≤ e) (hn : e ≤ n) : EndsM n (R.set i (v, e, l)) J := by
  have hil := (List.getElem?_eq_some_iff.1 hr).1
  refine ⟨fun j s hs => ?_, fun s hs => ?_⟩
  · by_cases hj : j = i
    · subst hj
      rw [List.getElem?_set_self hil] at hs
      obtain rfl := Option.some.inj hs
      exact hn
    · rw [List.getElem?_set_ne (fun e9 => hj e9.symm)] at hs
      exact h.1 j s hs
  · obtain ⟨h1, h2, h3, q, h4, h5⟩ := h.2 s hs
    refine ⟨h1, h2, h3, ?_⟩
    by_cases hj : s.1.toNat = i
    · rw [hj] at h4 ⊢
      rw [hr] at h4
      obtain rfl := Option.some.inj h4
      exact ⟨_, List.getElem?_set_self hil, Int.le_trans h5 he⟩
    · exact ⟨q, by rw [List.getElem?_set_ne (fun e9 => hj e9.symm)]; exact h4, h5⟩
theorem own_keptT {w w' : World} {base : Nat} {e : TypeId} {size n : Nat} {v : Value} {xs : List Value} {S : List Nat} (h : w.ownsRow base e size v n xs) (hk : Kept w w' S) (hs : ∀ x ∈ S, ∃ cs t, t ≠ e ∧ w.heap[x]? = some (.cells cs t (0, 0))) : w'.ownsRow base e size v n xs :=
  ⟨h.1, h.2.imp id fun ⟨g, cap, cur, e1, hb, hg, r⟩ => ⟨g, cap, cur, e1, hb, hk.heap hg (fun hm => by
    obtain ⟨cs, t, ht, hc⟩ := hs g hm
    rw [hg] at hc
    simp at hc
    exact ht hc.2.symm), r⟩⟩
structure MSt (w0 w : World) (b gc n k : Nat) (v8 : Value) (Jo Jn : List Sp) : Prop where
  ex : ∃ base R va ah, CellsAt w base b gc n R va ah ∧ ah.length + lenR R ≤ 4 * k ∧ EndsM n R Jn
  out : w.ownsRow w0.heap.size 31 2 v8 Jo.length (cellsS Jo)
  low : Below w0.heap.size w0 w
  far : w0.heap.size ≤ b ∧ w0.heap.size ≤ gc
section
variable {w0 w w' : World} {b gc n k : Nat} {v8 : Value} {Jo Jn : List Sp}
theorem MSt.lower (h : MSt w0 w b gc n k v8 Jo Jn) (hb : Below w.heap.size w w') : MSt w0 w' b gc n k v8 Jo Jn := by
  obtain ⟨base, R, va, ah, h1, h2, h3⟩ := h.ex
  exact ⟨⟨base, R, va, ah, h1.low hb, h2, h3⟩, own_below h.out hb, h.low.trans (hb.mono h.low.size), h.far⟩
theorem MSt.next (h : MSt w0 w b gc n k v8 Jo Jn) : MSt w0 w b gc n (k + 1) v8 Jo Jn := by
  obtain ⟨base, R, va, ah, h1, h2, h3⟩ := h.ex
  exact ⟨⟨base, R, va, ah, h1, by omega, h3⟩, h.out, h.low, h.far⟩
theorem MSt.types {base : Nat} {R : List RC} {va : Value} {ah : List Int} (h : CellsAt w base b gc n R va ah) : ∀ x ∈ [b, gc], ∃ cs t, t ≠ 31 ∧ w.heap[x]? = some (.cells cs t (0, 0)) := fun x hx => by
  rcases List.mem_cons.1 hx with rfl | hx
  · exact ⟨_, _, by decide, h.hb⟩
  · obtain rfl := List.mem_singleton.1 hx
    exact ⟨_, _, by decide, h.hc⟩
theorem MSt.kept (h : MSt w0 w b gc n k v8 Jo Jn) (hk : Kept w w' [b, gc]) {Jn' : List Sp} (hex : ∃ base R va ah, CellsAt w' base b gc n R va ah ∧ ah.length + lenR R ≤ 4 * (k + 1) ∧ EndsM n R Jn') : MSt w0 w' b gc n (k + 1) v8 Jo Jn' := by
  obtain ⟨base, R, va, ah, h1, h2, h3⟩ := h.ex
  refine ⟨hex, own_keptT h.out hk (MSt.types h1), hk.lower h.low h.low.size (fun x hx => ?_), h.far⟩
  rcases List.mem_cons.1 hx with rfl | hx
  · exact h.far.1
  · obtain rfl := List.mem_singleton.1 hx
    exact h.far.2
theorem mset_step (i : Int) (A : Option Addr) (q c : Nat) (codes : List Int) (h : MSt w0 w b gc n k v8 Jo Jn) (hn : n ≤ 1000) (hr : Rd w 1 A q (codes.map (Value.int .i64))) (hq : q ≤ 4) :
    Calls Try.prog 36 #[.pointer (some ⟨b, 0, none⟩), .int .i64 i, .slice A q c] w fun e w' => (∃ er, e = .returned (.int .i64 er)) ∧ MSt w0 w' b gc n (k + 1) v8 Jo Jn := by
  obtain ⟨base, R, va, ah, h1, h2, h3⟩ := h.ex
  have hlen : codes.length = q := by have := hr.1; rw [List.length_map] at this; omega
  by_cases hi : 0 ≤ i ∧ i < n
  · obtain ⟨j, rfl⟩ := Int.eq_ofNat_of_zero_le hi.1
    refine (set_keeps base b gc n j R va ah codes A q c w h1 (by omega) hr (by omega) (by omega)).mono ?_
    rintro e w' ⟨rfl, ⟨v, r, hrj, hC⟩, hk⟩
    refine ⟨⟨_, rfl⟩, h.kept hk ⟨base, _, _, _, hC, ?_, h3.set hrj (Int.le_refl _) (h3.1 _ _ hrj)⟩⟩
    have := lenR_setLe R j (v, r.2.1, codes)
    simp only [hlen] at this
    split <;> (try simp only [List.length_nil]) <;> omega
  · refine (set_out base b gc n R va ah i A q c w h1 hi).mono ?_
    rintro e w' ⟨rfl, hb⟩
    exact ⟨⟨_, rfl⟩, (h.lower hb).next⟩
theorem mahead_step (A : Option Addr) (q c : Nat) (codes : List Int) (h : MSt w0 w b gc n k v8 Jo Jn) (hn : n ≤ 1000) (hk40 : k ≤ 40) (hr : Rd w 1 A q (codes.map (Value.int .i64))) (hq : q ≤ 4) (hA : ∀ ad, A = some ad → 0 < q → ad.block < w0.heap.size) :
    Calls Try.prog 37 #[.pointer (some ⟨b, 0, none⟩), .slice A q c] w fun e w' => (∃ er, e = .returned (.int .i64 er)) ∧ MSt w0 w' b gc n (k + 1) v8 Jo Jn := by
  obtain ⟨base, R, va, ah, h1, h2, h3⟩ := h.ex
  have hlen : codes.length = q := by have := hr.1; rw [List.length_map] at this; omega
  have hfar := h.far
  rcases Nat.eq_zero_or_pos n with rfl | hn0
  · refine (ahead_zero base b gc R va ah A q c w h1).mono ?_
    rintro e w' ⟨rfl, hb⟩
    exact ⟨⟨_, rfl⟩, (h.lower hb).next⟩
  · refine (ahead_cells base b gc n R va ah codes A q c w h1 hn0 (by omega) hr (by omega) (fun ad e h0 => by have := hA ad e h0; omega) (by omega)).mono ?_
    rintro e w' ⟨rfl, ⟨va', hC⟩, hb, hkt⟩
    refine ⟨⟨_, rfl⟩, ⟨base, R, va', _, hC, by rw [List.length_append, List.length_reverse]; omega, h3⟩, ⟨h.out.1, h.out.2.imp id fun ⟨g, cap, cur, e1, hb1, hg, r⟩ => ⟨g, cap, cur, e1, hb1, hkt g _ _ (fun e => ?_) (by decide) hg, r⟩⟩, h.low.trans (hb.mono hfar.1), h.far⟩
    subst e
    have := h1.hb
    rw [hg] at this
    simp at this
theorem mjoin_step (lo hi : Int) (h : MSt w0 w b gc n k v8 Jo Jn) (hn : n ≤ 1000) :
    Calls Try.prog 38 #[.pointer (some ⟨b, 0, none⟩), .agg #[.int .i64 lo, .int .i64 hi]] w fun e w' =>
      ((e = .returned (.int .i64 0) ∧ MSt w0 w' b gc n (k + 1) v8 Jo (Jn ++ [(lo, hi)])) ∨ (e = .returned (.int .i64 1) ∧ MSt w0 w' b gc n (k + 1) v8 Jo Jn)) ∧ Kept w w' [b, gc] := by
  obtain ⟨base, R, va, ah, h1, h2, h3⟩ := h.ex
  refine (join_keeps base b gc n R va ah lo hi w h1 (by omega)).mono ?_
  rintro e w' ⟨⟨_, rfl, hC⟩ | ⟨hs, rfl, r, hr, hC⟩, hk⟩
  · refine ⟨?_, hk⟩
    exact .inr ⟨rfl, h.kept hk ⟨base, R, va, ah, hC, by omega, h3⟩⟩
  · have hil := (List.getElem?_eq_some_iff.1 hr).1
    have h4 := h3.set (v := r.1) (e := max r.2.1 hi) (l := r.2.2) hr (Int.le_max_left _ _) (Int.max_le.2 ⟨h3.1 _ _ hr, hs.2.2⟩)
    refine ⟨?_, hk⟩
    refine .inl ⟨rfl, h.kept hk ⟨base, _, va, ah, hC, ?_, h4.1, fun s hs2 => ?_⟩⟩
    · have hl : lenR (R.set lo.toNat (r.1, max r.2.1 hi, r.2.2)) = lenR R := by
        unfold lenR
        rw [List.map_set]
        congr 1
        refine List.ext_getElem? fun j => ?_
        by_cases hj : j = lo.toNat
        · subst hj; rw [List.getElem?_set_self (by simpa using hil), List.getElem?_map, hr]; rfl
        · rw [List.getElem?_set_ne (fun e9 => hj e9.symm)]
      omega
    · rcases List.mem_append.1 hs2 with hs2 | hs2
      · exact h4.2 s hs2
      · obtain rfl := List.mem_singleton.1 hs2
        exact ⟨hs.1, hs.2.1, hs.2.2, _, List.getElem?_set_self hil, Int.le_max_right _ _⟩
/-- Cells lie behind a write to a block of another type, and behind new ones. -/
theorem CellsAt.other {base : Nat} {R : List RC} {va : Value} {ah : List Int} (h : CellsAt w base b gc n R va ah) {row : Option Nat} (hg : w.grownBy w' row) (hr : ∀ r, row = some r → ∃ cs, w.heap[r]? = some (.cells cs 31 (0, 0))) : CellsAt w' base b gc n R va ah := by
  have hne : ∀ {k : Nat} {cs : Array Value} {t : TypeId}, t ≠ 31 → w.heap[k]? = some (.cells cs t (0, 0)) → some k ≠ row := fun {k cs t} ht hk e => by
    obtain ⟨cs', hc⟩ := hr k e.symm
    rw [hk] at hc
    simp at hc
    exact ht hc.2
  have hown : ∀ {v : Value} {k : Nat} {xs : List Value}, w.ownsRow base 3 1 v k xs → w'.ownsRow base 3 1 v k xs := fun {v k xs} ho => by
    refine ho.kept hg ?_
    rcases ho.2 with ⟨rfl, _⟩ | ⟨g', cap, cur, rfl, _, hgb, _⟩
    · exact .inl rfl
    · exact .inr fun e => hne (by decide) hgb (by simpa [Value.ownBlock] using e)
  exact ⟨(hg.block b (hp_lt h.hb) (hne (by decide) h.hb)).trans h.hb, (hg.block gc (hp_lt h.hc) (hne (by decide) h.hc)).trans h.hc, h.len, fun i r hi => hown (h.rows i r hi), hown h.arow, h.ne, h.nea, ⟨h.far.1, h.far.2.1, h.far.2.2.1, Nat.le_trans h.far.2.2.2 hg.size⟩⟩
/-- What was joined is appended to those that were. -/
theorem MSt.grown (h : MSt w0 w b gc n k v8 Jo Jn) {v9 : Value} {J9 : List Sp} (hg : w.grownBy w' v8.ownBlock) (hown : w'.ownsRow w0.heap.size 31 2 v9 J9.length (cellsS J9)) : MSt w0 w' b gc n k v9 J9 Jn := by
  obtain ⟨base, R, va, ah, h1, h2, h3⟩ := h.ex
  refine ⟨⟨base, R, va, ah, h1.other hg (fun r e => ?_), h2, h3⟩, hown, h.low.grown hg h.low.size (fun j e => (h.out.lt j e).1), h.far⟩
  rcases h.out.2 with ⟨e2, _⟩ | ⟨g, cap, cur, e2, _, hgb, _⟩
  · rw [e2] at e; simp [Value.ownBlock] at e
  · rw [e2] at e
    obtain rfl : g = r := by simpa [Value.ownBlock] using e
    exact ⟨_, hgb⟩
end
end Go.Proofs.Ytmgoakfnmgngoaa
/- naskhlaw12.CellsMap, walked. -/
namespace Go.Proofs.Ytmgoakfnmgngoaa
open Go.RowKit

theorem noCells_zero {w : World} {base b gc : Nat} {R : List RC} {va : Value} {ah : List Int} (hC : CellsAt w base b gc 0 R va ah) : NoCells w (.pointer (some ⟨b, 0, none⟩)) := fun W hW => all_any b (some ⟨gc, 0, none⟩) 0 0 W (cell_below hW (hp_cell (j := 0) hC.hb rfl))
theorem joined_any_of {n m : Nat} {R : List RC} {ah : List Int} {l' : List NC} {J : List Sp} (hfit : fitB (n : Int) (m : Int) (linksR n R ah) = true) (h : FinIs n m (linksR n R ah) l') (hE : EndsM n R J) {s : Sp} (hs : s ∈ J) : (l'.map NC.cl).any (holdB s) = true := by
  obtain ⟨h1, h2, h3, r, hr, h5⟩ := hE.2 s hs
  obtain ⟨x, hx, ha, hb⟩ := joined_in (lo := s.1.toNat) (hi := s.2.toNat) hfit h (by omega) (by omega) hr (by omega) (hE.1 _ _ hr)
  refine List.any_eq_true.2 ⟨x.cl, List.mem_map.2 ⟨x, hx, rfl⟩, ?_⟩
  unfold holdB NC.cl
  simp only [Bool.and_eq_true, decide_eq_true_eq]
  omega
set_option maxRecDepth 100000 in
set_option maxHeartbeats 2000000 in
theorem cellsMap_any (nn : Int) (A : Option Addr) (q c : Nat) (l : List DoK) (w0 : World) (hn0 : 0 ≤ nn) (hn1 : nn ≤ 255) (hr : Rd w0 5 A q (l.flatMap encK)) (hl : l.length = q) (hg : ∀ k ∈ l, GoodK w0 k) (hq : q ≤ maxLen) :
    Calls Try.prog 10 #[.int .u8 nn, .slice A q c] w0 fun e w' => e = .returned (.bool true) ∧ Below w0.heap.size w0 w' := by
  have HR := Lib.hid hr
  have HG := Lib.hid hg
  have HL := Lib.hid hl
  unfold maxLen at hq
  clear hr hg hl
  go_enter Try.func10, Try.ntmps10
  obtain ⟨N, hN, hN29⟩ : ∃ N : Nat, nn % 30 = (N : Int) ∧ N ≤ 29 := ⟨(nn % 30).toNat, by omega, by omega⟩
  have HNN := Lib.hid hN
  clear hN
  go_wp2_with fail
  rw [HNN.out]
  refine (new_any (N : Int) w0).mono ?_
  rintro e w1 ⟨hans, hb1⟩
  rcases hans with ⟨h, _⟩ | ⟨N', b, gc, base, hNe, _, rfl, hC, hbf, hgf⟩
  · omega
  obtain rfl : N' = N := by omega
  clear hNe
  have HM0 : Hid (MSt w0 w1 b gc N' 0 (.slice none 0 0) [] []) := Lib.hid ⟨⟨base, _, _, _, hC, by simp [lenR, zRC], fun i r hi => (by
    rw [List.getElem?_replicate] at hi
    split at hi
    · cases hi; simp [zRC]
    · cases hi), fun s hs => by cases hs⟩, ⟨rfl, .inl ⟨rfl, rfl⟩⟩, hb1, hbf, hgf⟩
  have HB1 := Lib.hid hb1
  clear hC hb1
  go_upto_block 0 with fail
  go_cut [8, 9, 10] from 34 to 76 (fun v8 v9 v10 wx => ∃ Jn k, k ≤ 40 ∧ Jn.length ≤ k ∧ MSt w0 wx b gc N' k v8 Jn Jn)
  case first =>
    go_wp2_with fail
    go_loopw [8, 34] (fun v i ws => ∃ (k : Nat) (Jn : List Sp), k ≤ q ∧ k ≤ 40 ∧ Jn.length ≤ k ∧ i = .int .i64 (k : Int) ∧ MSt w0 ws b gc N' k v Jn Jn) (fun _ i _ => q - (intOf i).toNat)
    case atStart => exact ⟨0, [], Nat.zero_le _, by omega, Nat.le_refl _, rfl, HM0.out⟩
    case round =>
      obtain ⟨k, Jn, hkq, hk40, hJk, rfl, hM⟩ := hrel
      have HM := Lib.hid hM
      clear hM
      by_cases hlt : k < q
      · obtain ⟨s, hs⟩ : ∃ s, l[k]? = some s := ⟨_, List.getElem?_eq_getElem (by rw [HL.out]; exact hlt)⟩
        obtain ⟨ad, rfl, hab, d0, d1, d2, d3, d4⟩ := (HR.out.below HM.out.low).dos HL.out hs
        have HGS := Lib.hid (HG.out s (List.mem_of_getElem? hs))
        clear hs
        obtain ⟨op, at_, B, sn, sc, sl, s1, s2⟩ := s
        simp only at d0 d1 d2 d3 d4
        by_cases hk : k < 40
        · have hbn := below_new wr (.cells #[.int .i64 op, .int .i64 at_, .slice B sn sc, .int .i64 s1, .int .i64 s2] 48)
          have hnw := cells_new wr [.int .i64 op, .int .i64 at_, .slice B sn sc, .int .i64 s1, .int .i64 s2] 48
          have e0 := hnw 0 _ rfl
          have e1 := hnw 1 _ rfl
          have e2 := hnw 2 _ rfl
          have e3 := hnw 3 _ rfl
          have e4 := hnw 4 _ rfl
          rw [addNew] at e0 e1 e2 e3 e4
          obtain ⟨W1, hW1⟩ : ∃ W1, wr.alloc (.cells #[.int .i64 op, .int .i64 at_, .slice B sn sc, .int .i64 s1, .int .i64 s2] 48) = W1 := ⟨_, rfl⟩
          rw [hW1] at hbn e0 e1 e2 e3 e4
          have HM1 := Lib.hid (HM.out.lower hbn)
          have HRD := Lib.hid (HGS.out.2.2.1.below HM1.out.low)
          have hBlt : ∀ bd, B = some bd → 0 < sn → bd.block < w0.heap.size := fun bd e h0 => by
            obtain ⟨bd', e9, hlt9, _⟩ := HGS.out.2.2.1.2 h0
            have : B = some bd' := e9
            rw [e] at this
            cases this
            exact hlt9
          have HBL := Lib.hid hBlt
          clear hnw hbn hBlt
          by_cases hs4 : sn ≤ 4
          · have hop : op = 0 ∨ op = 1 ∨ op = 2 ∨ op = 3 ∨ op = 4 ∨ ((op == 0) = false ∧ (op == 1) = false ∧ (op == 2) = false ∧ (op == 3) = false ∧ (op == 4) = false) := by
              simp only [beq_eq_false_iff_ne]
              omega
            rcases hop with rfl | rfl | rfl | rfl | rfl | ⟨g0, g1, g2, g3, g4⟩
            iterate 4
              · go_wp2_with fail
                refine (mset_step at_ B sn sc sl HM1.out (by omega) HRD.out hs4).mono ?_
                rintro e w2 ⟨⟨er, rfl⟩, hM2⟩
                have HM2 := Lib.hid hM2
                clear hM2
                go_wp2_with fail
                go_roundw
                case rel => exact ⟨k + 1, Jn, by omega, by omega, by omega, by go_num, HM2.out⟩
                case measure => simp [intOf]; omega
            · go_wp2_with fail
              refine (mahead_step B sn sc sl HM1.out (by omega) (by omega) HRD.out hs4 HBL.out).mono ?_
              rintro e w2 ⟨⟨er, rfl⟩, hM2⟩
              have HM2 := Lib.hid hM2
              clear hM2
              go_wp2_with fail
              go_roundw
              case rel => exact ⟨k + 1, Jn, by omega, by omega, by omega, by go_num, HM2.out⟩
              case measure => simp [intOf]; omega
            · go_wp2_with fail
              refine (mjoin_step s1 s2 HM1.out (by omega)).mono ?_
              rintro e w2 ⟨⟨rfl, hM2⟩ | ⟨rfl, hM2⟩, hkk⟩
              · have HM2 := Lib.hid hM2
                have hsz : wr.heap.size < W1.heap.size := by rw [← hW1, World.size_alloc]; omega
                have hkb := hkk.block wr.heap.size hsz (by
                  obtain ⟨_, _, _, _, h1, _, _⟩ := HM.out.ex
                  have := hp_lt h1.hb
                  have := hp_lt h1.hc
                  simp
                  omega)
                have y3 := (World.cell?_of_block (a := ⟨wr.heap.size, 3, none⟩) hkb).trans e3
                have y4 := (World.cell?_of_block (a := ⟨wr.heap.size, 4, none⟩) hkb).trans e4
                clear hM2 hkk hkb hsz e0 e1 e2 e3 e4 hW1
                have hJl : Jn.length ≤ 41 := by omega
                go_wp2_with (at_builtin; refine wpList_app rfl _ _ _ rfl spanSlice (by decide) u8 Jn.length _ rfl (HM2.out.out.alloc _) ⟨w2.heap.size, 0, none⟩ 1 1 [.int .i64 s1, .int .i64 s2] rfl rfl (cells_new w2 [_, _] _) (oneInt2 _ _ _) (by omega) (by unfold maxLen; omega) (Nat.le_trans HM2.out.low.size (by simp)) ?_; intro v5 w5 hown5 hg5 hat5)
                have HM5 := Lib.hid (((HM2.out.lower (below_new w2 (.cells #[.int .i64 s1, .int .i64 s2] 31))).grown (v9 := v5) (J9 := Jn ++ [(s1, s2)]) hg5 (by rw [List.length_append, cellsS_snoc]; exact hown5)))
                clear hown5 hg5 hat5 y3 y4
                go_roundw
                case rel => exact ⟨k + 1, Jn ++ [(s1, s2)], by omega, by omega, by rw [List.length_append]; simp; omega, by go_num, HM5.out⟩
                case measure => simp [intOf]; omega
              · have HM2 := Lib.hid hM2
                clear hM2
                go_wp2_with fail
                go_roundw
                case rel => exact ⟨k + 1, Jn, by omega, by omega, by omega, by go_num, HM2.out⟩
                case measure => simp [intOf]; omega
          · go_wp2_with fail
            go_meet
            case rel => exact ⟨Jn, k, hk40, hJk, HM1.out⟩
        · have hbn := below_new wr (.cells #[.int .i64 op, .int .i64 at_, .slice B sn sc, .int .i64 s1, .int .i64 s2] 48)
          have HM1 := Lib.hid (HM.out.lower hbn)
          clear hbn
          go_wp2_with fail
          go_meet
          case rel => exact ⟨Jn, k, hk40, hJk, HM1.out⟩
      · obtain rfl : k = q := by omega
        go_wp2_with fail
        go_meet
        case rel => exact ⟨Jn, k, hk40, hJk, HM.out⟩
  case rest =>
    obtain ⟨Jn, k, hk40, hJk, hM⟩ := hcut
    obtain ⟨base', R, va, ah, hC, hsm, hE⟩ := hM.ex
    have HLOW := Lib.hid hM.low
    have HJO := Lib.hid hM.out
    obtain ⟨Aj, cj, rfl, _⟩ := own_form hM.out
    have HC := Lib.hid hC
    have HE := Lib.hid hE
    clear hM HM0 HB1 HR HG HL hE
    rcases Nat.eq_zero_or_pos N' with rfl | hN0
    · have HNC := Lib.hid (noCells_zero hC)
      clear hC
      go_wp2_with fail
      refine (text_none _ wc HNC.out).mono ?_
      rintro e w2 ⟨rfl, h2⟩
      have H2 := Lib.hid h2
      clear h2
      go_wp2_with fail
      go_loopw [12, 80] (fun s i ws => s = .int .i64 0 ∧ i = .int .i64 0 ∧ ws = w2) (fun _ _ _ => 0)
      case atStart => exact ⟨rfl, rfl, rfl⟩
      case round =>
        obtain ⟨rfl, rfl, rfl⟩ := hrel
        go_wp2_with fail
        refine (clusters_none _ wr (HNC.out.low H2.out)).mono ?_
        rintro e w3 ⟨rfl, h3⟩
        have H3 := Lib.hid (below_self H2.out h3)
        clear h3
        go_wp2_with fail
        refine (awake12_any w3).mono ?_
        rintro e w4 ⟨rfl, h4⟩
        have H4 := Lib.hid (HLOW.out.trans ((below_self H3.out h4).mono HLOW.out.size))
        clear h4
        go_wp2_with fail
        go_ret
        exact ⟨rfl, H4.out⟩
    · have hcl := cntR_le R ah 0 N'
      obtain ⟨cn, hcn⟩ : ∃ cn, cntR R ah 0 N' = cn := ⟨_, rfl⟩
      rw [hcn] at hcl
      have HTL := Lib.hid (toldR_len R ah 0 N')
      rw [hcn] at HTL
      have HT := Lib.hid (text_cells base' b gc N' R va ah wc hC hN0 (by omega) (by omega))
      have HCN := Lib.hid hcn
      clear hC hcn
      go_wp2_with fail
      refine HT.out.mono ?_
      rintro e w2 ⟨v2, rfl, hown2, h2⟩
      rw [HTL.out] at hown2
      obtain ⟨A2, c2, rfl, _⟩ := own_form hown2
      have HC2 := Lib.hid (HC.out.low h2)
      have HJ2 := Lib.hid (own_below HJO.out h2)
      have HL2 := Lib.hid (HLOW.out.trans (h2.mono HLOW.out.size))
      clear hown2 h2 HT HTL
      go_wp2_with fail
      go_loopw [12, 80] (fun s i ws => ∃ k : Nat, k ≤ N' ∧ i = .int .i64 (k : Int) ∧ s = .int .i64 ((totR R ah k : Nat) : Int) ∧ Below w2.heap.size w2 ws) (fun _ i _ => N' - (intOf i).toNat)
      case atStart => exact ⟨0, Nat.zero_le _, rfl, rfl, Below.refl _ _⟩
      case round =>
        obtain ⟨j, hj, rfl, rfl, hb⟩ := hrel
        have HBJ := Lib.hid hb
        clear hb
        by_cases hlt : j < N'
        · have htj : totR R ah j ≤ 1000 := by
            unfold totR
            split
            · omega
            · have := cntR_le R ah 0 j; omega
          have hcj := cntR_le R ah j (j + 1)
          have hst := totR_step (R := R) (ah := ah) (Nat.lt_succ_self j)
          have HLN := Lib.hid (toldR_len R ah j (j + 1))
          obtain ⟨tj, htj2⟩ : ∃ tj, totR R ah j = tj := ⟨_, rfl⟩
          obtain ⟨cc, hcc⟩ : ∃ cc, cntR R ah j (j + 1) = cc := ⟨_, rfl⟩
          rw [htj2] at htj hst ⊢
          rw [hcc] at hcj hst HLN
          have HST := Lib.hid hst
          clear hst htj2 hcc
          have HAT := Lib.hid (at_cells base' b gc N' j R va ah wr (HC2.out.low HBJ.out) hlt (by omega) (by omega))
          go_wp2_with fail
          refine HAT.out.mono ?_
          rintro e w3 ⟨v3, rfl, hown3, h3⟩
          rw [HLN.out] at hown3
          obtain ⟨A3, c3, rfl, _⟩ := own_form hown3
          have HB3 := Lib.hid (below_self HBJ.out h3)
          clear hown3 h3
          go_wp2_with fail
          go_roundw
          case rel => exact ⟨j + 1, by omega, by go_num, by rw [← HST.out]; go_num, HB3.out⟩
          case measure => simp [intOf]; omega
        · obtain rfl : j = N' := by omega
          have htn : totR R ah j = cn := by
            unfold totR
            rw [if_neg (by omega), HCN.out]
          rw [htn]
          clear htn
          have HCL := Lib.hid (clusters_cells base' b gc j R va ah wr (HC2.out.low HBJ.out) hN0 (by omega) (by omega))
          have HER := Lib.hid (linksR_err R ah hN0 (by omega) (by rw [HCN.out]; omega))
          rw [HCN.out] at HCL HER
          go_wp2_with fail
          refine HCL.out.mono ?_
          rintro e w3 ⟨hans, h3⟩
          have HB3 := Lib.hid (below_self HBJ.out h3)
          clear h3
          unfold FinAns at hans
          rw [HER.out] at hans
          rcases Nat.eq_zero_or_pos cn with rfl | hcn0
          · rw [if_pos rfl] at hans
            rcases hans with ⟨_, rfl⟩ | ⟨h, _⟩
            · have gj : decide ((0 : Int) < (j : Int)) = true := decide_eq_true (by omega)
              go_wp2_with fail
              refine (awake12_any w3).mono ?_
              rintro e w4 ⟨rfl, h4⟩
              have H4 := Lib.hid (HL2.out.trans ((below_self HB3.out h4).mono HL2.out.size))
              clear h4
              go_wp2_with fail
              go_ret
              exact ⟨rfl, H4.out⟩
            · omega
          · rw [if_neg (by omega)] at hans
            rcases hans with ⟨h, _⟩ | ⟨_, _, _, _, _, hfit, hcov, v, l', rfl, hfi, hown⟩
            · exact absurd rfl h
            · rw [Int.toNat_natCast, Int.toNat_natCast] at hfi
              have HCK := Lib.hid (finIs_check hfi hfit hcov)
              have HANY := Lib.hid (fun (s : Sp) (hs : s ∈ Jn) => joined_any_of hfit hfi HE.out hs)
              have hpl := finIs_len hfi
              obtain ⟨A4, c4, rfl, _⟩ := own_form hown
              have HR4 := Lib.hid (Rd.of_own hown)
              obtain ⟨p, hp⟩ : ∃ p, l'.length = p := ⟨_, rfl⟩
              rw [hp] at hpl HR4 ⊢
              have HRJ := Lib.hid ((Rd.of_own HJ2.out).below HB3.out)
              obtain ⟨jn, hjn⟩ : ∃ jn, Jn.length = jn := ⟨_, rfl⟩
              have HJN := Lib.hid hjn
              rw [hjn] at HRJ hJk ⊢
              clear hfit hcov hfi hown hp hjn
              go_wp2_with fail
              refine (prCheckC_any A4 p c4 (l'.map NC.cl) (j : Int) (cn : Int) w3 HR4.out (by omega)).mono ?_
              rintro e w4 ⟨rfl, h4⟩
              rw [HCK.out]
              have HB4 := Lib.hid (below_self HB3.out h4)
              have HR5 := Lib.hid (HR4.out.below h4)
              have HJ5 := Lib.hid (HRJ.out.below h4)
              clear h4
              go_wp2_with fail
              go_loopw [122] (fun i ws => ∃ t : Nat, t ≤ jn ∧ i = .int .i64 (t : Int) ∧ Below w4.heap.size w4 ws) (fun i _ => jn - (intOf i).toNat)
              case atStart => exact ⟨0, Nat.zero_le _, rfl, Below.refl _ _⟩
              case round =>
                obtain ⟨t, ht, rfl, hbt⟩ := hrel
                have HBT := Lib.hid hbt
                clear hbt
                by_cases hlt2 : t < jn
                · obtain ⟨s, hs⟩ : ∃ s, Jn[t]? = some s := ⟨_, List.getElem?_eq_getElem (by rw [HJN.out]; exact hlt2)⟩
                  have HH := Lib.hid (HANY.out s (List.mem_of_getElem? hs))
                  obtain ⟨ad, rfl, hab, x0, x1⟩ := (HJ5.out.below HBT.out).span hs
                  obtain ⟨s1, s2⟩ := s
                  simp only at x0 x1
                  have hb1 := below_new wr (.cells #[.int .i64 s1, .int .i64 s2] 31)
                  have sb := SpanBlk.new_ wr s1 s2 31
                  obtain ⟨W1, hW1⟩ : ∃ W1, wr.alloc (.cells #[.int .i64 s1, .int .i64 s2] 31) = W1 := ⟨_, rfl⟩
                  rw [hW1] at hb1 sb
                  obtain ⟨p0, p1, _, _⟩ := sb
                  simp only at p0 p1
                  have HCF := Lib.hid (containsC_any 40 #[.pointer (some ⟨wr.heap.size, 0, none⟩)] (enters_of Try.func40 (by kernel_rfl) rfl) (holdB (s1, s2)) A4 p c4 (l'.map NC.cl) W1 ((HR5.out.below HBT.out).below hb1) (by omega) (fun x W hW => holdLit_any s1 s2 wr.heap.size x W (cell_below hW p0) (cell_below hW p1)))
                  have HB1' := Lib.hid (below_self HBT.out hb1)
                  clear hs hb1 p0 p1
                  go_wp2_with fail
                  refine HCF.out.mono ?_
                  rintro e w5 ⟨rfl, h5⟩
                  rw [HH.out]
                  have HB5 := Lib.hid (below_self HB1'.out h5)
                  clear h5
                  go_wp2_with fail
                  go_roundw
                  case rel => exact ⟨t + 1, by omega, by go_num, HB5.out⟩
                  case measure => simp [intOf]; omega
                · obtain rfl : t = jn := by omega
                  go_wp2_with fail
                  refine (awake12_any wr).mono ?_
                  rintro e w5 ⟨rfl, h5⟩
                  have H5 := Lib.hid (HL2.out.trans ((below_self HB4.out (below_self HBT.out h5)).mono HL2.out.size))
                  clear h5
                  go_wp2_with fail
                  go_ret
                  exact ⟨rfl, H5.out⟩
end Go.Proofs.Ytmgoakfnmgngoaa
