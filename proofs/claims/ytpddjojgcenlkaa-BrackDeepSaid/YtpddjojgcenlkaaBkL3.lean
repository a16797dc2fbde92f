/- naskhlaw25.BrackDeep. -/
import Derived.Test.YtpddjojgcenlkaaBkAw
namespace Go.Proofs.Ytpddjojgcenlkaa
open Go.RowKit

/-- Two rows of the call's own, apart. -/
structure Rows2 (w0 w : World) (a b : Value) (n : Nat) (xs ys : List Int) : Prop where
  ra : w.ownsRow w0.heap.size 3 1 a n (xs.map (Value.int .i64))
  rb : w.ownsRow w0.heap.size 3 1 b n (ys.map (Value.int .i64))
  ne : a.ownBlock = none ∨ a.ownBlock ≠ b.ownBlock
  low : Below w0.heap.size w0 w
section
variable {w0 w w' : World} {a b v : Value} {n : Nat} {xs ys : List Int}
theorem ne_turn {p q : Option Nat} (h : p = none ∨ p ≠ q) : q = none ∨ q ≠ p := by
  rcases h with h | h
  · subst h
    cases q with
    | none => exact .inl rfl
    | some k => exact .inr (by simp)
  · exact .inr h.symm
theorem own_old {base : Nat} {e : TypeId} {size : Nat} {zs : List Value} (h : w.ownsRow base e size v n zs) : v.ownBlock ≠ some w.heap.size := fun e => by
  have := (h.lt _ e).2
  omega
theorem rows2_push {x y : Int} {a' b' : Value} {w1 w2 : World} (h : Rows2 w0 w a b n xs ys) (hb0 : Below w.heap.size w w1) (h1 : w1.grownBy w2 a.ownBlock) (o1 : w2.ownsRow w0.heap.size 3 1 a' (n + 1) (xs.map (Value.int .i64) ++ [.int .i64 x])) (t1 : a'.ownBlock = a.ownBlock ∨ a'.ownBlock = some w1.heap.size)
    {w3 w4 : World} (hb2 : Below w2.heap.size w2 w3) (h2 : w3.grownBy w4 b.ownBlock) (o2 : w4.ownsRow w0.heap.size 3 1 b' (n + 1) (ys.map (Value.int .i64) ++ [.int .i64 y])) (t2 : b'.ownBlock = b.ownBlock ∨ b'.ownBlock = some w3.heap.size) : Rows2 w0 w4 a' b' (n + 1) (xs ++ [x]) (ys ++ [y]) := by
  have rb1 := own_below h.rb hb0
  have ra1 := own_below h.ra hb0
  have hl1 := h.low.trans (hb0.mono h.low.size)
  have ne1 : a'.ownBlock = none ∨ a'.ownBlock ≠ b.ownBlock := by
    rcases t1 with t | t
    · rw [t]; exact h.ne
    · rw [t]; exact .inr (fun e => own_old rb1 e.symm)
  have rb2 := rb1.kept h1 (ne_turn h.ne)
  have hl2 : Below w0.heap.size w0 w2 := below_app hl1 h1 ra1 hl1.size
  have rb3 := own_below rb2 hb2
  have ra3 := own_below o1 hb2
  have hl3 := hl2.trans (hb2.mono hl2.size)
  have ra4 := ra3.kept h2 ne1
  refine ⟨by rw [List.map_append]; exact ra4, by rw [List.map_append]; exact o2, ?_, below_app hl3 h2 rb3 hl3.size⟩
  rcases t2 with t | t
  · rw [t]; exact ne1
  · rw [t]; exact .inr (fun e => own_old ra3 e)
end
theorem deep_len {t : Nat} : (bkF (List.replicate t 40 ++ List.replicate t 41) (List.replicate (t + t) 13)).length = if 63 < t then 0 else t := by
  have hl : (List.replicate t (40 : Int) ++ List.replicate t 41).length = t + t := by simp
  have e40 : ∀ i, i < t → (List.replicate t (40 : Int) ++ List.replicate t 41).getD i 0 = 40 := fun i hi => by
    rw [List.getD_eq_getElem?_getD, List.getElem?_append_left (by simpa using hi), List.getElem?_replicate, if_pos hi]; rfl
  have e41 : ∀ i, i < t → (List.replicate t (40 : Int) ++ List.replicate t 41).getD (t + i) 0 = 41 := fun i hi => by
    rw [List.getD_eq_getElem?_getD, List.getElem?_append_right (by simp), List.length_replicate, Nat.add_sub_cancel_left, List.getElem?_replicate, if_pos hi]; rfl
  have e13 : ∀ i, i < t + t → (List.replicate (t + t) (13 : Int)).getD i 0 = 13 := fun i hi => by
    rw [List.getD_eq_getElem?_getD, List.getElem?_replicate, if_pos hi]; rfl
  have b40 : braF 40 = (1, 41) := by decide +kernel
  have b41 : braF 41 = (2, 41) := by decide +kernel
  have hbm : bmF 40 41 = true := by decide +kernel
  generalize List.replicate t (40 : Int) ++ List.replicate t 41 = cs at hl e40 e41
  generalize hls : List.replicate (t + t) (13 : Int) = ls at e13
  have hll : ls.length = t + t := by rw [← hls]; simp
  unfold bkF
  rw [if_pos (by rw [hl, hll]), hl]
  have H1 : ∀ i, i < t → (fun i => decide (ls.getD i 0 = 13)) i = true ∧ (fun i => (braF (cs.getD i 0)).1) i = 1 := fun i hi => ⟨by simp only [e13 i (by omega)]; decide, by simp only [e40 i hi, b40]⟩
  by_cases h : 63 < t
  · rw [if_pos h]
    have := (bk_over (fun i => decide (ls.getD i 0 = 13)) (fun i => (braF (cs.getD i 0)).1) (fun o i => bmF (cs.getD o 0) (cs.getD i 0)) h H1 (t + t - 64)).1
    rw [show 64 + (t + t - 64) = t + t by omega] at this
    rw [this]
    rfl
  · rw [if_neg h]
    have := (bk_closes (fun i => decide (ls.getD i 0 = 13)) (fun i => (braF (cs.getD i 0)).1) (fun o i => bmF (cs.getD o 0) (cs.getD i 0)) (show t ≤ 63 by omega) H1 (fun i hi => ⟨by simp only [e13 (t + i) (by omega)]; decide, by simp only [e41 i hi, b41], fun o ho => by simp only [e40 o ho, e41 i hi, hbm]⟩) t (Nat.le_refl _)).2.1
    exact this
theorem rep_snoc (t : Nat) (x : Int) : List.replicate t x ++ [x] = List.replicate (t + 1) x := by rw [List.replicate_succ']
set_option maxRecDepth 100000 in
set_option maxHeartbeats 4000000 in
theorem brackDeep_any (m : Nat) (hm : m ≤ 255) (w : World) : Calls Try.prog 5 #[.int .u8 (m : Int)] w fun e w' => e = .returned (.bool true) ∧ Below w.heap.size w w' := by
  have HAW := Lib.hid awakeBk_any
  obtain ⟨t, ht⟩ : ∃ t, m % 80 = t := ⟨_, rfl⟩
  have hti : (m : Int) % 80 = (t : Int) := by omega
  have htm : (m : Int).tmod 80 = (t : Int) := by rw [Int.tmod_eq_emod_of_nonneg (by omega)]; exact hti
  have ht80 : t < 80 := by omega
  have HL := Lib.hid (deep_len (t := t))
  go_enter Try.func5, Try.ntmps5
  go_wp2
  go_loopw [4, 5, 11] (fun va vb i wr => ∃ j : Nat, j ≤ t ∧ i = .int .i64 (j : Int) ∧ Rows2 w wr va vb j (List.replicate j 40) (List.replicate j 13)) (fun _ _ i _ => t - (intOf i).toNat)
  case atStart => exact ⟨0, Nat.zero_le _, rfl, ⟨⟨rfl, .inl ⟨rfl, rfl⟩⟩, ⟨rfl, .inl ⟨rfl, rfl⟩⟩, .inl rfl, Below.refl _ _⟩⟩
  case round =>
    obtain ⟨j, hj, rfl, hR⟩ := hrel
    have HR := Lib.hid hR
    clear hR
    by_cases hlt : j < t
    · have hji : (j : Int) < (t : Int) := by omega
      go_wp2_with (first
        | (at_builtin; refine wpList_app rfl _ _ _ rfl intSliceM (by decide) u5 j _ rfl (rb2.alloc _) ⟨w2.heap.size, 0, none⟩ 1 1 [.int .i64 13] rfl rfl (cells_new w2 [_] _) (oneInt _ _) (by omega) (by unfold maxLen; omega) (Nat.le_trans hl2.size (by simp)) ?_; intro b4 w4 o4 g4 t4)
        | (at_builtin; refine wpList_app rfl _ _ _ rfl intSliceM (by decide) u4 j _ rfl (HR.out.ra.alloc _) ⟨wr.heap.size, 0, none⟩ 1 1 [.int .i64 40] rfl rfl (cells_new wr [_] _) (oneInt _ _) (by omega) (by unfold maxLen; omega) (Nat.le_trans HR.out.low.size (by simp)) ?_; intro a2 w2 o2 g2 t2; have rb2 := (own_below HR.out.rb (below_new wr _)).kept g2 (ne_turn HR.out.ne); have hl2 := below_app (HR.out.low.trans ((below_new wr _).mono HR.out.low.size)) g2 (HR.out.ra.alloc _) (Nat.le_trans HR.out.low.size (by simp)))
        | fail)
      have HR4 := Lib.hid (rows2_push HR.out (below_new wr _) g2 o2 t2 (below_new w2 _) g4 o4 t4)
      clear rb2 hl2 o2 g2 t2 o4 g4 t4
      go_roundw
      case rel => exact ⟨j + 1, by omega, by go_num, by have h := HR4.out; rw [rep_snoc, rep_snoc] at h; exact h⟩
      case measure => simp [intOf]; omega
    · obtain rfl : j = t := by omega
      go_wp2
      go_loopw [4, 5, 21] (fun va vb i wr => ∃ k : Nat, k ≤ j ∧ i = .int .i64 (k : Int) ∧ Rows2 w wr va vb (j + k) (List.replicate j 40 ++ List.replicate k 41) (List.replicate (j + k) 13)) (fun _ _ i _ => j - (intOf i).toNat)
      case atStart => exact ⟨0, Nat.zero_le _, rfl, by simpa using HR.out⟩
      case round =>
        clear HR
        obtain ⟨k, hk, rfl, hR⟩ := hrel
        have HR := Lib.hid hR
        clear hR
        by_cases hlt2 : k < j
        · have hki : (k : Int) < (j : Int) := by omega
          go_wp2_with (first
            | (at_builtin; refine wpList_app rfl _ _ _ rfl intSliceM (by decide) u5 (j + k) _ rfl (rb2.alloc _) ⟨w2.heap.size, 0, none⟩ 1 1 [.int .i64 13] rfl rfl (cells_new w2 [_] _) (oneInt _ _) (by omega) (by unfold maxLen; omega) (Nat.le_trans hl2.size (by simp)) ?_; intro b4 w4 o4 g4 t4)
            | (at_builtin; refine wpList_app rfl _ _ _ rfl intSliceM (by decide) u4 (j + k) _ rfl (HR.out.ra.alloc _) ⟨wr.heap.size, 0, none⟩ 1 1 [.int .i64 41] rfl rfl (cells_new wr [_] _) (oneInt _ _) (by omega) (by unfold maxLen; omega) (Nat.le_trans HR.out.low.size (by simp)) ?_; intro a2 w2 o2 g2 t2; have rb2 := (own_below HR.out.rb (below_new wr _)).kept g2 (ne_turn HR.out.ne); have hl2 := below_app (HR.out.low.trans ((below_new wr _).mono HR.out.low.size)) g2 (HR.out.ra.alloc _) (Nat.le_trans HR.out.low.size (by simp)))
            | fail)
          have HR4 := Lib.hid (rows2_push HR.out (below_new wr _) g2 o2 t2 (below_new w2 _) g4 o4 t4)
          clear rb2 hl2 o2 g2 t2 o4 g4 t4
          go_roundw
          case rel => exact ⟨k + 1, by omega, by go_num, by have h := HR4.out; rw [List.append_assoc, rep_snoc, rep_snoc] at h; exact h⟩
          case measure => simp [intOf]; omega

        · obtain rfl : k = j := by omega
          obtain ⟨A4, c4, e4, _⟩ := own_form HR.out.ra
          obtain ⟨A5, c5, e5, _⟩ := own_form HR.out.rb
          subst e4 e5
          have HF := Lib.hid (bkFind_any A4 A5 (k + k) c4 (k + k) c5 _ _ wr (Rd.of_own HR.out.ra) (Rd.of_own HR.out.rb) (by omega) (by omega))
          have HLW := Lib.hid HR.out.low
          by_cases h63 : 63 < k
          · have HL2 := Lib.hid (HL.out.trans (if_pos h63))
            have h63i : (63 : Int) < (k : Int) := by omega
            clear HL h63
            go_wp2_with (first
              | (go_at_call 8; refine HF.out.mono ?_; rintro e w7 ⟨v7, rfl, hv7, hb7⟩; rw [HL2.out] at hv7; obtain ⟨A7, c7, he7, _⟩ := own_form hv7; subst he7; have HB7 := Lib.hid (below_self HLW.out hb7); clear hv7 hb7)
              | (go_at_call 6; refine (HAW.out _).mono ?_; rintro e w8 ⟨rfl, hb8⟩; have HB8 := Lib.hid (below_self HB7.out hb8); clear hb8)
              | fail)
            go_ret
            exact ⟨rfl, HB8.out⟩
          · have HL2 := Lib.hid (HL.out.trans (if_neg h63))
            have h63i : ¬ (63 : Int) < (k : Int) := by omega
            clear HL h63
            go_wp2_with (first
              | (go_at_call 8; refine HF.out.mono ?_; rintro e w7 ⟨v7, rfl, hv7, hb7⟩; rw [HL2.out] at hv7; obtain ⟨A7, c7, he7, _⟩ := own_form hv7; subst he7; have HB7 := Lib.hid (below_self HLW.out hb7); clear hv7 hb7)
              | (go_at_call 6; refine (HAW.out _).mono ?_; rintro e w8 ⟨rfl, hb8⟩; have HB8 := Lib.hid (below_self HB7.out hb8); clear hb8)
              | fail)
            go_ret
            exact ⟨rfl, HB8.out⟩
end Go.Proofs.Ytpddjojgcenlkaa
