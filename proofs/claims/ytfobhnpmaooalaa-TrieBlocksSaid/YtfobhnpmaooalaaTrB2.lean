/- The reference's Blocks. -/
import Derived.Test.YtfobhnpmaooalaaTrB1
namespace Go.Proofs.Ytfobhnpmaooalaa
open Go.RowKit

/-- What Blocks holds at block k. -/
def SeenAt (w : World) (l : List Rg) (z : Int) (v em i : Value) (wr : World) : Prop := ∃ (k : Nat) (seen : List Nat) (e : Bool), k ≤ 8704 ∧ i = .int .i64 k ∧ em = .bool e ∧ (e = true → ∃ j, j < k ∧ plainF l j = true) ∧ SeenInv l z k seen ∧
  wr.ownsRow w.heap.size 3 1 v seen.length (seen.map fun (q : Nat) => Value.int .i64 (q : Int)) ∧ Below w.heap.size w wr
def foundF (l : List Rg) (z : Int) (k : Nat) (s : List Nat) : Bool := s.any fun q => decide (blkAt l z q = blkAt l z k)
theorem found_next {l : List Rg} {z : Int} {k i q : Nat} {seen : List Nat} (h : seen[i]? = some q) : foundF l z k (seen.take (i + 1)) = (foundF l z k (seen.take i) || decide (blkAt l z q = blkAt l z k)) := by
  rw [foundF, List.take_add_one, h, List.any_append]
  simp [foundF]
theorem found_yes {l : List Rg} {z : Int} {k i : Nat} {seen : List Nat} (h : foundF l z k (seen.take i) = true) : blkAt l z k ∈ seen.map (blkAt l z) := by
  unfold foundF at h
  rw [List.any_eq_true] at h
  obtain ⟨q, hq, e⟩ := h
  rw [← of_decide_eq_true e]
  exact List.mem_map.2 ⟨q, List.mem_of_mem_take hq, rfl⟩
theorem found_no {l : List Rg} {z : Int} {k i : Nat} {seen : List Nat} (hi : ¬ i < seen.length) (h : foundF l z k (seen.take i) = false) : blkAt l z k ∉ seen.map (blkAt l z) := by
  rw [List.take_of_length_le (by omega)] at h
  intro m
  obtain ⟨q, hq, e⟩ := List.mem_map.1 m
  have : foundF l z k seen = true := by
    unfold foundF
    rw [List.any_eq_true]
    exact ⟨q, hq, decide_eq_true e⟩
  rw [h] at this
  cases this
theorem oneNats (xs : List Nat) : ∀ u ∈ xs.map (fun (q : Nat) => Value.int .i64 (q : Int)), u.oneCell' = true := by
  intro u hu
  simp at hu
  obtain ⟨x, _, rfl⟩ := hu
  rfl
set_option maxRecDepth 100000 in
set_option maxHeartbeats 4000000 in
theorem refBlocks_any (A : Option Addr) (n c nb : Nat) (l : List Rg) (z : Int) (w : World) (hr : Rd w 3 A n (cellsG l)) (hn : n ≤ 4096) (hnb : ∀ seen, SeenInv l z 8704 seen → seen.length = nb) :
    Calls Try.prog 19 #[.slice A n c, .int .i64 z] w fun e w' => e = .returned (.int .i64 (nb : Nat)) ∧ Below w.heap.size w w' := by
  have HR := Lib.hid hr
  have HNB := Lib.hid hnb
  clear hr hnb
  go_enter Try.func19, Try.ntmps19
  go_wp2
  go_loopw [5, 6, 7] (fun v em i wr => SeenAt w l z v em i wr) (fun _ _ i _ => 8705 - (intOf i).toNat)
  case atStart => exact ⟨0, [], false, by omega, rfl, rfl, (fun h => by cases h), SeenInv.start l z, ⟨rfl, .inl ⟨rfl, rfl⟩⟩, Below.refl _ _⟩
  case round =>
    obtain ⟨k, seen, em, hk, rfl, rfl, hem, hsi, hown, hb⟩ := hrel
    have HEM := Lib.hid hem
    have HSI := Lib.hid hsi
    have HO := Lib.hid hown
    have hfew := hsi.few
    obtain ⟨Av, cv, rfl, hcv⟩ := own_form hown
    clear hem hsi hown
    by_cases hlt : k < 8704
    · obtain ⟨pl, hpl⟩ : ∃ p, plainF l k = p := ⟨_, rfl⟩
      have HPL := Lib.hid hpl
      have HCP := Lib.hid (refPlain_any A n c l k wr (HR.out.below hb) hn (by omega))
      rw [hpl] at HCP
      clear hpl
      go_wp2_with fail
      refine HCP.out.mono ?_
      rintro e w1 ⟨rfl, hb1⟩
      have hb2 := hb.trans (hb1.mono hb.size)
      have HO2 := Lib.hid (own_below HO.out hb1)
      clear HCP HO
      have hcase : (pl = true ∧ em = true) ∨ (pl = true ∧ em = false) ∨ pl = false := by cases pl <;> cases em <;> simp
      rcases hcase with ⟨rfl, rfl⟩ | hrest
      · have HN := Lib.hid (show SeenInv l z (k + 1) seen from HSI.out.old (by
          obtain ⟨j, hj, hp⟩ := HEM.out rfl
          rw [plainF_blk HPL.out, ← plainF_blk (z := z) hp]
          exact HSI.out.cover j hj))
        have HE2 := Lib.hid (show (true = true → ∃ j, j < k + 1 ∧ plainF l j = true) from fun _ => ⟨k, by omega, HPL.out⟩)
        go_wp2
        go_roundw
        case rel => first | exact ⟨k + 1, seen, true, by omega, by go_num, rfl, HE2.out, HN.out, HO2.out, hb2⟩ | exact ⟨k + 1, seen, true, by omega, by go_num, rfl, (fun _ => HE2.out trivial), HN.out, HO2.out, hb2⟩
        case measure => simp [intOf]; omega
      · obtain ⟨em2, hem2⟩ : ∃ e : Bool, e = (pl || em) := ⟨_, rfl⟩
        have HE2 := Lib.hid (show (em2 = true → ∃ j, j < k + 1 ∧ plainF l j = true) from fun h => by
          rw [hem2] at h
          cases pl with
          | true => exact ⟨k, by omega, HPL.out⟩
          | false =>
            obtain ⟨j, hj, hp⟩ := HEM.out (by simpa using h)
            exact ⟨j, by omega, hp⟩)
        have hem3 : (pl = true ∧ em = false ∧ em2 = true) ∨ (pl = false ∧ em2 = em) := by
          rcases hrest with ⟨rfl, rfl⟩ | rfl
          · exact .inl ⟨rfl, rfl, by rw [hem2]; rfl⟩
          · exact .inr ⟨rfl, by rw [hem2]; simp⟩
        clear hem2 hrest
        rcases hem3 with ⟨rfl, rfl, rfl⟩ | ⟨rfl, rfl⟩
        all_goals (
          go_wp2
          go_loopw [8, 9] (fun f i wr => ∃ q : Nat, q ≤ seen.length ∧ i = .int .i64 q ∧ f = .bool (foundF l z k (seen.take q)) ∧ wr = w1) (fun _ i _ => seen.length - (intOf i).toNat)
          case atStart => exact ⟨0, Nat.zero_le _, rfl, rfl, rfl⟩
          case round =>
            obtain ⟨q, hq, rfl, rfl, rfl⟩ := hrel
            obtain ⟨fd, hfd⟩ : ∃ f, foundF l z k (seen.take q) = f := ⟨_, rfl⟩
            rw [hfd]
            have HFD := Lib.hid hfd
            clear hfd
            cases fd with
            | true =>
              have HN := Lib.hid (HSI.out.old (found_yes HFD.out))
              by_cases hql : q < seen.length
              · go_wp2
                go_roundw
                case rel => first | exact ⟨k + 1, seen, _, by omega, by go_num, rfl, HE2.out, HN.out, HO2.out, hb2⟩ | exact ⟨k + 1, seen, _, by omega, by go_num, rfl, (fun _ => HE2.out trivial), HN.out, HO2.out, hb2⟩
                case measure => simp [intOf]; omega
              · go_wp2
                go_roundw
                case rel => first | exact ⟨k + 1, seen, _, by omega, by go_num, rfl, HE2.out, HN.out, HO2.out, hb2⟩ | exact ⟨k + 1, seen, _, by omega, by go_num, rfl, (fun _ => HE2.out trivial), HN.out, HO2.out, hb2⟩
                case measure => simp [intOf]; omega
            | false =>
              by_cases hql : q < seen.length
              · obtain ⟨x, hx⟩ : ∃ x, seen[q]? = some x := ⟨_, List.getElem?_eq_getElem hql⟩
                have hxk := HSI.out.real x (List.mem_of_getElem? hx)
                have HNX := Lib.hid (found_next (l := l) (z := z) (k := k) hx)
                obtain ⟨gs, rfl⟩ : ∃ gs, Av = some ⟨gs, 0, none⟩ := by
                  obtain ⟨g', cap', hv, _⟩ := HO2.out.form (by omega)
                  injection hv with e
                  exact ⟨g', e⟩
                have hcell := HO2.out.cellAt q (by omega)
                rw [List.getElem?_map, hx] at hcell
                simp only [Option.map_some] at hcell
                have HCA := Lib.hid (refAlike_any A n c l z x k wr (HR.out.below hb2) (by unfold maxLen; omega) (by omega) (by omega))
                obtain ⟨r, hrr⟩ : ∃ r, decide (blkAt l z x = blkAt l z k) = r := ⟨_, rfl⟩
                rw [hrr] at HCA HNX
                rw [HFD.out] at HNX
                clear hx hrr
                go_wp2_with fail
                refine HCA.out.mono ?_
                rintro e w9 ⟨rfl, rfl⟩
                go_wp2
                go_roundw
                case rel => exact ⟨q + 1, by omega, by go_num, by rw [HNX.out]; simp, trivial⟩
                case measure => simp [intOf]; omega
              · have HN := Lib.hid (HSI.out.new_ (found_no hql HFD.out))
                have HNEW := Lib.hid (cells_new wr [.int .i64 k] 3)
                have HO4 := Lib.hid (HO2.out.alloc (.cells #[.int .i64 k] 3))
                have HB2 := Lib.hid hb2
                have hsz := hb2.size
                go_wp2_with (at_builtin; refine wpList_app rfl _ _ 40 rfl intsSlice (by decide) (.slice Av seen.length cv) seen.length (seen.map fun (q : Nat) => Value.int .i64 (q : Int)) rfl HO4.out ⟨wr.heap.size, 0, none⟩ 1 1 [.int .i64 k] rfl rfl HNEW.out (oneInt _ _) (by omega) (by unfold maxLen; omega) (by simp; omega) ?_; intro v' w5 h5 g5 _; have hb5 := below_app (HB2.out.alloc HB2.out.size (.cells #[.int .i64 k] 3)) g5 HO4.out (by simp; omega))
                go_wp2
                go_roundw
                case rel => first | exact ⟨k + 1, seen ++ [k], _, by omega, by go_num, rfl, HE2.out, HN.out, by simpa using h5, hb5⟩ | exact ⟨k + 1, seen ++ [k], _, by omega, by go_num, rfl, (fun _ => HE2.out trivial), HN.out, by simpa using h5, hb5⟩
                case measure => simp [intOf]; omega)
    · have hke : k = 8704 := by omega
      have HF := Lib.hid (show seen.length = nb from HNB.out seen (by rw [← hke]; exact HSI.out))
      subst hke
      go_wp2
      go_ret
      exact ⟨by rw [← HF.out]; rfl, hb⟩
end Go.Proofs.Ytfobhnpmaooalaa
