/- naskhlaw13.JoinMeets. -/
import Derived.Test.YtcjcimdembkbkaaJnL1
namespace Go.Proofs.Ytcjcimdembkbkaa
open Go.RowKit

/-- What begins, or goes on, joins what is behind; and that is met, unless it has others join. -/
theorem jForm_meets {ts : List Int} {k : Nat} (h : jForm ts k = 3 ∨ jForm ts k = 4) : ∃ (b : Nat) (u : Int), jFirst ts (k + 1) = b ∧ ts[b]? = some u ∧ (u = 5 ∨ jForm ts b = 2 ∨ jForm ts b = 4) := by
  cases htk : ts[k]? with
  | none => simp [jForm, htk] at h
  | some t =>
    rw [jForm_at htk] at h
    have hf : formedB t = true := by
      by_cases hf : formedB t = true
      · exact hf
      · rw [if_neg hf] at h; omega
    rw [if_pos hf] at h
    have hj : jJoin ts k = true := by
      cases hq : jJoin ts k with
      | true => rfl
      | false => rw [hq] at h; cases hq2 : jJoinI ts (jLast ts k) <;> rw [hq2] at h <;> simp [formK] at h
    rcases jFirst_ge ts (k + 1) with e | ⟨b, e⟩
    · rw [jJoin_none e] at hj; exact absurd hj (by simp)
    · obtain ⟨h1, h2, ⟨u, h3, h4⟩, h5⟩ := jFirst_is e
      refine ⟨b, u, e, h3, ?_⟩
      rw [jJoin_some htk e h3] at hj
      have hm : meetB u = true := by simpa using (Bool.and_eq_true_iff.1 hj).2
      by_cases h5u : u = 5
      · exact .inl h5u
      · have hfu : formedB u = true := by
          unfold meetB at hm
          unfold formedB
          simp only [Bool.or_eq_true, beq_iff_eq] at hm ⊢
          omega
        have ht1 : t ≠ 1 := by rintro rfl; simp [formedB] at hf
        have hlast : jLast ts b = k := by
          rw [jLast_back (k := k + 1) (by omega) (fun j a c => h5 j a c)]
          exact jLast_hit htk ht1
        have hjb : jJoinI ts (jLast ts b) = true := by
          rw [hlast]
          unfold jJoinI
          rw [if_pos (by omega), Int.toNat_natCast, jJoin_some htk e h3]
          exact hj
        right
        rw [jForm_at h3, if_pos hfu, hjb]
        cases jJoin ts b <;> simp [formK]
set_option maxRecDepth 100000 in
set_option maxHeartbeats 4000000 in
theorem joinMeets_any (A : Option Addr) (n c : Nat) (ts : List Int) (w : World) (hr : Rd w 1 A n (ts.map (Value.int .i64))) (hn : n ≤ maxLen) :
    Calls Try.prog 5 #[.slice A n c] w fun e w' => e = .returned (.bool true) ∧ Below w.heap.size w w' := by
  have hlen : ts.length = n := by simpa using hr.len1
  have HL := Lib.hid hlen
  unfold maxLen at hn
  by_cases hs : n ≤ 300
  · have HP := Lib.hid (jnForms_any A n c ts w hr (by omega))
    have HR := Lib.hid hr
    clear hlen hr
    go_enter Try.func5, Try.ntmps5
    go_wp2_with fail
    refine HP.out.mono ?_
    rintro e w1 ⟨⟨g, _, rfl, hg⟩, hb1⟩
    have hrf := rd_intsZ hg (n := n) (by rw [jForms_len, HL.out])
    have HRF := Lib.hid hrf
    have HB1 := Lib.hid hb1
    have HR1 := Lib.hid (HR.out.below hb1)
    clear hb1 hg hrf
    go_wp2_with fail
    go_loop [19] (fun i => ∃ k : Nat, k ≤ n ∧ i = .int .i64 k) (fun i => n - (intOf i).toNat)
    case atStart => exact ⟨0, Nat.zero_le _, rfl⟩
    case round =>
      obtain ⟨k, hk, rfl⟩ := hrel
      by_cases hlt : k < n
      · have cf : w1.cell? ⟨g, k, none⟩ = some (.int .i64 (jForm ts k)) := by
          have := HRF.out.news k (.int .i64 (jForm ts k)) (by rw [List.getElem?_map, jForms_at (by rw [HL.out]; exact hlt)]; rfl)
          rwa [addNew] at this
        have hmt := jForm_meets (ts := ts) (k := k)
        obtain ⟨f, hf⟩ : ∃ f, jForm ts k = f := ⟨_, rfl⟩
        rw [hf] at cf hmt
        have HM := Lib.hid hmt
        clear hf hmt
        by_cases h34 : f = 3 ∨ f = 4
        · obtain ⟨b, u, e1, e2, e3⟩ := HM.out h34
          have hbn : b < n := by have := (List.getElem?_eq_some_iff.1 e2).1; rw [HL.out] at this; exact this
          have HBE := Lib.hid (jnBehind_any A n c ts k w1 HR1.out (by omega))
          rw [show jBehind ts k = (b : Int) by unfold jBehind; rw [if_pos ⟨by omega, by rw [HL.out]; omega⟩, Int.toNat_natCast, e1]] at HBE
          have cb : w1.cell? ⟨g, b, none⟩ = some (.int .i64 (jForm ts b)) := by
            have := HRF.out.news b (.int .i64 (jForm ts b)) (by rw [List.getElem?_map, jForms_at (by rw [HL.out]; exact hbn)]; rfl)
            rwa [addNew] at this
          obtain ⟨ad, rfl, _, hc⟩ := HR1.out.at_ hbn
          have cu : w1.cell? (ad.add b) = some (.int .i64 u) := hc _ (by rw [List.getElem?_map, e2]; rfl)
          obtain ⟨v, hv⟩ : ∃ v, jForm ts b = v := ⟨_, rfl⟩
          rw [hv] at cb e3
          clear hv e1 e2 hc HM
          rcases h34 with rfl | rfl <;> rcases e3 with rfl | rfl | rfl
          all_goals
            go_wp2_with (first
              | (go_at_call 17; with_reducible refine HBE.out.mono ?_; rintro e w3 ⟨rfl, rfl⟩)
              | fail)
            all_goals exact ⟨⟨k + 1, by omega, by go_num⟩, by simp [intOf]; omega⟩
        · have g3 : (f != 3) = true := by simp only [bne_iff_ne]; omega
          have g4 : (f != 4) = true := by simp only [bne_iff_ne]; omega
          clear h34 HM
          go_wp2_with fail
          go_round
          case rel => exact ⟨k + 1, by omega, by go_num⟩
          case measure => simp [intOf]; omega
      · go_wp2_with fail
        refine (awakeJn_any _).mono ?_
        rintro e w4 ⟨rfl, hb4⟩
        have HB4 := Lib.hid (below_self HB1.out hb4)
        clear hb4
        go_wp2
        go_ret
        exact ⟨rfl, HB4.out⟩
  · clear hr hlen
    go_enter Try.func5, Try.ntmps5
    go_wp2_with fail
    refine (awakeJn_any _).mono ?_
    rintro e w4 ⟨rfl, hb4⟩
    go_wp2
    go_ret
    exact ⟨rfl, hb4⟩
end Go.Proofs.Ytcjcimdembkbkaa
