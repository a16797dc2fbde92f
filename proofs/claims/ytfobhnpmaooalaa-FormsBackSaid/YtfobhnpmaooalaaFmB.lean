/- naskhlaw09.FormsBack. -/
import Derived.Test.YtfobhnpmaooalaaFmW
namespace Go.Proofs.Ytfobhnpmaooalaa
open Go.RowKit

def cntB : List Bool → Nat
  | [] => 0
  | b :: l => one01 b + cntB l
theorem cntB_app (a b : List Bool) : cntB (a ++ b) = cntB a + cntB b := by
  induction a with
  | nil => simp [cntB]
  | cons x a ih => rw [List.cons_append, cntB, cntB, ih, Nat.add_assoc]
theorem cntB_next {l : List Bool} {k : Nat} {b : Bool} (h : l[k]? = some b) : cntB (l.take (k + 1)) = cntB (l.take k) + one01 b := by
  rw [List.take_add_one, h, cntB_app]
  simp [cntB]
set_option maxRecDepth 100000 in
set_option maxHeartbeats 4000000 in
/-- From the sixth step on: the kinds of a code, counted. -/
theorem kindsList (c : Int) (b0 b1 b2 b3 : Bool) (h0 : (baseF c).2.2 = b0) (h1 : (parF c).2.2 = b1) (h2 : (marF c).2.2 = b2) (h3 : (unpF c).2 = b3) : cntB [b0, b1, b2, b3] ≤ 1 := by
  have := kinds_le c
  unfold kindsF at this
  rw [h0, h1, h2, h3] at this
  simp only [cntB]
  omega
theorem cntB_le : ∀ l : List Bool, cntB l ≤ l.length
  | [] => Nat.le_refl _
  | b :: l => by
    have := cntB_le l
    have h1 : one01 b ≤ 1 := by cases b <;> decide
    simp only [cntB, List.length_cons]
    omega
theorem rdBools (w : World) (l : List Bool) (t : TypeId) : Rd (w.alloc (.cells (l.map Value.bool).toArray t)) 1 (some ⟨w.heap.size, 0, none⟩) l.length (l.map Value.bool) := by
  have := Rd.new_ w (l.map Value.bool) t
  rwa [List.length_map] at this
set_option maxRecDepth 100000 in
set_option maxHeartbeats 4000000 in
theorem formsBack_any (b f c : Int) (g0 : -9223372036854775808 ≤ f) (g9 : f ≤ 9223372036854775807) (w : World) : Calls Try.prog 9 #[.int .i64 b, .int .i64 f, .int .i64 c] w fun e w' => e = .returned (.bool true) ∧ Below w.heap.size w w' := by
  obtain ⟨x, k, h1⟩ : ∃ x k, formF b f = (x, k) := ⟨_, _, rfl⟩
  obtain ⟨y, m, h2⟩ : ∃ x k, ligF b f = (x, k) := ⟨_, _, rfl⟩
  obtain ⟨x0, y0, b0, e0⟩ : ∃ x y b, baseF c = (x, y, b) := ⟨_, _, _, rfl⟩
  obtain ⟨x1, y1, b1, e1⟩ : ∃ x y b, parF c = (x, y, b) := ⟨_, _, _, rfl⟩
  obtain ⟨x2, y2, b2, e2⟩ : ∃ x y b, marF c = (x, y, b) := ⟨_, _, _, rfl⟩
  obtain ⟨x3, b3, e3⟩ : ∃ x b, unpF c = (x, b) := ⟨_, _, rfl⟩
  have HC := Lib.hid (kindsList c b0 b1 b2 b3 (by rw [e0]) (by rw [e1]) (by rw [e2]) (by rw [e3]))
  have H1 := Lib.hid h1
  have H2 := Lib.hid h2
  have E0 := Lib.hid e0
  have E1 := Lib.hid e1
  have E2 := Lib.hid e2
  have E3 := Lib.hid e3
  have HA := Lib.hid g0
  have HZ := Lib.hid g9
  clear h1 h2 e0 e1 e2 e3 g0 g9
  obtain ⟨bs, hbs⟩ : ∃ bs : List Bool, [b0, b1, b2, b3] = bs := ⟨_, rfl⟩
  have hlen : bs.length = 4 := by rw [← hbs]; rfl
  rw [hbs] at HC
  have HL := Lib.hid hlen
  have HBS := Lib.hid hbs
  clear hbs hlen
  go_enter Try.func9, Try.ntmps9
  go_wp2_with fail
  refine (fmForm_any b f x k H1.out HA.out HZ.out _).mono ?_
  rintro e w1 ⟨rfl, hb1⟩
  cases k <;> cases m
  all_goals (
    have hbz := hb1
    go_wp2_with (first
      | (go_at_call 26; with_reducible refine (fmBase_any x b f true (form_back H1.out).1 _).mono ?_; rintro e w3 ⟨rfl, h9⟩; replace hbz := below_self hbz h9; clear h9)
      | (go_at_call 30; with_reducible refine (fmPresented_any x true (form_back H1.out).2 _).mono ?_; rintro e w3 ⟨rfl, h9⟩; replace hbz := below_self hbz h9; clear h9)
      | (go_at_call 23; with_reducible refine (fmLigate_any b f y _ H2.out HA.out HZ.out _).mono ?_; rintro e w3 ⟨rfl, h9⟩; replace hbz := below_self hbz h9; clear h9)
      | (go_at_call 28; with_reducible refine (fmParted_any y b f true (lig_back H2.out) _).mono ?_; rintro e w3 ⟨rfl, h9⟩; replace hbz := below_self hbz h9; clear h9)
      | (go_at_call 26; with_reducible refine (fmBase_any c x0 y0 b0 E0.out _).mono ?_; rintro e w3 ⟨rfl, h9⟩; replace hbz := below_self hbz h9; clear h9)
      | (go_at_call 28; with_reducible refine (fmParted_any c x1 y1 b1 E1.out _).mono ?_; rintro e w3 ⟨rfl, h9⟩; replace hbz := below_self hbz h9; clear h9)
      | (go_at_call 34; with_reducible refine (fmMark_any c x2 y2 b2 E2.out _).mono ?_; rintro e w3 ⟨rfl, h9⟩; replace hbz := below_self hbz h9; clear h9)
      | (go_at_call 38; with_reducible refine (fmUnpile_any c x3 b3 E3.out _).mono ?_; rintro e w3 ⟨rfl, h9⟩; replace hbz := below_self hbz h9; clear h9)
      | fail)
    clear hb1
    have hrd := rdBools w3 bs 4
    have hbn := below_self hbz (below_new w3 (.cells (bs.map Value.bool).toArray 4))
    rw [← HBS.out] at hrd hbn
    simp only [List.map_cons, List.map_nil] at hrd hbn
    obtain ⟨B, hB⟩ : ∃ B, w3.heap.size = B := ⟨_, rfl⟩
    obtain ⟨W, hW⟩ : ∃ W, w3.alloc (.cells [Value.bool b0, Value.bool b1, Value.bool b2, Value.bool b3].toArray 4) = W := ⟨_, rfl⟩
    have hW' : w3.alloc (.cells #[Value.bool b0, Value.bool b1, Value.bool b2, Value.bool b3] 4) = W := hW
    rw [hB] at hrd
    rw [hW] at hrd hbn
    simp only [hW', hB]
    have HR := Lib.hid hrd
    clear hrd hW hW' hbz hB
    go_loopw [17, 115] (fun n i wr => ∃ j : Nat, j ≤ 4 ∧ i = .int .i64 j ∧ n = .int .i64 (cntB (bs.take j) : Nat) ∧ wr = W) (fun _ i _ => 4 - (intOf i).toNat)
    case atStart => exact ⟨0, Nat.zero_le _, rfl, rfl, rfl⟩
    case round =>
      obtain ⟨j, hj, rfl, rfl, rfl⟩ := hrel
      obtain ⟨n, hn⟩ : ∃ n, cntB (bs.take j) = n := ⟨_, rfl⟩
      rw [hn]
      have HN := Lib.hid hn
      clear hn
      by_cases hlt : j < 4
      · obtain ⟨u, hu⟩ : ∃ u, bs[j]? = some u := ⟨_, List.getElem?_eq_getElem (by rw [HL.out]; exact hlt)⟩
        have cu := HR.out.news j (.bool u) (by
          have : [Value.bool b0, Value.bool b1, Value.bool b2, Value.bool b3] = bs.map Value.bool := by rw [← HBS.out]; rfl
          rw [this, List.getElem?_map, hu]; rfl)
        have cu2 := cu
        rw [addPlain, Nat.zero_add] at cu2
        have hnx := cntB_next hu
        rw [HN.out] at hnx
        have HX := Lib.hid hnx
        have hn4 : n ≤ 4 := by
          have := List.length_take_le j bs
          rw [← HN.out]
          exact Nat.le_trans (cntB_le _) (by omega)
        clear hu hnx
        cases u with
        | true =>
          have HY := Lib.hid (show cntB (bs.take (j + 1)) = n + 1 by rw [HX.out]; rfl)
          go_wp2
          go_roundw
          case rel => exact ⟨j + 1, by omega, by go_num, by rw [HY.out]; go_num, trivial⟩
          case measure => simp [intOf]; omega
        | false =>
          have HY := Lib.hid (show cntB (bs.take (j + 1)) = n by rw [HX.out]; rfl)
          go_wp2
          go_roundw
          case rel => exact ⟨j + 1, by omega, by go_num, by rw [HY.out], trivial⟩
          case measure => simp [intOf]; omega
      · have hn1 : n ≤ 1 := by
          rw [← HN.out, List.take_of_length_le (by rw [HL.out]; omega)]
          exact HC.out
        go_wp2_with fail
        refine (awakeFm_any _).mono ?_
        rintro e w9 ⟨rfl, hb⟩
        have hbf := below_self hbn hb
        go_wp2
        go_ret
        exact ⟨rfl, hbf⟩)
end Go.Proofs.Ytfobhnpmaooalaa
