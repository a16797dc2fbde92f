/- explicit: who goes through a paragraph, in memory; Left, here, embed, full, walked. -/
import Derived.Test.YtflbiblkphaagaaStkP3
import Derived.Test.YtflbiblkphaagaaStkP4
import Derived.Test.YtflbiblkphaagaaStkN
import Derived.Test.YtflbiblkphaagaaExD
import Derived.Deep.RegionHeld3
namespace Go.Proofs.Ytflbiblkphaagaa
open Go.RowKit

/-- A slice that reads as a list, in no block of a stack. -/
def RdN (w : World) (g : Nat) (A : Option Addr) (n : Nat) (xs : List Int) : Prop := Rd w 1 A n (xs.map (Value.int .i64)) ∧ (0 < n → ∀ ad, A = some ad → ad.block ≠ g)
theorem RdN.kept {w w' : World} {g n : Nat} {A : Option Addr} {xs : List Int} (h : RdN w g A n xs) (hk : Kept w w' [g]) : RdN w' g A n xs := by
  refine ⟨⟨h.1.1, fun hn => ?_⟩, h.2⟩
  obtain ⟨ad, rfl, hb, hc⟩ := h.1.2 hn
  have hne := h.2 hn ad rfl
  refine ⟨ad, rfl, Nat.lt_of_lt_of_le hb hk.size, fun j u hu => ?_⟩
  have h1 := hc j u hu
  unfold World.cell? at h1 ⊢
  rw [show w'.heap[(ad.add j).block]? = w.heap[(ad.add j).block]? from by rw [blockAdd]; exact hk.block _ hb (by simpa using hne)]
  exact h1
/-- Who goes through a paragraph: bw the struct, g the stack, A the classes, M the matches. -/
structure WlkAt (w : World) (bw g : Nat) (A : Option Addr) (n c : Nat) (xs : List Int) (M : Option Addr) (mc : Nat) (base : Int) (s : Stk) : Prop where
  hw : w.heap[bw]? = some (.cells #[.pointer (some ⟨g, 0, none⟩), .int .i64 base, .slice A n c, .slice M n mc] 68 (0, 0))
  st : StkAt w g s
  ne : bw ≠ g
  cl : RdN w g A n xs
  mt : RdN w g M n (matF xs)
section
variable {w w' : World} {bw g n c mc : Nat} {A M : Option Addr} {xs : List Int} {base : Int} {s t : Stk}
theorem WlkAt.kept (h : WlkAt w bw g A n c xs M mc base s) (hk : Kept w w' [g]) (hs : StkAt w' g t) : WlkAt w' bw g A n c xs M mc base t :=
  ⟨hk.heap h.hw (by simpa using h.ne), hs, h.ne, h.cl.kept hk, h.mt.kept hk⟩
theorem WlkAt.low (h : WlkAt w bw g A n c xs M mc base s) (hb : Below w.heap.size w w') : WlkAt w' bw g A n c xs M mc base s := h.kept (Kept.of_below hb _) (h.st.low hb)
theorem WlkAt.c0 (h : WlkAt w bw g A n c xs M mc base s) : w.cell? ⟨bw, 0, none⟩ = some (.pointer (some ⟨g, 0, none⟩)) := hp_cell h.hw rfl
theorem WlkAt.c1 (h : WlkAt w bw g A n c xs M mc base s) : w.cell? ⟨bw, 1, none⟩ = some (.int .i64 base) := hp_cell h.hw rfl
theorem WlkAt.c2 (h : WlkAt w bw g A n c xs M mc base s) : w.cell? ⟨bw, 2, none⟩ = some (.slice A n c) := hp_cell h.hw rfl
theorem WlkAt.c3 (h : WlkAt w bw g A n c xs M mc base s) : w.cell? ⟨bw, 3, none⟩ = some (.slice M n mc) := hp_cell h.hw rfl
end
set_option maxRecDepth 100000 in
theorem exLeft_any (x : Int) (w : World) : Calls Try.prog 31 #[.int .i64 x] w fun e w' => e = .returned (.bool (leftC x)) ∧ w = w' := by
  have fin : ∀ (b : Bool), leftC x = b → (Calls Try.prog 31 #[.int .i64 x] w fun e w' => e = .returned (.bool b) ∧ w = w') → Calls Try.prog 31 #[.int .i64 x] w fun e w' => e = .returned (.bool (leftC x)) ∧ w = w' := fun b h h2 => by rw [h]; exact h2
  by_cases h14 : x = 14
  · subst h14; refine fin true (by decide) ?_; go_enter Try.func31, Try.ntmps31; go_wp2; go_ret; exact ⟨rfl, rfl⟩
  by_cases h15 : x = 15
  · subst h15; refine fin true (by decide) ?_; go_enter Try.func31, Try.ntmps31; go_wp2; go_ret; exact ⟨rfl, rfl⟩
  by_cases h16 : x = 16
  · subst h16; refine fin true (by decide) ?_; go_enter Try.func31, Try.ntmps31; go_wp2; go_ret; exact ⟨rfl, rfl⟩
  by_cases h17 : x = 17
  · subst h17; refine fin true (by decide) ?_; go_enter Try.func31, Try.ntmps31; go_wp2; go_ret; exact ⟨rfl, rfl⟩
  by_cases h18 : x = 18
  · subst h18; refine fin true (by decide) ?_; go_enter Try.func31, Try.ntmps31; go_wp2; go_ret; exact ⟨rfl, rfl⟩
  by_cases h9 : x = 9
  · subst h9; refine fin true (by decide) ?_; go_enter Try.func31, Try.ntmps31; go_wp2; go_ret; exact ⟨rfl, rfl⟩
  have g14 : (x == 14) = false := by simp [h14]
  have g15 : (x == 15) = false := by simp [h15]
  have g16 : (x == 16) = false := by simp [h16]
  have g17 : (x == 17) = false := by simp [h17]
  have g18 : (x == 18) = false := by simp [h18]
  have g9 : (x == 9) = false := by simp [h9]
  refine fin false ?_ ?_
  · unfold leftC
    simp only [Bool.or_eq_false_iff, Bool.and_eq_false_iff, decide_eq_false_iff_not]
    omega
  · clear h14 h15 h16 h17 h18 h9
    go_enter Try.func31, Try.ntmps31
    go_wp2
    go_ret
    exact ⟨rfl, rfl⟩
section
variable {bw g n c mc : Nat} {A M : Option Addr} {xs : List Int} {base : Int} {s : Stk}
set_option maxRecDepth 100000 in
theorem exHere_any (x : Int) (w : World) (h : WlkAt w bw g A n c xs M mc base s) : Calls Try.prog 54 #[.pointer (some ⟨bw, 0, none⟩), .int .i64 x] w fun e w' => e = .returned (.tuple #[.int .i64 s.top.lv, .int .i64 (givS s x)]) ∧ Below w.heap.size w w' := by
  have c0 := h.c0
  have HT := Lib.hid (stkTop_any g s w h.st)
  unfold entV at HT
  clear h
  unfold givS
  obtain ⟨lv, ov, is, htp⟩ : ∃ lv ov is, s.top = ⟨lv, ov, is⟩ := ⟨_, _, _, rfl⟩
  rw [htp] at HT ⊢
  simp only at HT ⊢
  clear htp
  by_cases ho : ov = 13
  · subst ho
    rw [if_pos rfl]
    go_enter Try.func54, Try.ntmps54
    go_wp2_with fail
    refine HT.out.mono ?_
    rintro e w1 ⟨rfl, hb1⟩
    have HB1 := Lib.hid hb1
    clear hb1
    go_wp2
    exact bodyPost_ret (v := .tuple #[.int .i64 lv, .int .i64 x]) (by simp [results, go_sem]) rfl ⟨rfl, below_self HB1.out (below_new w1 _)⟩
  · rw [if_neg ho]
    have go' : (ov == 13) = false := by simp [ho]
    go_enter Try.func54, Try.ntmps54
    go_wp2_with fail
    refine HT.out.mono ?_
    rintro e w1 ⟨rfl, hb1⟩
    have HB1 := Lib.hid hb1
    clear hb1
    go_wp2
    exact bodyPost_ret (v := .tuple #[.int .i64 lv, .int .i64 ov]) (by simp [results, go_sem]) rfl ⟨rfl, below_self HB1.out (below_new w1 _)⟩
/-- What embeds: whether from the right, the override. -/
def embR (x : Int) : Bool := decide (x = 16) || decide (x = 17)
def embO (x : Int) : Int := if x = 17 then 1 else if x = 15 then 0 else 13
set_option maxRecDepth 100000 in
theorem exEmbed_any (x : Int) (w : World) (h : WlkAt w bw g A n c xs M mc base s) (hb : s.b ≤ 100000000) (hx : x = 14 ∨ x = 15 ∨ x = 16 ∨ x = 17) : Calls Try.prog 53 #[.pointer (some ⟨bw, 0, none⟩), .int .i64 x] w fun e w' => e = .returned (.tuple #[]) ∧ StkAt w' g (embS s (embR x) (embO x)).2 ∧ Kept w w' [g] := by
  have c0 := h.c0
  have HE := Lib.hid (stkEmbed_any g s (embR x) (embO x) w h.st hb)
  obtain ⟨v, T, hT⟩ : ∃ v T, embS s (embR x) (embO x) = (v, T) := ⟨_, _, rfl⟩
  rw [hT] at HE ⊢
  clear h hT
  rcases hx with rfl | rfl | rfl | rfl
  all_goals (
    simp only [embR, embO] at HE
    simp at HE
    go_enter Try.func53, Try.ntmps53
    go_wp2_with fail
    refine HE.out.mono ?_
    rintro e w1 ⟨rfl, hA, hk⟩
    have HA := Lib.hid hA
    have HK := Lib.hid hk
    clear hA hk
    go_wp2
    exact bodyPost_end (v := .tuple #[]) (by simp [results, go_sem]) rfl ⟨rfl, HA.out, HK.out⟩)
/-- Nothing more gets an entry. -/
def fullS (s : Stk) : Bool := decide (0 < s.a) || (decide (0 < s.b) || decide (125 < min (nextS s true) (nextS s false)))
theorem full_room (h : fullS s = true) (r : Bool) : roomS s r = false := by
  rw [Bool.eq_false_iff]
  intro e
  have e' := room_iff.1 e
  unfold fullS at h
  simp only [Bool.or_eq_true, decide_eq_true_eq] at h
  rcases h with h | h | h
  · omega
  · omega
  · cases r <;> omega
set_option maxRecDepth 100000 in
set_option maxHeartbeats 2000000 in
theorem exFull_any (w : World) (h : WlkAt w bw g A n c xs M mc base s) : Calls Try.prog 58 #[.pointer (some ⟨bw, 0, none⟩)] w fun e w' => e = .returned (.bool (fullS s)) ∧ Below w.heap.size w w' := by
  have c0 := h.c0
  have HW := Lib.hid h
  have HO := Lib.hid (stkOver_any g s w h.st)
  have hsa0 : (0 : Int) ≤ (s.a : Int) := by omega
  have hsb0 : (0 : Int) ≤ (s.b : Int) := by omega
  obtain ⟨fl, hfl⟩ : ∃ fl, fullS s = fl := ⟨_, rfl⟩
  rw [hfl]
  have HF := Lib.hid hfl
  clear h hfl
  by_cases ha : 0 < s.a
  · have hd : decide ((0 : Int) < (s.a : Int)) = true := by simp; omega
    obtain rfl : fl = true := by rw [← HF.out]; unfold fullS; simp [ha]
    go_enter Try.func58, Try.ntmps58
    go_wp2_with fail
    refine HO.out.mono ?_
    rintro e w1 ⟨rfl, hb1⟩
    have HB1 := Lib.hid hb1
    clear hb1
    go_wp2
    go_quiet (fail)
    go_wp2
    go_ret
    exact ⟨rfl, below_drewN HB1.out _⟩
  · have hd : decide ((0 : Int) < (s.a : Int)) = false := by simp; omega
    by_cases hb : 0 < s.b
    · have hd2 : decide ((0 : Int) < (s.b : Int)) = true := by simp; omega
      obtain rfl : fl = true := by rw [← HF.out]; unfold fullS; simp [hb]
      go_enter Try.func58, Try.ntmps58
      go_wp2_with fail
      refine HO.out.mono ?_
      rintro e w1 ⟨rfl, hb1⟩
      have HB1 := Lib.hid hb1
      clear hb1
      go_wp2
      go_quiet (fail)
      go_wp2
      go_ret
      exact ⟨rfl, below_drewN HB1.out _⟩
    · have hd2 : decide ((0 : Int) < (s.b : Int)) = false := by simp; omega
      have HFL : Hid (fl = decide (125 < min (nextS s true) (nextS s false))) := Lib.hid (by rw [← HF.out]; unfold fullS; simp [ha, hb])
      go_enter Try.func58, Try.ntmps58
      go_wp2_with fail
      refine HO.out.mono ?_
      rintro e w1 ⟨rfl, hb1⟩
      have HB1 := Lib.hid hb1
      have hW1 := HW.out.low hb1
      have c01 := hW1.c0
      have HN := Lib.hid (fun (r : Bool) W (k : Below w1.heap.size w1 W) => stkNext_any g s r W (hW1.st.low k))
      obtain ⟨x, hx⟩ : ∃ x, nextS s true = x := ⟨_, rfl⟩
      obtain ⟨y, hy⟩ : ∃ y, nextS s false = y := ⟨_, rfl⟩
      have HNT := Lib.hid (HN.out true)
      have HNF := Lib.hid (HN.out false)
      rw [hx, hy] at HFL
      rw [hx] at HNT
      rw [hy] at HNF
      obtain ⟨z, hz⟩ : ∃ z, (if y < x then y else x) = z := ⟨_, rfl⟩
      have HZ : Hid (decide (125 < z) = fl) := Lib.hid (by rw [HFL.out, ← hz]; congr 1; apply propext; constructor <;> intro hh <;> (split at * <;> omega))
      clear hb1 hW1 hx hy HN
      go_wp2
      go_region_held3 (fun w' => w'.cell? ⟨bw, 0, none⟩ = some (.pointer (some ⟨g, 0, none⟩)) ∧ Below w1.heap.size w1 w')
        (first
          | exact ⟨c01, (Below.refl _ _).drew⟩
          | assumption
          | exact ⟨cell_below h1 (by assumption : _ ∧ Below w1.heap.size w1 _).1, below_self (by assumption : _ ∧ Below w1.heap.size w1 _).2 h1⟩
          | exact ⟨cell_below h1 c01, below_self (Below.refl _ _).drew h1⟩
          | fail)
        (first
          | (go_at_call 19; with_reducible refine (HNT.out _ (by first | exact (Below.refl _ _).drew | exact (by assumption : _ ∧ Below w1.heap.size w1 _).2)).mono ?_; rintro e w3 ⟨rfl, h1⟩)
          | (go_at_call 19; with_reducible refine (HNF.out _ (by first | exact (Below.refl _ _).drew | exact (by assumption : _ ∧ Below w1.heap.size w1 _).2)).mono ?_; rintro e w3 ⟨rfl, h1⟩)
          | fail)
      all_goals (
        have hz3 : Below w1.heap.size w1 w3 := (by
          first
            | exact (by assumption : _ ∧ Below w1.heap.size w1 w3).2
            | exact below_self (by assumption : _ ∧ Below w1.heap.size w1 _).2 h1)
        have HB3 := Lib.hid (below_self HB1.out hz3)
        clear hz3
        go_wp2
        go_ret
        exact ⟨by rw [← HZ.out]; rfl, HB3.out⟩)
end
end Go.Proofs.Ytflbiblkphaagaa
