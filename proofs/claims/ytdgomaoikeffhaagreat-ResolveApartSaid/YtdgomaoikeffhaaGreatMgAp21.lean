/- Texts of one claim, one behind the other. -/
import Derived.Deep.RegionHeld3
import Derived.Deep.QuietTactic
import Derived.Deep.DeepCutAuto
import Derived.Deep.CutBlock
import Derived.Laws.BitsAllLaws
import Derived.Deep.LoopGhost
import Derived.Deep.RegionLaw
import Derived.Test.YtdgomaoikeffhaaGreatMgAp2
import Derived.Test.YtdgomaoikeffhaaGreatMgAp5
import Derived.Test.YtdgomaoikeffhaaGreatMgAp11
import Derived.Test.YtdgomaoikeffhaaGreatMgAp19
import Derived.Test.YtdgomaoikeffhaaGreatMgAp20
/- explicit: who goes through a paragraph, in memory; Left, here, embed, full, walked. -/
namespace Go.Proofs.YtdgomaoikeffhaaGreat
open Go.RowKit
/-- A slice that reads as a list, in no block of a stack. -/
def RdN (w : World) (g : Nat) (A : Option Addr) (n : Nat) (xs : List Int) : Prop := Rd w 1 A n (xs.map (Value.int .i64)) ∧ (0 < n → ∀ ad, A = some ad → ad.block ≠ g)
theorem RdN.kept {w w' : World} {g n : Nat} {A : Option Addr} {xs : List Int} (h : RdN w g A n xs) (hk : Kept w w' [g]) : RdN w' g A n xs := by
  refine ⟨⟨h.1.1, fun hn => ?_⟩, h.2⟩
  obtain ⟨ad, rfl, hb, hc⟩ := h.1.2 hn
  have hne := h.2 hn ad rfl
  refine ⟨ad, rfl, Nat.lt_of_lt_of_le hb hk.size, fun j u hu => ?_⟩
  have h1 := hc j u hu
  unfold World.cell? at h1 ⊢
  rw [show w'.heap[(ad.add j).block]? = w.heap[(ad.add j).block]? from by rw [blockAdd]; exact hk.block _ hb (by simpa using hne)]
  exact h1
/-- Who goes through a paragraph: bw the struct, g the stack, A the classes, M the matches. -/
structure WlkAt (w : World) (bw g : Nat) (A : Option Addr) (n c : Nat) (xs : List Int) (M : Option Addr) (mc : Nat) (base : Int) (s : Stk) : Prop where
  hw : w.heap[bw]? = some (.cells #[.pointer (some ⟨g, 0, none⟩), .int .i64 base, .slice A n c, .slice M n mc] 83 (0, 0))
  st : StkAt w g s
  ne : bw ≠ g
  cl : RdN w g A n xs
  mt : RdN w g M n (matF xs)
section
variable {w w' : World} {bw g n c mc : Nat} {A M : Option Addr} {xs : List Int} {base : Int} {s t : Stk}
theorem WlkAt.kept (h : WlkAt w bw g A n c xs M mc base s) (hk : Kept w w' [g]) (hs : StkAt w' g t) : WlkAt w' bw g A n c xs M mc base t :=
  ⟨hk.heap h.hw (by simpa using h.ne), hs, h.ne, h.cl.kept hk, h.mt.kept hk⟩
theorem WlkAt.low (h : WlkAt w bw g A n c xs M mc base s) (hb : Below w.heap.size w w') : WlkAt w' bw g A n c xs M mc base s := h.kept (Kept.of_below hb _) (h.st.low hb)
theorem WlkAt.c0 (h : WlkAt w bw g A n c xs M mc base s) : w.cell? ⟨bw, 0, none⟩ = some (.pointer (some ⟨g, 0, none⟩)) := hp_cell h.hw rfl
theorem WlkAt.c1 (h : WlkAt w bw g A n c xs M mc base s) : w.cell? ⟨bw, 1, none⟩ = some (.int .i64 base) := hp_cell h.hw rfl
theorem WlkAt.c2 (h : WlkAt w bw g A n c xs M mc base s) : w.cell? ⟨bw, 2, none⟩ = some (.slice A n c) := hp_cell h.hw rfl
theorem WlkAt.c3 (h : WlkAt w bw g A n c xs M mc base s) : w.cell? ⟨bw, 3, none⟩ = some (.slice M n mc) := hp_cell h.hw rfl
end
section
variable {bw g n c mc : Nat} {A M : Option Addr} {xs : List Int} {base : Int} {s : Stk}
set_option maxRecDepth 100000 in
theorem exHere_any (x : Int) (w : World) (h : WlkAt w bw g A n c xs M mc base s) : Calls Tryz.prog 54 #[.pointer (some ⟨bw, 0, none⟩), .int .i64 x] w fun e w' => e = .returned (.tuple #[.int .i64 s.top.lv, .int .i64 (givS s x)]) ∧ Below w.heap.size w w' := by
  have c0 := h.c0
  have HT := Lib.hid (stkTop_any g s w h.st)
  unfold entV at HT
  clear h
  unfold givS
  obtain ⟨lv, ov, is, htp⟩ : ∃ lv ov is, s.top = ⟨lv, ov, is⟩ := ⟨_, _, _, rfl⟩
  rw [htp] at HT ⊢
  simp only at HT ⊢
  clear htp
  by_cases ho : ov = 13
  · subst ho
    rw [if_pos rfl]
    go_enter Tryz.func54, Tryz.ntmps54
    go_wp2_with fail
    refine HT.out.mono ?_
    rintro e w1 ⟨rfl, hb1⟩
    have HB1 := Lib.hid hb1
    clear hb1
    go_wp2
    exact bodyPost_ret (v := .tuple #[.int .i64 lv, .int .i64 x]) (by simp [results, go_sem]) rfl ⟨rfl, below_self HB1.out (below_new w1 _)⟩
  · rw [if_neg ho]
    have go' : (ov == 13) = false := by simp [ho]
    go_enter Tryz.func54, Tryz.ntmps54
    go_wp2_with fail
    refine HT.out.mono ?_
    rintro e w1 ⟨rfl, hb1⟩
    have HB1 := Lib.hid hb1
    clear hb1
    go_wp2
    exact bodyPost_ret (v := .tuple #[.int .i64 lv, .int .i64 ov]) (by simp [results, go_sem]) rfl ⟨rfl, below_self HB1.out (below_new w1 _)⟩
/-- What embeds: whether from the right, the override. -/
def embR (x : Int) : Bool := decide (x = 16) || decide (x = 17)
def embO (x : Int) : Int := if x = 17 then 1 else if x = 15 then 0 else 13
set_option maxRecDepth 100000 in
theorem exEmbed_any (x : Int) (w : World) (h : WlkAt w bw g A n c xs M mc base s) (hb : s.b ≤ 100000000) (hx : x = 14 ∨ x = 15 ∨ x = 16 ∨ x = 17) : Calls Tryz.prog 53 #[.pointer (some ⟨bw, 0, none⟩), .int .i64 x] w fun e w' => e = .returned (.tuple #[]) ∧ StkAt w' g (embS s (embR x) (embO x)).2 ∧ Kept w w' [g] := by
  have c0 := h.c0
  have HE := Lib.hid (stkEmbed_any g s (embR x) (embO x) w h.st hb)
  obtain ⟨v, T, hT⟩ : ∃ v T, embS s (embR x) (embO x) = (v, T) := ⟨_, _, rfl⟩
  rw [hT] at HE ⊢
  clear h hT
  rcases hx with rfl | rfl | rfl | rfl
  all_goals (
    simp only [embR, embO] at HE
    simp at HE
    go_enter Tryz.func53, Tryz.ntmps53
    go_wp2_with fail
    refine HE.out.mono ?_
    rintro e w1 ⟨rfl, hA, hk⟩
    have HA := Lib.hid hA
    have HK := Lib.hid hk
    clear hA hk
    go_wp2
    exact bodyPost_end (v := .tuple #[]) (by simp [results, go_sem]) rfl ⟨rfl, HA.out, HK.out⟩)
/-- Nothing more gets an entry. -/
def fullS (s : Stk) : Bool := decide (0 < s.a) || (decide (0 < s.b) || decide (125 < min (nextS s true) (nextS s false)))
theorem full_room (h : fullS s = true) (r : Bool) : roomS s r = false := by
  rw [Bool.eq_false_iff]
  intro e
  have e' := room_iff.1 e
  unfold fullS at h
  simp only [Bool.or_eq_true, decide_eq_true_eq] at h
  rcases h with h | h | h
  · omega
  · omega
  · cases r <;> omega
set_option maxRecDepth 100000 in
set_option maxHeartbeats 2000000 in
theorem exFull_any (w : World) (h : WlkAt w bw g A n c xs M mc base s) : Calls Tryz.prog 85 #[.pointer (some ⟨bw, 0, none⟩)] w fun e w' => e = .returned (.bool (fullS s)) ∧ Below w.heap.size w w' := by
  have c0 := h.c0
  have HW := Lib.hid h
  have HO := Lib.hid (stkOver_any g s w h.st)
  have hsa0 : (0 : Int) ≤ (s.a : Int) := by omega
  have hsb0 : (0 : Int) ≤ (s.b : Int) := by omega
  obtain ⟨fl, hfl⟩ : ∃ fl, fullS s = fl := ⟨_, rfl⟩
  rw [hfl]
  have HF := Lib.hid hfl
  clear h hfl
  by_cases ha : 0 < s.a
  · have hd : decide ((0 : Int) < (s.a : Int)) = true := by simp; omega
    obtain rfl : fl = true := by rw [← HF.out]; unfold fullS; simp [ha]
    go_enter Tryz.func85, Tryz.ntmps85
    go_wp2_with fail
    refine HO.out.mono ?_
    rintro e w1 ⟨rfl, hb1⟩
    have HB1 := Lib.hid hb1
    clear hb1
    go_wp2
    go_quiet (fail)
    go_wp2
    go_ret
    exact ⟨rfl, below_drewN HB1.out _⟩
  · have hd : decide ((0 : Int) < (s.a : Int)) = false := by simp; omega
    by_cases hb : 0 < s.b
    · have hd2 : decide ((0 : Int) < (s.b : Int)) = true := by simp; omega
      obtain rfl : fl = true := by rw [← HF.out]; unfold fullS; simp [hb]
      go_enter Tryz.func85, Tryz.ntmps85
      go_wp2_with fail
      refine HO.out.mono ?_
      rintro e w1 ⟨rfl, hb1⟩
      have HB1 := Lib.hid hb1
      clear hb1
      go_wp2
      go_quiet (fail)
      go_wp2
      go_ret
      exact ⟨rfl, below_drewN HB1.out _⟩
    · have hd2 : decide ((0 : Int) < (s.b : Int)) = false := by simp; omega
      have HFL : Hid (fl = decide (125 < min (nextS s true) (nextS s false))) := Lib.hid (by rw [← HF.out]; unfold fullS; simp [ha, hb])
      go_enter Tryz.func85, Tryz.ntmps85
      go_wp2_with fail
      refine HO.out.mono ?_
      rintro e w1 ⟨rfl, hb1⟩
      have HB1 := Lib.hid hb1
      have hW1 := HW.out.low hb1
      have c01 := hW1.c0
      have HN := Lib.hid (fun (r : Bool) W (k : Below w1.heap.size w1 W) => stkNext_any g s r W (hW1.st.low k))
      obtain ⟨x, hx⟩ : ∃ x, nextS s true = x := ⟨_, rfl⟩
      obtain ⟨y, hy⟩ : ∃ y, nextS s false = y := ⟨_, rfl⟩
      have HNT := Lib.hid (HN.out true)
      have HNF := Lib.hid (HN.out false)
      rw [hx, hy] at HFL
      rw [hx] at HNT
      rw [hy] at HNF
      obtain ⟨z, hz⟩ : ∃ z, (if y < x then y else x) = z := ⟨_, rfl⟩
      have HZ : Hid (decide (125 < z) = fl) := Lib.hid (by rw [HFL.out, ← hz]; congr 1; apply propext; constructor <;> intro hh <;> (split at * <;> omega))
      clear hb1 hW1 hx hy HN
      go_wp2
      go_region_held3 (fun w' => w'.cell? ⟨bw, 0, none⟩ = some (.pointer (some ⟨g, 0, none⟩)) ∧ Below w1.heap.size w1 w')
        (first
          | exact ⟨c01, (Below.refl _ _).drew⟩
          | assumption
          | exact ⟨cell_below h1 (by assumption : _ ∧ Below w1.heap.size w1 _).1, below_self (by assumption : _ ∧ Below w1.heap.size w1 _).2 h1⟩
          | exact ⟨cell_below h1 c01, below_self (Below.refl _ _).drew h1⟩
          | fail)
        (first
          | (go_at_call 84; with_reducible refine (HNT.out _ (by first | exact (Below.refl _ _).drew | exact (by assumption : _ ∧ Below w1.heap.size w1 _).2)).mono ?_; rintro e w3 ⟨rfl, h1⟩)
          | (go_at_call 84; with_reducible refine (HNF.out _ (by first | exact (Below.refl _ _).drew | exact (by assumption : _ ∧ Below w1.heap.size w1 _).2)).mono ?_; rintro e w3 ⟨rfl, h1⟩)
          | fail)
      all_goals (
        have hz3 : Below w1.heap.size w1 w3 := (by
          first
            | exact (by assumption : _ ∧ Below w1.heap.size w1 w3).2
            | exact below_self (by assumption : _ ∧ Below w1.heap.size w1 _).2 h1)
        have HB3 := Lib.hid (below_self HB1.out hz3)
        clear hz3
        go_wp2
        go_ret
        exact ⟨by rw [← HZ.out]; rfl, HB3.out⟩)
end
end Go.Proofs.YtdgomaoikeffhaaGreat
/- seq's Runs, walked. -/
namespace Go.Proofs.YtdgomaoikeffhaaGreat
open Go.RowKit

theorem rn_head {lv cl : List Int} {k l : Nat} {r : List Nat} {rs : List (List Nat)} (h : rnA lv cl k = (r :: rs, some l)) : ∃ a r', r = a :: r' ∧ a < k ∧ lv.getD a 0 = lv.getD l 0 := by
  obtain ⟨h1, h2, h3, _⟩ := rn_ok lv cl k
  rw [h] at h1 h2 h3
  simp only at h1 h2 h3
  obtain ⟨hne, hsame⟩ := h2 r (by simp)
  have hl := h3 r rs rfl
  cases r with
  | nil => exact absurd rfl hne
  | cons a r' =>
    refine ⟨a, r', rfl, ?_, hsame a (by simp) l (List.mem_of_getLast? hl.symm)⟩
    have : a ∈ ((a :: r') :: rs).reverse.flatten := by simp
    rw [h1] at this
    exact List.mem_range.1 (List.mem_filter.1 this).1
/-- A row more, which lies in a block of its own. -/
theorem LsAt.add {w w' : World} {base : Nat} {v v' u : Value} {Q : List Value} {R : List (List Int)} {r : List Int} (h : LsAt w base v Q R) (hu : w.ownsRow base 3 1 u r.length (r.map (Value.int .i64))) (hne : ∀ q ∈ Q, q.ownBlock = none ∨ q.ownBlock ≠ u.ownBlock) (hg : w.grownBy w' v.ownBlock) (ho : w'.ownsRow base 22 1 v' (Q.length + 1) (Q ++ [u])) : LsAt w' base v' (Q ++ [u]) (R ++ [r]) := by
  refine ⟨by simpa using ho, by simp [h.len], fun i z s hi hs => ?_, fun i j z z' hij hi hj => ?_⟩
  · by_cases hlt : i < Q.length
    · rw [List.getElem?_append_left hlt] at hi
      rw [List.getElem?_append_left (by rw [← h.len]; exact hlt)] at hs
      exact (h.rows i z s hi hs).kept hg (typ_ne (h.rows i z s hi hs) h.own (by decide))
    · have hl := (List.getElem?_eq_some_iff.1 hi).1
      simp at hl
      obtain rfl : i = Q.length := by omega
      rw [List.getElem?_append_right (Nat.le_refl _), Nat.sub_self] at hi
      rw [h.len, List.getElem?_append_right (Nat.le_refl _), Nat.sub_self] at hs
      simp at hi hs
      subst hi hs
      exact hu.kept hg (typ_ne hu h.own (by decide))
  · by_cases hi' : i < Q.length
    · rw [List.getElem?_append_left hi'] at hi
      by_cases hj' : j < Q.length
      · rw [List.getElem?_append_left hj'] at hj
        exact h.ne i j z z' hij hi hj
      · have hl := (List.getElem?_eq_some_iff.1 hj).1
        simp at hl
        obtain rfl : j = Q.length := by omega
        rw [List.getElem?_append_right (Nat.le_refl _), Nat.sub_self] at hj
        simp at hj
        subst hj
        exact hne z (List.mem_of_getElem? hi)
    · have hl := (List.getElem?_eq_some_iff.1 hi).1
      simp at hl
      obtain rfl : i = Q.length := by omega
      rw [List.getElem?_append_right (Nat.le_refl _), Nat.sub_self] at hi
      simp at hi
      subst hi
      by_cases hj' : j < Q.length
      · rw [List.getElem?_append_left hj'] at hj
        rcases hh : u.ownBlock with _ | x
        · exact .inl rfl
        · right
          rcases hne z' (List.mem_of_getElem? hj) with e | e
          · rw [e]; simp
          · rw [hh] at e
            exact fun e2 => e e2.symm
      · have hl := (List.getElem?_eq_some_iff.1 hj).1
        simp at hl
        omega
theorem encR_add (R : List (List Nat)) (k : Nat) : encR R ++ [[(k : Int)]] = encR (R ++ [[k]]) := by unfold encR encN; simp
/-- A built slice of one integer is a row of the call's own. -/
theorem own_one {w : World} {base : Nat} (hb : base ≤ w.heap.size) (x : Int) : (w.alloc (.cells #[.int .i64 x] 3)).ownsRow base 3 1 (.slice (some ⟨w.heap.size, 0, none⟩) 1 1) 1 ([x].map (Value.int .i64)) :=
  ⟨rfl, .inr ⟨w.heap.size, 1, #[.int .i64 x], rfl, hb, heap_alloc_new _ _, Nat.le_refl _, by unfold maxLen; omega, rfl, rfl⟩⟩
/-- The two blocks of a new run: what then is appended. -/
theorem new_run {w : World} (k : Nat) : ∀ j u, [Value.slice (some ⟨w.heap.size, 0, none⟩) 1 1][j]? = some u → ((w.alloc (.cells #[.int .i64 (k : Int)] 3)).alloc (.cells #[.slice (some ⟨w.heap.size, 0, none⟩) 1 1] 22)).cell? ((⟨w.heap.size + 1, 0, none⟩ : Addr).add j) = some u := by
  have h := cells_new (w.alloc (.cells #[.int .i64 (k : Int)] 3)) [.slice (some ⟨w.heap.size, 0, none⟩) 1 1] 22
  rwa [World.size_alloc] at h
theorem oneSl (a : Option Addr) (n c : Nat) : ∀ u ∈ [Value.slice a n c], u.oneCell' = true := by
  intro u hu
  simp at hu
  subst hu
  rfl
theorem LsAt.newRun {w w' : World} {base : Nat} {v v' : Value} {Q : List Value} {R : List (List Nat)} (h : LsAt w base v Q (encR R)) (hb : base ≤ w.heap.size) (k : Nat) (hg : ((w.alloc (.cells #[.int .i64 (k : Int)] 3)).alloc (.cells #[.slice (some ⟨w.heap.size, 0, none⟩) 1 1] 22)).grownBy w' v.ownBlock) (ho : w'.ownsRow base 22 1 v' (Q.length + 1) (Q ++ [.slice (some ⟨w.heap.size, 0, none⟩) 1 1])) : LsAt w' base v' (Q ++ [.slice (some ⟨w.heap.size, 0, none⟩) 1 1]) (encR (R ++ [[k]])) := by
  rw [← encR_add]
  refine LsAt.add ((h.low (below_new w _)).low (below_new _ _)) ((own_one hb (k : Int)).alloc _) (fun q hq => ?_) hg ho
  rcases hqb : q.ownBlock with _ | x
  · exact .inl rfl
  · right
    obtain ⟨i, hi⟩ := List.getElem?_of_mem hq
    obtain ⟨r, hr⟩ : ∃ r, (encR R)[i]? = some r := ⟨_, List.getElem?_eq_getElem (by rw [← h.len]; exact (List.getElem?_eq_some_iff.1 hi).1)⟩
    have := ((h.rows i q r hi hr).lt x hqb).2
    simp [Value.ownBlock]
    omega
theorem encR_put (R : List (List Nat)) (r : List Nat) (k : Nat) : (encR (R ++ [r])).set R.length (encN r ++ [(k : Int)]) = encR (R ++ [r ++ [k]]) := encR_more R r k
set_option maxRecDepth 100000 in
set_option maxHeartbeats 8000000 in
theorem sqRuns_any (A B : Option Addr) (n c m d : Nat) (lv cl : List Int) (w : World) (hr : Rd w 1 A n (lv.map (Value.int .i64))) (hs : Rd w 1 B m (cl.map (Value.int .i64))) (hn : n ≤ 100000) (hm : m ≤ maxLen) : Calls Tryz.prog 40 #[.slice A n c, .slice B m d] w fun e w' => (∃ v Q, e = .returned v ∧ LsAt w' w.heap.size v Q (encR (runsG lv cl))) ∧ Below w.heap.size w w' := by
  unfold maxLen at hm
  have hll : lv.length = n := by simpa using hr.len1
  have hlc : cl.length = m := by simpa using hs.len1
  by_cases hnm : n = m
  · subst hnm
    have hG : runsG lv cl = (rnA lv cl n).1.reverse := by unfold runsG runsF; rw [if_pos (by omega), hll]
    rw [hG]
    have HLL := Lib.hid hll
    have HLC := Lib.hid hlc
    have HR := Lib.hid hr
    have HS := Lib.hid hs
    have HX0 := Lib.hid (LsAt.nil_ w w.heap.size)
    have hls := len_ls
    clear hr hs hG hll hlc
    go_enter Tryz.func40, Tryz.ntmps40
    go_wp2_with fail
    go_loopw [5, 16] (fun v i wr => ∃ k Q, k ≤ n ∧ i = .int .i64 ((k : Nat) : Int) ∧ LsAt wr w.heap.size v Q (encR (rnA lv cl k).1.reverse) ∧ Below w.heap.size w wr) (fun _ i _ => n - (intOf i).toNat)
    case atStart => exact ⟨0, [], Nat.zero_le _, rfl, HX0.out, Below.refl _ _⟩
    case round =>
      obtain ⟨k, Q, hk, rfl, hX, hB⟩ := hrel
      have HX := Lib.hid hX
      have HB := Lib.hid hB
      have hQl := hX.len
      unfold encR at hQl
      rw [List.length_map, List.length_reverse] at hQl
      obtain ⟨V, cv, rfl, hcv⟩ := own_form hX.own
      by_cases hlt : k < n
      · obtain ⟨x, hx⟩ : ∃ x, cl[k]? = some x := ⟨_, List.getElem?_eq_getElem (by rw [HLC.out]; exact hlt)⟩
        obtain ⟨bd, rfl, hbb, hbcell⟩ := (HS.out.below hB).at_ hlt
        have cx := hbcell _ (by rw [List.getElem?_map, hx]; rfl)
        obtain ⟨y, hy⟩ : ∃ y, lv[k]? = some y := ⟨_, List.getElem?_eq_getElem (by rw [HLL.out]; exact hlt)⟩
        obtain ⟨ad, rfl, hab, hcell⟩ := (HR.out.below hB).at_ hlt
        have cy := hcell _ (by rw [List.getElem?_map, hy]; rfl)
        have hxd : cl.getD k 0 = x := by rw [List.getD_eq_getElem?_getD, hx]; rfl
        have hyd : lv.getD k 0 = y := by rw [List.getD_eq_getElem?_getD, hy]; rfl
        have hkn : (k : Int) < (n : Int) := by omega
        have hk0 : (0 : Int) ≤ (k : Int) := by omega
        have hk5 : (k : Int) ≤ 100000 := by omega
        have HLf := Lib.hid (fun W => exLeft_any x W)
        obtain ⟨lf, hlf⟩ : ∃ lf, leftC x = lf := ⟨_, rfl⟩
        rw [hlf] at HLf
        cases lf with
        | true =>
          have HSK := Lib.hid (rn_skip (lv := lv) (cl := cl) (k := k) (by rw [hxd]; exact hlf))
          have hql : Q.length ≤ 100000 := by
            rw [hQl]
            rcases rn_form lv cl k with hf | ⟨r, rs, l, hf, h1, h2, h3⟩
            · rw [hf]; simp
            · rw [hf]; simp; omega
          obtain ⟨q, hq⟩ : ∃ q, Q.length = q := ⟨_, rfl⟩
          rw [hq] at hcv HX hql ⊢
          have HX2 := Lib.hid HX.out
          have hqi : (0 : Int) ≤ (q : Int) := by omega
          have hqi5 : (q : Int) ≤ 100000 := by omega
          clear hcell hbcell hx hy hxd hyd hlf hX hB hQl hq
          go_wp2_with fail
          refine (HLf.out _).mono ?_
          rintro e w2 ⟨rfl, rfl⟩
          go_wp2_with fail
          go_roundw
          case rel => exact ⟨k + 1, Q, by omega, by go_num, by rw [HSK.out]; exact HX2.out, HB.out⟩
          case measure => simp [intOf]; omega
        | false =>
          have hlf' : leftC (cl.getD k 0) = false := by rw [hxd]; exact hlf
          rcases rn_form lv cl k with hf | ⟨r, rs, l, hf, hlk, hrk, hrsk⟩
          · have HSK := Lib.hid (rn_none (lv := lv) hlf' hf)
            rw [hf] at HX hQl
            simp only at HX hQl
            have hq0 : Q = [] := List.eq_nil_of_length_eq_zero (by rw [hQl]; rfl)
            subst hq0
            clear hcell hbcell hx hy hxd hyd hlf hlf' hX hB hQl hcv
            go_wp2_with fail
            refine (HLf.out _).mono ?_
            rintro e w2 ⟨rfl, rfl⟩
            go_wp2_with fail
            go_quiet (fail)
            obtain ⟨W, hW⟩ : ∃ W, wr.drewN nq = W := ⟨_, rfl⟩
            have HXq := Lib.hid (HX.out.low (below_drewN (Below.refl _ _) nq))
            have HBq := Lib.hid (below_drewN HB.out nq)
            rw [hW] at HXq HBq ⊢
            clear cx cy hW
            have HQ0 : Hid (([] : List Value).length = 0) := Lib.hid rfl
            have HON : Hid (W.ownsRow w.heap.size 22 1 (.slice V 0 cv) 0 []) := Lib.hid HXq.out.own
            go_wp2_with (first
              | (at_builtin; go_loud (refine wpList_app rfl _ _ _ rfl lsSlice (by decide) (.slice V 0 cv) 0 [] rfl ((HON.out.alloc _).alloc _) ⟨W.heap.size + 1, 0, none⟩ 1 1 [.slice (some ⟨W.heap.size, 0, none⟩) 1 1] rfl rfl (new_run k) (oneSl _ _ _) (by omega) (by unfold maxLen; omega) (by have := HBq.out.size; simp; omega) ?_; intro v1 w3 hown3 hg3 hat3))
              | fail)
            have hX3 := HXq.out.newRun (HBq.out.size) k hg3 (by rw [HQ0.out]; exact hown3)
            have hb3 := below_app (below_self (below_self HBq.out (below_new W _)) (below_new _ _)) hg3 ((HON.out.alloc _).alloc _) (by have := HBq.out.size; simp; omega)
            have HX3 := Lib.hid hX3
            have HB3 := Lib.hid hb3
            clear hX3 hb3 hown3 hg3 hat3
            go_roundw
            case rel => exact ⟨k + 1, _, by omega, by go_num, by rw [HSK.out]; exact HX3.out, HB3.out⟩
            case measure => simp [intOf]; omega
          · obtain ⟨a, r', hra, hak, haz⟩ := rn_head hf
            obtain ⟨z, hz⟩ : ∃ z, lv[a]? = some z := ⟨_, List.getElem?_eq_getElem (by rw [HLL.out]; omega)⟩
            have hzd : lv.getD l 0 = z := by rw [← haz, List.getD_eq_getElem?_getD, hz]; rfl
            obtain ⟨ad2, e2, _, hcell2⟩ := (HR.out.below HB.out).at_ (show a < n by omega)
            obtain rfl := Option.some.inj e2
            have cz := hcell2 _ (by rw [List.getElem?_map, hz]; rfl)
            clear hcell2
            have han : (a : Int) < (n : Int) := by omega
            have ha0 : (0 : Int) ≤ (a : Int) := by omega
            obtain ⟨q, hq⟩ : ∃ q, rs.length = q := ⟨_, rfl⟩
            rw [hf] at HX hQl
            simp only at HX hQl
            have hQq : Q.length = q + 1 := by rw [hQl, List.length_cons, hq]
            have HRS := Lib.hid hq
            have hq5 : q ≤ 100000 := by omega
            rw [hQq] at hcv HX ⊢
            have hqi : (0 : Int) ≤ (q : Int) := by omega
            have hqi5 : (q : Int) ≤ 100000 := by omega
            have hq1 : (q : Int) < (q : Int) + 1 := by omega
            have HLEN : Hid (q + 1 = Q.length) := Lib.hid hQq.symm
            have hrow : (encR (r :: rs).reverse)[q]? = some (encN r) := by
              unfold encR
              rw [List.reverse_cons, List.map_append, List.getElem?_append_right (by simp [hq]), List.length_map, List.length_reverse, hq, Nat.sub_self]
              rfl
            have HROW := Lib.hid hrow
            obtain ⟨g1, V1, k1, hA1, hgb1, d1, fz1, hk1, hQ1, ho1, hg1l⟩ := HX.out.row (i := q) HLEN.out hrow
            subst hA1
            obtain ⟨p, hp⟩ : ∃ p, (encN r).length = p := ⟨_, rfl⟩
            have hp5 : p ≤ 100000 := by rw [← hp]; (unfold encN; rw [List.length_map]; omega)
            have hp1 : 0 < p := by rw [← hp, hra]; simp [encN]
            have HPP := Lib.hid hp
            have hra0 : ((encN r).map (Value.int .i64))[0]? = some (.int .i64 (a : Int)) := by rw [hra]; rfl
            rw [hp] at d1 hk1 ho1 hQ1
            obtain ⟨g2, c2, hv2, _, hl2, hb2, hc2⟩ := own_at ho1 hp1
            injection hv2 with e1 _ e3
            subst e1 e3
            have ca := hc2 0 _ hra0
            have hp1i : (0 : Int) < (p : Int) := by omega
            have HO1 := Lib.hid ho1
            have HQ1 := Lib.hid hQ1
            clear hc2 hra0 ho1 hQ1 hrow hrk hrsk hlk
            by_cases hzy : z = y
            · have HSK := Lib.hid (rn_more (lv := lv) hlf' hf (by rw [hzd, hyd]; exact hzy))
              subst hzy
              have gzz : (z == z) = true := by simp
              clear hcell hbcell hx hy hxd hyd hlf hlf' hX hB hQl hq hz hzd hQq hp hf haz hra
              go_wp2_with fail
              refine (HLf.out _).mono ?_
              rintro e w2 ⟨rfl, rfl⟩
              go_wp2_with fail
              go_quiet (fail)
              obtain ⟨W, hW⟩ : ∃ W, wr.drewN nq = W := ⟨_, rfl⟩
              have HXq := Lib.hid (HX.out.low (below_drewN (Below.refl _ _) nq))
              have HBq := Lib.hid (below_drewN HB.out nq)
              have HO1q := Lib.hid (own_below HO1.out (below_drewN (Below.refl _ _) nq))
              have d1q : W.cell? ⟨g1, q, none⟩ = some (.slice (some ⟨g2, 0, none⟩) p k1) := by rw [← hW]; exact d1
              rw [hW] at HXq HBq HO1q ⊢
              clear cx cy cz d1 ca hW fz1
              go_wp2_with (first
                | (at_builtin; go_loud (refine wpList_app rfl _ _ _ rfl intSliceM (by decide) (.slice (some ⟨g2, 0, none⟩) p k1) p _ rfl (HO1q.out.alloc _) ⟨W.heap.size, 0, none⟩ 1 1 [.int .i64 (k : Int)] rfl rfl (cells_new W [_] _) (oneInt _ _) (by omega) (by unfold maxLen; omega) (by have := HBq.out.size; simp; omega) ?_; intro v4 w4 hown4 hg4 hat4; obtain ⟨A4, c4, rfl, hc4⟩ := own_form hown4; have hXa := HXq.out.low (below_new W (.cells #[.int .i64 (k : Int)] 3)); have hOW := (hXa.own.kept hg4 (typ_ne hXa.own (HO1q.out.alloc _) (by decide))); rw [← HLEN.out] at hOW; obtain ⟨⟨uu, cu⟩, fu⟩ := own_slot hOW (j := q) (by omega)))
                | fail)
              have hput := hXa.put HLEN.out HQ1.out HROW.out hg4 (ys := [(k : Int)]) (by rw [HPP.out]) (by rw [List.map_append]; exact hown4) (by simpa using hat4)
              have hb4 := below_app (below_self HBq.out (below_new W _)) hg4 (HO1q.out.alloc _) (by have := HBq.out.size; simp; omega)
              have HPUT := Lib.hid hput
              have HB5 : Hid (Below w.heap.size w (w4.setCell ⟨g1, q, none⟩ (.slice A4 (p + 1) c4))) := Lib.hid (hb4.setCell (p := ⟨g1, q, none⟩) hgb1 _)
              clear hput hb4 hXa hOW hown4 hg4 hat4
              go_wp2_with fail
              go_roundw
              case rel => exact ⟨k + 1, _, by omega, by go_num, by rw [HSK.out]; (rw [show ((r ++ [k]) :: rs).reverse = rs.reverse ++ [r ++ [k]] from by simp, ← encR_more, List.length_reverse, HRS.out]; have h9 := HPUT.out; rw [List.reverse_cons] at h9; exact h9), HB5.out⟩
              case measure => simp [intOf]; omega
            · have HSK := Lib.hid (rn_new (lv := lv) hlf' hf (by rw [hzd, hyd]; exact hzy))
              have gzy : (z == y) = false := by simp [hzy]
              clear hzy
              clear hcell hbcell hx hy hxd hyd hlf hlf' hX hB hQl hq hz hzd hQq hp hf haz hra
              go_wp2_with fail
              refine (HLf.out _).mono ?_
              rintro e w2 ⟨rfl, rfl⟩
              go_wp2_with fail
              go_quiet (fail)
              obtain ⟨W, hW⟩ : ∃ W, wr.drewN nq = W := ⟨_, rfl⟩
              have HXq := Lib.hid (HX.out.low (below_drewN (Below.refl _ _) nq))
              have HBq := Lib.hid (below_drewN HB.out nq)
              rw [hW] at HXq HBq ⊢
              clear cx cy cz d1 ca hW fz1
              have HON : Hid (W.ownsRow w.heap.size 22 1 (.slice (some ⟨g1, 0, none⟩) (q + 1) cv) (q + 1) Q) := Lib.hid (by have := HXq.out.own; rwa [← HLEN.out] at this)
              go_wp2_with (first
                | (at_builtin; go_loud (refine wpList_app rfl _ _ _ rfl lsSlice (by decide) (.slice (some ⟨g1, 0, none⟩) (q + 1) cv) (q + 1) Q rfl ((HON.out.alloc _).alloc _) ⟨W.heap.size + 1, 0, none⟩ 1 1 [.slice (some ⟨W.heap.size, 0, none⟩) 1 1] rfl rfl (new_run k) (oneSl _ _ _) (by omega) (by unfold maxLen; omega) (by have := HBq.out.size; simp; omega) ?_; intro v1 w3 hown3 hg3 hat3))
                | fail)
              have hX3 := HXq.out.newRun (HBq.out.size) k hg3 (by rw [← HLEN.out]; exact hown3)
              have hb3 := below_app (below_self (below_self HBq.out (below_new W _)) (below_new _ _)) hg3 ((HON.out.alloc _).alloc _) (by have := HBq.out.size; simp; omega)
              have HX3 := Lib.hid hX3
              have HB3 := Lib.hid hb3
              clear hX3 hb3 hown3 hg3 hat3
              go_roundw
              case rel => exact ⟨k + 1, _, by omega, by go_num, by rw [HSK.out]; (rw [show ([k] :: r :: rs).reverse = (r :: rs).reverse ++ [[k]] from by simp]; exact HX3.out), HB3.out⟩
              case measure => simp [intOf]; omega
      · obtain rfl : k = n := by omega
        clear hX hB hQl
        go_wp2
        go_ret
        exact ⟨⟨_, Q, rfl, HX.out⟩, HB.out⟩
  · have hG : runsG lv cl = [] := by unfold runsG; rw [if_neg (by omega)]
    rw [hG]
    have gnm : ((n : Int) == (m : Int)) = false := by simp; omega
    have gnm2 : ((n : Int) != (m : Int)) = true := by simp; omega
    clear hr hs hll hlc hG
    go_enter Tryz.func40, Tryz.ntmps40
    go_wp2
    go_ret
    exact ⟨⟨_, [], rfl, LsAt.nil_ _ _⟩, Below.refl _ _⟩
end Go.Proofs.YtdgomaoikeffhaaGreat
/- seq's paragraph: take, next, levelOf, direction, walked. -/
namespace Go.Proofs.YtdgomaoikeffhaaGreat
open Go.RowKit
/-- A paragraph at work: its box, its map, its levels, runs and matches. -/
structure Pg where
  pb : Nat
  m : Nat
  A : Option Addr
  n : Nat
  c : Nat
  RA : Option Addr
  cR : Nat
  M : Option Addr
  cM : Nat
  level : Int
  lv : List Int
  mt : List Int
  R : List (List Nat)
  b : Nat → Nat
  cp : Nat → Nat
def Pg.rowV (X : Pg) (k : Nat) : Value := .slice (some ⟨X.b k, 0, none⟩) (X.R.getD k []).length (X.cp k)
/-- It lies in memory so. -/
structure PgAt (w : World) (X : Pg) : Prop where
  box : w.heap[X.pb]? = some (.cells #[.int .i64 X.level, .slice X.A X.n X.c, .slice X.RA X.R.length X.cR, .map (some X.m), .slice X.M X.n X.cM] 91 (0, 0))
  lvr : Rd w 1 X.A X.n (X.lv.map (Value.int .i64))
  mtr : Rd w 1 X.M X.n (X.mt.map (Value.int .i64))
  run : Rd w 1 X.RA X.R.length ((List.range X.R.length).map X.rowV)
  rows : ∀ k r, X.R[k]? = some r → Rd w 1 (some ⟨X.b k, 0, none⟩) r.length ((encN r).map (Value.int .i64))
/-- What is so of it, wherever it lies. -/
structure PgOk (X : Pg) (cl bf : List Int) : Prop where
  runs : Runs X.R X.lv cl X.n
  len : X.lv.length = X.n
  mat : X.mt = matF bf
  blen : bf.length = X.n
  n5 : X.n ≤ 100000
  cap : ∀ k r, X.R[k]? = some r → r.length ≤ X.cp k
theorem cellHeap {w w' : World} {a : Addr} (h : w'.heap[a.block]? = w.heap[a.block]?) : w'.cell? a = w.cell? a := by unfold World.cell?; rw [h]
theorem cell_notmap {w : World} {a : Addr} {v : Value} {m : Nat} (h : w.cell? a = some v) (hm : ∃ o, w.heap[m]? = some o ∧ ∀ cs t z, o ≠ .cells cs t z) : a.block ≠ m := by
  rintro rfl
  obtain ⟨o, ho, hne⟩ := hm
  unfold World.cell? at h
  rw [ho] at h
  cases o <;> simp_all
section
variable {w w' : World} {X : Pg} {cl bf : List Int}
theorem NumAt.obj {n m : Nat} {F : Nat → Option Nat} (h : NumAt w m n F) : ∃ o, w.heap[m]? = some o ∧ ∀ cs t z, o ≠ .cells cs t z := by
  obtain ⟨D, ⟨es, clock, h1, _⟩, _⟩ := h
  exact ⟨_, h1, fun _ _ _ e => by cases e⟩
theorem Rd.offMap {size n m : Nat} {A : Option Addr} {xs : List Value} (h : Rd w size A n xs) (hs : 0 < size) (hk : Kept w w' [m]) (hm : ∃ o, w.heap[m]? = some o ∧ ∀ cs t z, o ≠ .cells cs t z) : Rd w' size A n xs :=
  ⟨h.1, fun h0 => by
    obtain ⟨ad, e, hlt, hc⟩ := h.2 h0
    have hne : ad.block ≠ m := by
      obtain ⟨u, hu⟩ : ∃ u, xs[0]? = some u := ⟨_, List.getElem?_eq_getElem (by rw [h.1]; exact Nat.mul_pos h0 hs)⟩
      have := cell_notmap (hc 0 u hu) hm
      rwa [blockAdd] at this
    refine ⟨ad, e, Nat.lt_of_lt_of_le hlt hk.size, fun j u hu => ?_⟩
    exact (cellHeap (by rw [blockAdd]; exact hk.block _ hlt (by simpa using hne))).trans (hc j u hu)⟩
theorem PgAt.offMap {n : Nat} {F : Nat → Option Nat} (h : PgAt w X) (hm : NumAt w X.m n F) (hk : Kept w w' [X.m]) : PgAt w' X := by
  have ho := hm.obj
  refine ⟨?_, h.lvr.offMap (by omega) hk ho, h.mtr.offMap (by omega) hk ho, h.run.offMap (by omega) hk ho, fun k r hr => (h.rows k r hr).offMap (by omega) hk ho⟩
  refine (hk.block _ (hp_lt h.box) ?_).trans h.box
  intro e
  rw [List.mem_singleton] at e
  obtain ⟨o, h1, h2⟩ := ho
  rw [← e, h.box] at h1
  exact h2 _ _ _ (Option.some.inj h1).symm
theorem PgAt.low (h : PgAt w X) (hb : Below w.heap.size w w') : PgAt w' X :=
  ⟨(hb.block _ (hp_lt h.box)).trans h.box, h.lvr.below hb, h.mtr.below hb, h.run.below hb, fun k r hr => (h.rows k r hr).below hb⟩
theorem NumAt.low {n m : Nat} {F : Nat → Option Nat} (h : NumAt w m n F) (hb : Below w.heap.size w w') : NumAt w' m n F := h.heap (hb.block m h.lt)
/-- A run's cell, and its first place. -/
theorem PgAt.runAt (h : PgAt w X) {k : Nat} {r : List Nat} (hr : X.R[k]? = some r) : ∃ ad, X.RA = some ad ∧ w.cell? (ad.add k) = some (.slice (some ⟨X.b k, 0, none⟩) r.length (X.cp k)) := by
  have hk := (List.getElem?_eq_some_iff.1 hr).1
  obtain ⟨ad, e, _, hc⟩ := h.run.at_ hk
  refine ⟨ad, e, hc _ ?_⟩
  rw [List.getElem?_map, List.getElem?_range hk, Option.map_some]
  unfold Pg.rowV
  rw [getD_of hr]
theorem PgAt.headAt (h : PgAt w X) {k a : Nat} {r : List Nat} (hr : X.R[k]? = some r) (ha : r.head? = some a) : w.cell? ⟨X.b k, 0, none⟩ = some (.int .i64 (a : Int)) := by
  obtain ⟨r', rfl⟩ : ∃ r', r = a :: r' := by
    cases r with
    | nil => simp at ha
    | cons x r' => exact ⟨r', by simp at ha; rw [ha]⟩
  obtain ⟨ad, e, _, hc⟩ := (h.rows k _ hr).at_ (show 0 < (a :: r').length by simp)
  obtain rfl := Option.some.inj e
  have := hc (.int .i64 (a : Int)) rfl
  rwa [show (⟨X.b k, 0, none⟩ : Addr).add 0 = ⟨X.b k, 0, none⟩ from rfl] at this
end
set_option maxRecDepth 100000 in
theorem sqDir_any (a b v : Int) (hv : dirF a b = v) (w : World) : Calls Tryz.prog 61 #[.int .i64 a, .int .i64 b] w fun e w' => e = .returned (.int .i64 v) ∧ w = w' := by
  obtain ⟨M, hM⟩ : ∃ M, max a b = M := ⟨_, rfl⟩
  unfold dirF at hv
  rw [hM] at hv
  have hmx : (if a < b then b else a) = M := by rw [← hM]; split <;> omega
  obtain ⟨y, hy⟩ : ∃ y, M % 2 = y := ⟨_, rfl⟩
  have hbit : bits .and .i64 M 1 = y := by rw [and1_i64, hy]
  have hy2 : y = 0 ∨ y = 1 := by omega
  rw [hy] at hv
  clear hM hy
  rcases hy2 with h0 | h0
  · rw [if_pos h0] at hv
    subst hv
    rw [h0] at hbit
    clear h0
    go_enter Tryz.func61, Tryz.ntmps61
    go_wp2
    go_ret
    exact ⟨rfl, rfl⟩
  · rw [if_neg (by omega)] at hv
    subst hv
    rw [h0] at hbit
    clear h0
    go_enter Tryz.func61, Tryz.ntmps61
    go_wp2
    go_ret
    exact ⟨rfl, rfl⟩
section
variable {X : Pg} {cl bf : List Int}
set_option maxRecDepth 100000 in
set_option maxHeartbeats 2000000 in
theorem sqLevelOf_any (k : Int) (v : Int) (w : World) (h : PgAt w X) (ho : PgOk X cl bf) (hk : -1 ≤ k) (hk2 : k ≤ 100000) (hv : levF X.R X.lv X.level k = v) : Calls Tryz.prog 60 #[.pointer (some ⟨X.pb, 0, none⟩), .int .i64 k] w fun e w' => e = .returned (.int .i64 v) ∧ Below w.heap.size w w' := by
  have c0 := hp_cell (j := 0) h.box rfl
  have c1 := hp_cell (j := 1) h.box rfl
  have c2 := hp_cell (j := 2) h.box rfl
  have hls := len_ls
  unfold levF at hv
  by_cases h0 : k < 0
  · rw [if_pos (.inl h0)] at hv
    subst hv
    clear h ho
    go_enter Tryz.func60, Tryz.ntmps60
    go_wp2_with fail
    go_ret
    exact ⟨rfl, Below.refl _ _⟩
  · by_cases h1 : (X.R.length : Int) ≤ k
    · rw [if_pos (.inr h1)] at hv
      subst hv
      clear h ho
      go_enter Tryz.func60, Tryz.ntmps60
      go_wp2_with fail
      go_ret
      exact ⟨rfl, Below.refl _ _⟩
    · rw [if_neg (by omega)] at hv
      obtain ⟨q, rfl⟩ : ∃ q : Nat, k = (q : Int) := ⟨k.toNat, by omega⟩
      obtain ⟨r, hr⟩ : ∃ r, X.R[q]? = some r := ⟨_, List.getElem?_eq_getElem (by omega)⟩
      have hne := (ho.runs.one r (List.mem_of_getElem? hr)).1
      obtain ⟨a, ha⟩ : ∃ a, r.head? = some a := by
        cases r with
        | nil => exact absurd rfl hne
        | cons a r' => exact ⟨a, rfl⟩
      have han : a < X.n := ho.runs.lt (List.mem_of_getElem? hr) (List.mem_of_head? ha)
      rw [Int.toNat_natCast, getD_of hr, List.headD_eq_head?_getD, ha, Option.getD_some] at hv
      obtain ⟨ar, hra, cr⟩ := h.runAt hr
      have ca := h.headAt hr ha
      obtain ⟨y, hy⟩ : ∃ y, X.lv[a]? = some y := ⟨_, List.getElem?_eq_getElem (by rw [ho.len]; exact han)⟩
      obtain ⟨al, hal, _, hcl⟩ := h.lvr.at_ han
      have cy := hcl _ (by rw [List.getElem?_map, hy]; rfl)
      rw [List.getD_eq_getElem?_getD, hy, Option.getD_some] at hv
      subst hv
      rw [hra] at c2
      rw [hal] at c1
      have hrl : 0 < r.length := List.length_pos_iff.2 hne
      obtain ⟨p, hp⟩ : ∃ p, r.length = p := ⟨_, rfl⟩
      rw [hp] at cr hrl
      obtain ⟨N, hN⟩ : ∃ N, X.R.length = N := ⟨_, rfl⟩
      rw [hN] at c2 h1
      obtain ⟨n, hnn⟩ : ∃ n, X.n = n := ⟨_, rfl⟩
      rw [hnn] at c1 han
      have hq0 : (0 : Int) ≤ (q : Int) := by omega
      have hqN : (q : Int) < (N : Int) := by omega
      have hpi : (0 : Int) < (p : Int) := by omega
      have hai : (a : Int) < (n : Int) := by omega
      have ha0 : (0 : Int) ≤ (a : Int) := by omega
      clear h ho hr hne ha hcl hy hra hal hp hN hnn h0 hk hrl
      go_enter Tryz.func60, Tryz.ntmps60
      go_wp2_with fail
      go_quiet (fail)
      have HB := Lib.hid (below_drewN (Below.refl w.heap.size w) nq)
      obtain ⟨W, hW⟩ : ∃ W, w.drewN nq = W := ⟨_, rfl⟩
      rw [hW] at HB ⊢
      clear c0 c1 c2 cr ca cy hW
      go_wp2_with fail
      go_ret
      exact ⟨rfl, HB.out⟩
set_option maxRecDepth 100000 in
set_option maxHeartbeats 2000000 in
theorem sqTake_any (p n : Nat) (F : Nat → Option Nat) (w : World) (h : PgAt w X) (hm : NumAt w X.m n F) (hp : p < n) (hn : n ≤ 1000000) : Calls Tryz.prog 41 #[.pointer (some ⟨X.pb, 0, none⟩), .int .i64 (p : Int)] w fun e w' => e = .returned (.tuple #[.int .i64 (((F p).getD 0 : Nat) : Int), .bool (F p).isSome]) ∧ PgAt w' X ∧ NumAt w' X.m n (delMN F p) ∧ Kept w w' [X.m] := by
  have c3 := hp_cell (j := 3) h.box rfl
  obtain ⟨W, hdel, hmW, htu⟩ := hm.drop hp (by omega) 0
  have hlk := hm.look_ok (k := p) (by omega)
  have hk := kept_turnedN htu
  have HP := Lib.hid (h.offMap hm hk)
  have HM := Lib.hid hmW
  have HK := Lib.hid hk
  obtain ⟨o, hoo⟩ : ∃ o, F p = o := ⟨_, rfl⟩
  rw [hoo] at hlk ⊢
  unfold valN at hlk
  obtain ⟨v, hv⟩ : ∃ v : Int, ((o.getD 0 : Nat) : Int) = v := ⟨_, rfl⟩
  obtain ⟨b, hb⟩ : ∃ b, o.isSome = b := ⟨_, rfl⟩
  rw [hv, hb] at hlk ⊢
  clear h hm htu hmW hk hoo hv hb
  go_enter Tryz.func41, Tryz.ntmps41
  go_wp2_with fail
  exact bodyPost_ret (v := .tuple #[.int .i64 v, .bool b]) (by simp [results, go_sem]) rfl ⟨rfl, HP.out, HM.out, HK.out⟩
/-- The run that is taken behind a run, if one is free. -/
def nextF (R : List (List Nat)) (bf : List Int) (U : List Nat) (k : Nat) : Option Nat := match nxF R bf (matF bf) k with
  | some j => if j ∈ U then none else some j
  | none => none
theorem nextF_free {U : List Nat} {k p : Nat} (h : nxF X.R bf (matF bf) k = begF X.R p) : freeF X.R U p = nextF X.R bf U k := by
  unfold nextF freeF
  rw [h]
  cases begF X.R p <;> rfl
set_option maxRecDepth 100000 in
set_option maxHeartbeats 2000000 in
theorem sqNext_any (k la q cq : Nat) (P r : List Nat) (U : List Nat) (V : Option Addr) (w : World) (h : PgAt w X) (ho : PgOk X cl bf) (hm : NumAt w X.m (X.n + 1) (freeF X.R U)) (hr : X.R[k]? = some r) (hl : r.getLast? = some la) (hP : Rd w 1 V (q + 1) ((encN P).map (Value.int .i64))) (hPl : P.getLast? = some la) (hq : q ≤ 100000) :
    Calls Tryz.prog 59 #[.pointer (some ⟨X.pb, 0, none⟩), .slice V (q + 1) cq] w fun e w' => e = .returned (.tuple #[.int .i64 (((nextF X.R bf U k).getD 0 : Nat) : Int), .bool (nextF X.R bf U k).isSome]) ∧ PgAt w' X ∧ NumAt w' X.m (X.n + 1) (freeF X.R (U ++ (nextF X.R bf U k).toList)) ∧ Kept w w' [X.m] := by
  have hn5 := ho.n5
  have hla : la < X.n := ho.runs.lt (List.mem_of_getElem? hr) (List.mem_of_getLast? hl)
  have hnx := ho.runs.next ho.blen hr hl
  have hPL : P.length = q + 1 := by have := hP.len1; simpa [encN] using this
  obtain ⟨av, hav, _, hcv⟩ := hP.at_ (show q < q + 1 by omega)
  have cl0 : w.cell? (av.add q) = some (.int .i64 (la : Int)) := hcv _ (by
    unfold encN
    rw [List.getElem?_map, List.getElem?_map, show P[q]? = some la by rw [← hPl, List.getLast?_eq_getElem?, hPL]; rfl]
    rfl)
  obtain ⟨y, hy⟩ : ∃ y, X.mt[la]? = some y := ⟨_, List.getElem?_eq_getElem (by have := h.mtr.len1; simp at this; omega)⟩
  have hyd : (matF bf).getD la 0 = y := by rw [← ho.mat, List.getD_eq_getElem?_getD, hy]; rfl
  rw [hyd] at hnx
  obtain ⟨am, ham, _, hcm⟩ := h.mtr.at_ hla
  have cy := hcm _ (by rw [List.getElem?_map, hy]; rfl)
  have c4 := hp_cell (j := 4) h.box rfl
  rw [ham] at c4
  subst hav
  have HP := Lib.hid h
  have HM := Lib.hid hm
  have hyn : y ≤ (X.n : Int) := by
    by_cases hb : opB (bf.getD la 0) = true
    · obtain ⟨p, h1, h2, h3⟩ := mat_big (bf := bf) (la := la) (by rw [ho.blen]; exact hla) hb
      rw [hyd] at h1
      have := ho.blen
      omega
    · have := mat_small (bf := bf) (la := la) (by rw [ho.blen]; exact hla) (by simpa using hb)
      omega
  obtain ⟨n, hnn⟩ : ∃ n, X.n = n := ⟨_, rfl⟩
  rw [hnn] at c4 hla hyn hn5
  have HN := Lib.hid hnn
  have hq1 : (q : Int) < (q : Int) + 1 := by omega
  have hq0 : (0 : Int) ≤ (q : Int) := by omega
  have hq5 : (q : Int) ≤ 100000 := by omega
  have hl1 : (la : Int) < (n : Int) := by omega
  have hl0 : (0 : Int) ≤ (la : Int) := by omega
  by_cases hle : y ≤ (la : Int)
  · rw [if_pos hle] at hnx
    have e : nextF X.R bf U k = none := by unfold nextF; rw [hnx]
    rw [e]
    have HM2 : Hid (NumAt w X.m (X.n + 1) (freeF X.R (U ++ (none : Option Nat).toList))) := Lib.hid (by simpa using hm)
    clear h ho hm hr hl hP hPl hnx hPL hcv hy hyd hcm ham hnn e
    go_enter Tryz.func59, Tryz.ntmps59
    go_wp2_with fail
    exact bodyPost_ret (v := .tuple #[.int .i64 0, .bool false]) (by simp [results, go_sem]) rfl ⟨rfl, HP.out, HM2.out, Kept.refl _ _⟩
  · rw [if_neg hle] at hnx
    obtain ⟨p, rfl⟩ : ∃ p : Nat, y = (p : Int) := ⟨y.toNat, by omega⟩
    rw [Int.toNat_natCast] at hnx
    have hfr := nextF_free (X := X) (U := U) hnx
    have HT := Lib.hid (sqTake_any p (X.n + 1) (freeF X.R U) w h hm (by omega) (by omega))
    have HD : Hid (delMN (freeF X.R U) p = freeF X.R (U ++ (nextF X.R bf U k).toList)) := Lib.hid (by
      rw [← hfr]
      cases hf : freeF X.R U p with
      | none => rw [freeF_same hf]; simp
      | some j =>
        rw [ho.runs.taken (freeF_some hf).1]
        rfl)
    rw [hfr, HD.out] at HT
    obtain ⟨o, hoo⟩ : ∃ o, nextF X.R bf U k = o := ⟨_, rfl⟩
    rw [hoo] at HT ⊢
    obtain ⟨v, hv⟩ : ∃ v : Int, ((o.getD 0 : Nat) : Int) = v := ⟨_, rfl⟩
    obtain ⟨b, hb⟩ : ∃ b, o.isSome = b := ⟨_, rfl⟩
    rw [hv, hb] at HT ⊢
    clear h ho hm hr hl hP hPl hnx hPL hcv hy hyd hcm ham hnn hfr hoo hv hb
    go_enter Tryz.func59, Tryz.ntmps59
    go_wp2_with fail
    refine HT.out.mono ?_
    rintro e w2 ⟨rfl, h1, h2, h3⟩
    have H1 := Lib.hid h1
    have H2 := Lib.hid h2
    have H3 := Lib.hid h3
    clear h1 h2 h3
    go_wp2_with fail
    exact bodyPost_ret (v := .tuple #[.int .i64 v, .bool b]) (by simp [results, go_sem]) rfl ⟨rfl, H1.out, H2.out, H3.out⟩
end
end Go.Proofs.YtdgomaoikeffhaaGreat
/- seq's sequence: what an append leaves of the paragraph; what the sequence answers. -/
namespace Go.Proofs.YtdgomaoikeffhaaGreat
open Go.RowKit

/-- No run's row is the block of anything else. -/
structure PgApart (X : Pg) : Prop where
  pb : ∀ k, k < X.R.length → X.pb ≠ X.b k
  m : ∀ k, k < X.R.length → X.m ≠ X.b k
  A : ∀ k ad, k < X.R.length → X.A = some ad → ad.block ≠ X.b k
  M : ∀ k ad, k < X.R.length → X.M = some ad → ad.block ≠ X.b k
  RA : ∀ k ad, k < X.R.length → X.RA = some ad → ad.block ≠ X.b k
  ne : ∀ i j, i < X.R.length → j < X.R.length → X.b i = X.b j → i = j
theorem Rd.grownOff {w w' : World} {size n g : Nat} {A : Option Addr} {xs : List Value} (h : Rd w size A n xs) (hg : w.grownBy w' (some g)) (hne : 0 < n → ∀ ad, A = some ad → ad.block ≠ g) : Rd w' size A n xs :=
  ⟨h.1, fun h0 => by
    obtain ⟨ad, e, hlt, hc⟩ := h.2 h0
    have := hne h0 ad e
    refine ⟨ad, e, Nat.lt_of_lt_of_le hlt hg.size, fun j u hu => (cellHeap (by rw [blockAdd]; exact hg.block _ hlt (fun e => this (Option.some.inj e)))).trans (hc j u hu)⟩⟩
theorem Rd.headR {w : World} {n m : Nat} {A : Option Addr} {l1 l2 : List Value} (h : Rd w 1 A n (l1 ++ l2)) (hm : l1.length = m) : Rd w 1 A m l1 :=
  ⟨by omega, fun h0 => by
    have hn : 0 < n := by have := h.len1; simp at this; omega
    obtain ⟨ad, e, hlt, hc⟩ := h.2 hn
    exact ⟨ad, e, hlt, fun j u hu => hc j u (by rw [List.getElem?_append_left (List.getElem?_eq_some_iff.1 hu).1]; exact hu)⟩⟩
theorem Rd.blkLt {w : World} {size n : Nat} {A : Option Addr} {xs : List Value} (h : Rd w size A n xs) (h0 : 0 < n) {ad : Addr} (e : A = some ad) : ad.block < w.heap.size := by
  obtain ⟨a, e2, hlt, _⟩ := h.2 h0
  rw [e] at e2
  obtain rfl := Option.some.inj e2
  exact hlt
section
variable {w wr w' : World} {X : Pg} {cl bf : List Int} {f gb : Nat} {r1 : List Nat}
/-- An append onto the row of the first run, or onto a row that was made meanwhile, leaves the paragraph. -/
theorem PgAt.app (h : PgAt wr X) (hE : PgAt w X) (hap : PgApart X) (ho : PgOk X cl bf) (hf : X.R[f]? = some r1) (hgb : gb = X.b f ∨ w.heap.size ≤ gb) (hg : wr.grownBy w' (some gb)) (hfst : gb = X.b f → Rd w' 1 (some ⟨X.b f, 0, none⟩) r1.length ((encN r1).map (Value.int .i64))) : PgAt w' X := by
  have hfl := (List.getElem?_eq_some_iff.1 hf).1
  refine ⟨?_, h.lvr.grownOff hg (fun h0 ad e => ?_), h.mtr.grownOff hg (fun h0 ad e => ?_), h.run.grownOff hg (fun h0 ad e => ?_), fun k r hr => ?_⟩
  · refine (hg.block _ (hp_lt h.box) (fun e => ?_)).trans h.box
    have e := Option.some.inj e
    rcases hgb with e2 | e2
    · exact hap.pb f hfl (by omega)
    · have := hp_lt hE.box
      omega
  · rcases hgb with e2 | e2
    · rw [e2]; exact hap.A f ad hfl e
    · have := hE.lvr.blkLt h0 e
      omega
  · rcases hgb with e2 | e2
    · rw [e2]; exact hap.M f ad hfl e
    · have := hE.mtr.blkLt h0 e
      omega
  · rcases hgb with e2 | e2
    · rw [e2]; exact hap.RA f ad hfl e
    · have := hE.run.blkLt h0 e
      omega
  · have hkl := (List.getElem?_eq_some_iff.1 hr).1
    by_cases hk : X.b k = gb
    · rcases hgb with e2 | e2
      · obtain rfl := hap.ne k f hkl hfl (by omega)
        rw [hf] at hr
        obtain rfl := Option.some.inj hr
        exact hfst e2
      · have hne := (ho.runs.one r (List.mem_of_getElem? hr)).1
        have := (hE.rows k r hr).blkLt (List.length_pos_iff.2 hne) rfl
        simp only at this
        omega
    · exact (h.rows k r hr).grownOff hg (fun _ ad e => by obtain rfl := Option.some.inj e; exact hk)
theorem NumAt.app {n : Nat} {F : Nat → Option Nat} (h : NumAt wr X.m n F) (hE : X.m < w.heap.size) (hap : PgApart X) (hfl : f < X.R.length) (hgb : gb = X.b f ∨ w.heap.size ≤ gb) (hg : wr.grownBy w' (some gb)) : NumAt w' X.m n F := by
  refine h.heap (hg.block _ h.lt (fun e => ?_))
  have e := Option.some.inj e
  rcases hgb with e2 | e2
  · exact hap.m f hfl (by omega)
  · omega
end
end Go.Proofs.YtdgomaoikeffhaaGreat
/- seq's sequence, walked. -/
namespace Go.Proofs.YtdgomaoikeffhaaGreat
open Go.RowKit

/-- What sequence answers: the places of the chain, in a row of the call's own or in the first run's. -/
def SeqAns (w w' : World) (X : Pg) (bf cl : List Int) (bs first : Nat) (Fn U : List Nat) (e : Ending) : Prop :=
  ∃ ks g q cq ev, Fn = U ++ ks ∧ ks ≠ [] ∧ placesF X.R ks ≠ [] ∧ (placesF X.R ks).length = q ∧ sqAns X.lv cl bf (matF bf) X.level (placesF X.R ks) = ev ∧ ev.at_ = placesF X.R ks ∧ e = .returned (.agg #[.slice (some ⟨g, 0, none⟩) q cq, .int .i64 ev.lev, .int .i64 ev.sos, .int .i64 ev.eos]) ∧ w'.ownsRow bs 3 1 (.slice (some ⟨g, 0, none⟩) q cq) q ((encN (placesF X.R ks)).map (Value.int .i64)) ∧ (g = X.b first ∨ w.heap.size ≤ g) ∧ PgAt w' X ∧ NumAt w' X.m (X.n + 1) (freeF X.R Fn) ∧ Kept w w' [X.m, X.b first]
/-- The row so far: where it lies, what is kept. -/
structure AtRow (w wr : World) (X : Pg) (bs first g q cq : Nat) (P : List Nat) : Prop where
  own : wr.ownsRow bs 3 1 (.slice (some ⟨g, 0, none⟩) q cq) q ((encN P).map (Value.int .i64))
  blk : g = X.b first ∨ w.heap.size ≤ g
  pg : PgAt wr X
  kept : Kept w wr [X.m, X.b first]
  len : P.length = q
section
variable {w wr w' : World} {X : Pg} {cl bf : List Int} {bs first g q cq : Nat} {P r1 r2 : List Nat}
theorem AtRow.next (h : AtRow w wr X bs first g q cq P) (hp : PgAt w' X) (hk : Kept wr w' [X.m]) (ho : ∃ o, wr.heap[X.m]? = some o ∧ ∀ cs t z, o ≠ .cells cs t z) : AtRow w w' X bs first g q cq P := by
  refine ⟨own_keptG h.own hk (fun hm => ?_), h.blk, hp, h.kept.trans (hk.moreS (fun x hx => by simp at hx; simp [hx])), h.len⟩
  rw [List.mem_singleton] at hm
  obtain ⟨o, h1, h2⟩ := ho
  obtain ⟨cs, h3⟩ := own_row h.own g rfl
  rw [hm, h1] at h3
  exact h2 _ _ _ (Option.some.inj h3)
theorem AtRow.app (h : AtRow w wr X bs first g q cq P) (hE : PgAt w X) (hap : PgApart X) (ho : PgOk X cl bf) (hf : X.R[first]? = some r1) (hP : ∃ t, P = r1 ++ t) {v' : Value} {m : Nat} (hown : w'.ownsRow bs 3 1 v' m ((encN P).map (Value.int .i64) ++ (encN r2).map (Value.int .i64))) (hm : q + r2.length = m) (hm0 : 0 < m) (hg : wr.grownBy w' (some g)) (hat : v'.ownBlock = some g ∨ (v'.ownBlock = some wr.heap.size ∧ Below wr.heap.size wr w')) : ∃ g2 c2, v' = .slice (some ⟨g2, 0, none⟩) m c2 ∧ AtRow w w' X bs first g2 m c2 (P ++ r2) ∧ wr.grownBy w' (some g) := by
  obtain ⟨g2, c2, rfl, _, hl2, hb2, hc2⟩ := own_at hown hm0
  obtain ⟨t, rfl⟩ := hP
  refine ⟨g2, c2, rfl, ⟨by rw [encN_app, List.map_append]; exact hown, ?_, ?_, ?_, by rw [List.length_append, h.len, hm]⟩, hg⟩
  · rcases hat with e | ⟨e, _⟩
    · simp only [Value.ownBlock, Option.some.injEq] at e
      rw [e]; exact h.blk
    · simp only [Value.ownBlock, Option.some.injEq] at e
      right
      rw [e]
      exact h.kept.size
  · refine h.pg.app hE hap ho hf h.blk hg (fun eg => ?_)
    rcases hat with e | ⟨_, hB⟩
    · simp only [Value.ownBlock, Option.some.injEq] at e
      have h1 := Rd.of_own hown
      rw [encN_app, List.map_append, List.append_assoc] at h1
      have h2 := h1.headR (m := r1.length) (by simp [encN])
      rw [e, eg] at h2
      exact h2
    · exact (h.pg.rows first r1 hf).below hB
  · refine ⟨hg.os.trans h.kept.os, hg.tape.trans h.kept.tape, hg.output.trans h.kept.output, Nat.le_trans h.kept.size hg.size, fun i hi hn => ?_⟩
    refine (hg.block i (Nat.lt_of_lt_of_le hi h.kept.size) (fun e2 => ?_)).trans (h.kept.block i hi hn)
    have e := Option.some.inj e2
    rcases h.blk with e3 | e3
    · exact hn (by rw [show i = X.b first by omega]; simp)
    · omega
/-- What is so at the head of the loop: the chain so far, and the run that was taken next. -/
structure ChAt (w wr : World) (X : Pg) (bf : List Int) (bs first : Nat) (U Fn ks : List Nat) (lst : Nat) (o : Option Nat) (f g q cq : Nat) : Prop where
  row : AtRow w wr X bs first g q cq (placesF X.R ks)
  num : NumAt wr X.m (X.n + 1) (freeF X.R (U ++ ks ++ o.toList))
  last : ks.getLast? = some lst
  head : ks.head? = some first
  nxt : o = nextF X.R bf (U ++ ks) lst
  ch : chF X.R bf (matF bf) f (nxF X.R bf (matF bf) lst) (U ++ ks) = Fn
  fu : X.R.length < f + (U ++ ks).length
  nd : (U ++ ks).Nodup
  bd : ∀ x ∈ U ++ ks, x < X.R.length
theorem nextF_some {R : List (List Nat)} {U : List Nat} {k j : Nat} (h : some j = nextF R bf U k) : nxF R bf (matF bf) k = some j ∧ j ∉ U := by
  unfold nextF at h
  split at h
  · rename_i i hi
    split at h
    · cases h
    · rename_i hm
      obtain rfl := Option.some.inj h
      exact ⟨hi, hm⟩
  · cases h
theorem nextF_none {R : List (List Nat)} {U : List Nat} {k : Nat} (h : none = nextF R bf U k) : ¬ ∃ j, nxF R bf (matF bf) k = some j ∧ j ∉ U := by
  rintro ⟨j, h1, h2⟩
  unfold nextF at h
  rw [h1] at h
  simp only [if_neg h2] at h
  cases h
/-- Where the run is taken and its places are appended. -/
theorem ch_step {R : List (List Nat)} {U ks : List Nat} {lst j f : Nat} {Fn : List Nat} (hx : nxF R bf (matF bf) lst = some j) (hj : j ∉ U ++ ks) (hch : chF R bf (matF bf) f (nxF R bf (matF bf) lst) (U ++ ks) = Fn) (hfu : R.length < f + (U ++ ks).length) (hnd : (U ++ ks).Nodup) (hbd : ∀ x ∈ U ++ ks, x < R.length) : ∃ f', f = f' + 1 ∧ chF R bf (matF bf) f' (nxF R bf (matF bf) j) (U ++ (ks ++ [j])) = Fn ∧ R.length < f' + (U ++ (ks ++ [j])).length ∧ (U ++ (ks ++ [j])).Nodup ∧ (∀ x ∈ U ++ (ks ++ [j]), x < R.length) ∧ j < R.length := by
  have hjl := nx_lt hx
  obtain ⟨f', rfl⟩ : ∃ f', f = f' + 1 := ⟨f - 1, by have := fuel_pos hnd hbd hj hjl hfu; omega⟩
  rw [hx, ch_more hj] at hch
  have hn := nodup_snoc hnd hj
  refine ⟨f', rfl, by rw [← List.append_assoc]; exact hch, by simp at hfu ⊢; omega, by rw [← List.append_assoc]; exact hn, fun x hx => ?_, hjl⟩
  rw [← List.append_assoc] at hx
  rcases List.mem_append.1 hx with h | h
  · exact hbd x h
  · rw [List.mem_singleton] at h; rw [h]; exact hjl
theorem last_places {R : List (List Nat)} {ks : List Nat} {lst la : Nat} {r : List Nat} (hl : ks.getLast? = some lst) (hr : R[lst]? = some r) (hla : r.getLast? = some la) : (placesF R ks).getLast? = some la := by
  obtain ⟨t, rfl⟩ := List.getLast?_eq_some_iff.1 hl
  rw [placesF_more hr, List.getLast?_append, hla]
  rfl
theorem head_places {R : List (List Nat)} {ks : List Nat} {first : Nat} {r : List Nat} (hh : ks.head? = some first) (hr : R[first]? = some r) : ∃ t, placesF R ks = r ++ t := by
  cases ks with
  | nil => simp at hh
  | cons k t =>
    simp at hh
    subst hh
    exact ⟨placesF R t, by unfold placesF; rw [List.flatMap_cons, getD_of hr]⟩
end
end Go.Proofs.YtdgomaoikeffhaaGreat
