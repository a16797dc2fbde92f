/- Texts of one claim, one behind the other. -/
import Derived.Deep.RegionWith
import Derived.Deep.RegionHeld3
import Derived.Deep.CutBlock
import Derived.Deep.DeepCutAuto
import Derived.Test.YtcbiaeeifclieaaGreatDoorMgM6
import Derived.Test.YtcbiaeeifclieaaGreatDoorMgM32
/- unshape's begin, walked: a text at work, of whatever becomes of its codes. -/
namespace Go.Proofs.YtcbiaeeifclieaaGreatDoor
open Go.RowKit

/-- A text at work: the struct in block wk, its cells, and the text. -/
structure WkAt (W : World) (wk base b gc n c : Nat) (A : Option Addr) (xs : List Int) (S : St) : Prop where
  box : W.heap[wk]? = some (.cells #[.pointer (some ⟨b, 0, none⟩), .slice A n c] 61 (0, 0))
  sat : SAt W base b gc n S
  rd : Rd W 1 A n (xs.map (Value.int .i64))
  hk : base ≤ wk
  la : 0 < n → ∀ ad, A = some ad → ad.block < base ∧ ad.block ≠ b ∧ ad.block ≠ gc
section
variable {W W' : World} {wk base b gc n c : Nat} {A : Option Addr} {xs : List Int} {S S' : St} {L : List Nat}
theorem WkAt.to (h : WkAt W wk base b gc n c A xs S) (hk : Kept W W' L) (hs : ∀ x ∈ L, (x < base) ∧ (0 < n → ∀ ad, A = some ad → ad.block ≠ x)) (h' : SAt W' base b gc n S') : WkAt W' wk base b gc n c A xs S' :=
  ⟨hk.heap h.box (fun m => by have := (hs _ m).1; have := h.hk; omega), h', ⟨h.rd.1, fun hn => by
    obtain ⟨ad, e, hlt, hc⟩ := h.rd.2 hn
    refine ⟨ad, e, Nat.lt_of_lt_of_le hlt hk.size, fun j u hu => ?_⟩
    have := hc j u hu
    unfold World.cell? at this ⊢
    rw [show W'.heap[(ad.add j).block]? = W.heap[(ad.add j).block]? by rw [blockAdd]; exact hk.block _ hlt (fun m => (hs _ m).2 hn ad e rfl)]
    exact this⟩, h.hk, h.la⟩
theorem WkAt.put (h : WkAt W wk base b gc n c A xs S) (hk : Kept W W' [b, gc]) (h' : SAt W' base b gc n S') : WkAt W' wk base b gc n c A xs S' :=
  h.to hk (fun x hx => by
    have hl := h.sat.lt
    simp only [List.mem_cons, List.not_mem_nil, or_false] at hx
    rcases hx with rfl | rfl
    · exact ⟨hl.1, fun h0 ad e => (h.la h0 ad e).2.1⟩
    · exact ⟨hl.2.1, fun h0 ad e => (h.la h0 ad e).2.2⟩) h'
theorem WkAt.low (h : WkAt W wk base b gc n c A xs S) (hb : Below W.heap.size W W') : WkAt W' wk base b gc n c A xs S := h.to (Kept.of_below hb []) (by simp) (h.sat.low hb)
theorem WkAt.c0 (h : WkAt W wk base b gc n c A xs S) : W.cell? ⟨wk, 0, none⟩ = some (.pointer (some ⟨b, 0, none⟩)) := hp_cell h.box rfl
theorem WkAt.c1 (h : WkAt W wk base b gc n c A xs S) : W.cell? ⟨wk, 1, none⟩ = some (.slice A n c) := hp_cell h.box rfl
end
/-- What a call of the closure wants, and leaves. -/
structure Becomer (w0 : World) (g : FuncId) (lb : Array Value) (f : Int → List Int) (xs : List Int) (L : List Nat) (I : Nat → Nat → World → Prop) : Prop where
  eg : ∀ args w, (callFunc g args).run Tryz.prog w = .ok (.enter g args) w
  first : ∀ lo W, Below w0.heap.size w0 W → w0.heap.size ≤ lo → I lo 0 W
  far : ∀ x ∈ L, x < w0.heap.size
  stays : ∀ lo k A B S, I lo k A → Kept A B S → (∀ x ∈ S, w0.heap.size ≤ x ∧ x < lo) → I lo k B
  call : ∀ lo k x A, xs[k]? = some x → I lo k A → w0.heap.size ≤ lo → lo ≤ A.heap.size → Calls Tryz.prog g (#[.int .i64 x] ++ lb) A fun e B => GotL B (f x) e ∧ I lo (k + 1) B ∧ Kept A B L
set_option maxRecDepth 100000 in
set_option maxHeartbeats 4000000 in
theorem unBegin_any (g : FuncId) (lb : Array Value) (f : Int → List Int) (L : List Nat) (I : Nat → Nat → World → Prop) (A : Option Addr) (n c : Nat) (xs : List Int) (w : World) (hB : Becomer w g lb f xs L I) (hr : Rd w 1 A n (xs.map (Value.int .i64))) (hn : n ≤ 100000)
    (hlo : 0 < n → ∀ ad, A = some ad → ad.block < w.heap.size ∧ ad.block ∉ L) (hf : ∀ x, (f x).length ≤ 2) :
    Calls Tryz.prog 14 #[.slice A n c, .func (.func g) #[] lb] w fun e w' => ∃ wk base b gc, e = .returned (.tuple #[.pointer (some ⟨wk, 0, none⟩), .int .i64 0]) ∧ WkAt w' wk base b gc n c A xs (stOf f xs) ∧ w.heap.size ≤ b ∧ w.heap.size ≤ gc ∧ Kept w w' L := by
  have hlen : xs.length = n := by simpa using hr.len1
  have HL := Lib.hid hlen
  have HR := Lib.hid hr
  have HBe := Lib.hid hB
  have HLO := Lib.hid hlo
  have HF := Lib.hid hf
  have eg := hB.eg
  have HN := Lib.hid (fun W => SAt.new_ n (by omega) W)
  clear hlen hr hB hlo hf
  go_enter Tryz.func14, Tryz.ntmps14
  go_wp2_with fail
  refine (HN.out _).mono ?_
  rintro e w1 ⟨⟨b, gc, base, rfl, hS, h1, h2⟩, hb1⟩
  have HS := Lib.hid hS
  have HH := Lib.hid (And.intro h1 h2)
  have hlt := hS.lt
  have hbw := below_new w1 (.cells #[.pointer (some ⟨b, 0, none⟩), .slice A n c] 61)
  have hW : WkAt (w1.alloc (.cells #[.pointer (some ⟨b, 0, none⟩), .slice A n c] 61)) w1.heap.size base b gc n c A xs (stTo f xs 0 n) :=
    ⟨heap_alloc_new _ _, by rw [stTo_zero]; exact hS.low hbw, (HR.out.below hb1).below hbw, hlt.2.2.2, fun h0 ad e => by have := (HLO.out h0 ad e).1; omega⟩
  have hz := below_self hb1 hbw
  obtain ⟨w2, hw2⟩ : ∃ w2, w1.alloc (.cells #[.pointer (some ⟨b, 0, none⟩), .slice A n c] 61) = w2 := ⟨_, rfl⟩
  obtain ⟨wk, hwk⟩ : ∃ wk, w1.heap.size = wk := ⟨_, rfl⟩
  rw [hw2] at hW hbw hz
  rw [hwk] at hW
  have HW := Lib.hid hW
  have HZ := Lib.hid hz
  have HI := Lib.hid (HBe.out.first w2.heap.size w2 hz hz.size)
  have HLT := Lib.hid (show base ≤ wk ∧ wk < w2.heap.size ∧ b < base ∧ gc < base by have := hp_lt hW.box; omega)
  clear hS h1 h2 hb1 hlt hbw hW hz
  go_wp2_with fail
  try simp only [hw2, hwk]
  clear hw2 hwk
  obtain ⟨lo, hlo⟩ : ∃ lo, w2.heap.size = lo := ⟨_, rfl⟩
  have HLo := Lib.hid hlo
  rw [hlo] at HI HLT
  clear hlo
  go_loopw [29] (fun i wr => ∃ k : Nat, k ≤ n ∧ i = .int .i64 k ∧ I lo k wr ∧ WkAt wr wk base b gc n c A xs (stTo f xs k n) ∧ Kept w wr L ∧ lo ≤ wr.heap.size) (fun i _ => n - (intOf i).toNat)
  case atStart => exact ⟨0, Nat.zero_le _, rfl, HI.out, HW.out, Kept.of_below HZ.out _, by rw [← HLo.out]; exact Nat.le_refl _⟩
  case round =>
    obtain ⟨k, hk, rfl, hI, hW, hkp, hsz⟩ := hrel
    have HKP := Lib.hid hkp
    have HSZ := Lib.hid hsz
    have HWk := Lib.hid hW
    clear hkp hsz
    by_cases hlt : k < n
    · obtain ⟨x, hxk⟩ : ∃ x, xs[k]? = some x := ⟨_, List.getElem?_eq_getElem (by rw [HL.out]; exact hlt)⟩
      obtain ⟨ad, rfl, _, hcells⟩ := hW.rd.at_ hlt
      have hcx : wr.cell? (ad.add k) = some (.int .i64 x) := hcells _ (by rw [List.getElem?_map, hxk]; rfl)
      have HC := Lib.hid (fun W (h : Kept wr W []) => HBe.out.call lo k x W hxk (HBe.out.stays lo k wr W [] hI h (by simp)) (by have := HZ.out.size; rw [HLo.out] at this; exact this) (Nat.le_trans HSZ.out h.size))
      have HX := Lib.hid hxk
      have c0 := hW.c0
      have HK4 := Lib.hid (show ∀ W, Kept wr W L → WkAt W wk base b gc n c (some ad) xs (stTo f xs k n) from fun W hk4 => by
        have hb0 := HH.out.1
        have hg0 := HH.out.2
        have hl := HLT.out
        refine HWk.out.to hk4 (fun z hz => ⟨by have := HBe.out.far z hz; omega, fun h0 ad' e => ?_⟩) (HWk.out.sat.keep hk4 (fun z hz => by have := HBe.out.far z hz; omega))
        intro e2
        exact (HLO.out h0 ad' e).2 (e2 ▸ hz))
      have hlt' : (k : Int) < (n : Int) := by omega
      have hk0 : (0 : Int) ≤ (k : Int) := by omega
      clear hxk hcells hW hI
      go_wp2_with fail
      go_region_held3 (fun w' => w'.cell? ⟨wk, 0, none⟩ = some (.pointer (some ⟨b, 0, none⟩)))
        (first
          | exact c0
          | exact c04
          | exact c05
          | fail)
        (first
          | (go_at_fn g; refine (HC.out _ (by first | exact Kept.refl _ _ | exact (Kept.refl _ _).drew)).mono ?_; rintro e w4 ⟨⟨A4, k4, rfl, hrd4⟩, hI4, hk4⟩; have hk4' : Kept wr w4 L := (by first | exact hk4 | exact (Kept.refl _ _).drew.trans hk4); have hW4 := HK4.out w4 hk4'; have c04 := hW4.c0)
          | (go_at_call 32; refine (SAt.set base b gc n k _ (f x) A4 _ k4 _ hW4.sat hlt hrd4 (by have := HF.out x; omega) (by omega)).mono ?_; rintro e w5 ⟨rfl, hS5, hk5⟩; have hW5 := hW4.put hk5 hS5; have c05 := hW5.c0)
          | fail)
      have HI5 := Lib.hid (HBe.out.stays lo (k + 1) w4 w5 [b, gc] hI4 hk5 (fun z hz => by
        have hb0 := HH.out.1
        have hg0 := HH.out.2
        have hl := HLT.out
        simp only [List.mem_cons, List.not_mem_nil, or_false] at hz
        omega))
      rw [stTo_step HX.out hlt] at hW5
      have HW5 := Lib.hid hW5
      have HK5 := Lib.hid (show Kept w w5 L from (((HKP.out.trans hk4').moreS (T := L ++ [b, gc]) (fun z hz => List.mem_append_left _ hz)).trans (hk5.moreS (fun z hz => List.mem_append_right _ hz))).less (fun z hz => by
        have hb0 := HH.out.1
        have hg0 := HH.out.2
        rcases List.mem_append.1 hz with h | h
        · exact .inl h
        · simp only [List.mem_cons, List.not_mem_nil, or_false] at h
          right; omega))
      have HS5 := Lib.hid (show lo ≤ w5.heap.size from Nat.le_trans (Nat.le_trans HSZ.out hk4'.size) hk5.size)
      clear hk4 hk4' hI4 hW4 hrd4 hS5 hk5 hW5 c0 c04 c05
      go_wp2_with fail
      go_roundw
      case rel => exact ⟨k + 1, by omega, by go_num, HI5.out, HW5.out, HK5.out, HS5.out⟩
      case measure => simp [intOf]; omega
    · have hkn : k = n := by omega
      have HE := Lib.hid (show WkAt wr wk base b gc n c A xs (stOf f xs) by
        have := HWk.out
        rwa [hkn, stTo_end HL.out] at this)
      clear hW hI
      go_wp2_with fail
      refine bodyPost_ret (v := .tuple #[.pointer (some ⟨wk, 0, none⟩), .int .i64 0]) (by simp [results, go_sem]) rfl ?_
      exact ⟨wk, base, b, gc, rfl, HE.out, HH.out.1, HH.out.2, HKP.out⟩
end Go.Proofs.YtcbiaeeifclieaaGreatDoor
/- unshape's share and tails, walked. -/
namespace Go.Proofs.YtcbiaeeifclieaaGreatDoor
open Go.RowKit

theorem rd_kept {w w' : World} {size n : Nat} {A : Option Addr} {xs : List Value} {L : List Nat} (h : Rd w size A n xs) (hk : Kept w w' L) (hA : ∀ ad, A = some ad → ad.block ∉ L) : Rd w' size A n xs :=
  ⟨h.1, fun hn => by
    obtain ⟨ad, e, hlt, hc⟩ := h.2 hn
    refine ⟨ad, e, Nat.lt_of_lt_of_le hlt hk.size, fun j u hu => ?_⟩
    have := hc j u hu
    unfold World.cell? at this ⊢
    rw [show w'.heap[(ad.add j).block]? = w.heap[(ad.add j).block]? by rw [blockAdd]; exact hk.block _ hlt (hA ad e)]
    exact this⟩
theorem rdOne (w : World) (a : Int) (t : TypeId) : Rd (w.alloc (.cells #[.int .i64 a] t)) 1 (some ⟨w.heap.size, 0, none⟩) 1 (([a] : List Int).map (Value.int .i64)) := Rd.new_ w [.int .i64 a] t
set_option maxRecDepth 100000 in
set_option maxHeartbeats 2000000 in
theorem unShare_any (wk base b gc n c first last q k : Nat) (A Cd : Option Addr) (xs codes : List Int) (code : Int) (S : St) (w : World) (hW : WkAt w wk base b gc n c A xs S) (h1 : first ≤ last) (h2 : last < n) (hr : Rd w 1 Cd q (codes.map (Value.int .i64))) (hq : q ≤ 1000) (hcd : ∀ ad, Cd = some ad → ad.block ∉ [b, gc]) (hn : n ≤ 100000) :
    Calls Tryz.prog 38 #[.pointer (some ⟨wk, 0, none⟩), .int .i64 (first : Int), .int .i64 (last : Int), .int .i64 code, .slice Cd q k] w fun e w' => e = .returned (.tuple #[]) ∧ WkAt w' wk base b gc n c A xs (sShare S first last [code] codes) ∧ Kept w w' [b, gc] := by
  have c0 := hW.c0
  have HW := Lib.hid hW
  have hb1 := below_new w (.cells #[.int .i64 code] 3)
  have HS1 := Lib.hid (SAt.set base b gc n first S [code] _ 1 1 _ (hW.sat.low hb1) (by omega) (rdOne w code 3) (by omega) (by omega))
  have HR := Lib.hid (hr.below hb1)
  have HB1 := Lib.hid (Kept.of_below hb1 [b, gc])
  have HW1 := Lib.hid (hW.low hb1)
  have HF := Lib.hid (And.intro h1 h2)
  have HQ := Lib.hid hcd
  have hfl : (first : Int) < (n : Int) := by omega
  have hll : (last : Int) < (n : Int) := by omega
  clear hW hb1 hr h1 h2 hcd
  go_enter Tryz.func38, Tryz.ntmps38
  go_wp2_with fail
  refine HS1.out.mono ?_
  rintro e w1 ⟨rfl, hS1, hk1⟩
  have hW1 := HW1.out.put hk1 hS1
  have c1 := hW1.c0
  have HW2 := Lib.hid hW1
  have HK1 := Lib.hid (HB1.out.trans hk1)
  have HR1 := Lib.hid (rd_kept HR.out hk1 HQ.out)
  clear hS1 hk1 hW1 c0
  go_wp2_with fail
  refine (SAt.set base b gc n last _ codes Cd q k w1 HW2.out.sat (by have := HF.out; omega) HR1.out (by omega) (by omega)).mono ?_
  rintro e w2 ⟨rfl, hS2, hk2⟩
  have hW2 := HW2.out.put hk2 hS2
  have c2 := hW2.c0
  have HW3 := Lib.hid hW2
  have HK2 := Lib.hid (HK1.out.trans hk2)
  clear hS2 hk2 hW2 c1
  go_wp2_with fail
  have hj := SAt.join base b gc n first (last + 1) _ w2 HW3.out.sat (by have := HF.out; omega) (by have := HF.out; omega) (by omega)
  rw [Int.natCast_add, Int.natCast_one] at hj
  refine hj.mono ?_
  rintro e w3 ⟨rfl, hS3, hk3⟩
  have HW4 := Lib.hid (HW3.out.put hk3 hS3)
  have HK3 := Lib.hid (HK2.out.trans hk3)
  clear hS3 hk3 hj
  go_wp2_with fail
  refine bodyPost_end (v := .tuple #[]) (by simp [results, go_sem]) rfl ⟨rfl, ?_, HK3.out⟩
  exact HW4.out
/-- What tails leaves, a part of it done. -/
theorem tlS_hit {s y : Bool} {xs : List Int} {k : Nat} {a b : Int} {S : St} (h1 : xs[k]? = some a) (h2 : xs[k + 1]? = some b) (h : (backF a b s y).2 = true) : tlS s y (xs.drop k) k S = tlS s y (xs.drop (k + 2)) (k + 2) (sShare S k (k + 1) [(backF a b s y).1] []) := by
  rw [dropCons h1, dropCons h2, tlS, if_pos h]
theorem tlS_miss {s y : Bool} {xs : List Int} {k : Nat} {a b : Int} {S : St} (h1 : xs[k]? = some a) (h2 : xs[k + 1]? = some b) (h : (backF a b s y).2 = false) : tlS s y (xs.drop k) k S = tlS s y (xs.drop (k + 1)) (k + 1) S := by
  rw [dropCons h1, dropCons h2, tlS, if_neg (by rw [h]; simp)]
theorem tlS_end {s y : Bool} {xs : List Int} {k : Nat} {S : St} (h : xs.length ≤ k + 1) : tlS s y (xs.drop k) k S = S := by
  have hl : (xs.drop k).length ≤ 1 := by simp; omega
  match hd : xs.drop k, hl with
  | [], _ => rfl
  | [x], _ => rfl
set_option maxRecDepth 100000 in
set_option maxHeartbeats 4000000 in
theorem unTails_any (wk base b gc n c : Nat) (A : Option Addr) (xs : List Int) (s y : Bool) (S : St) (w : World) (hW : WkAt w wk base b gc n c A xs S) (hn : n ≤ 100000) :
    Calls Tryz.prog 16 #[.pointer (some ⟨wk, 0, none⟩), .bool s, .bool y] w fun e w' => e = .returned (.tuple #[]) ∧ WkAt w' wk base b gc n c A xs (tlS s y xs 0 S) ∧ Kept w w' [b, gc] := by
  have hlen : xs.length = n := by simpa using hW.rd.len1
  have HL := Lib.hid hlen
  have HW0 := Lib.hid hW
  clear hlen hW
  go_enter Tryz.func16, Tryz.ntmps16
  go_wp2_with fail
  go_loopw [6] (fun i wr => ∃ (k : Nat) (S' : St), k ≤ n ∧ i = .int .i64 (k : Int) ∧ tlS s y xs 0 S = tlS s y (xs.drop k) k S' ∧ WkAt wr wk base b gc n c A xs S' ∧ Kept w wr [b, gc]) (fun i _ => n - (intOf i).toNat)
  case atStart => exact ⟨0, S, Nat.zero_le _, rfl, rfl, HW0.out, Kept.refl _ _⟩
  case round =>
    obtain ⟨k, S', hk, rfl, hS, hW, hkp⟩ := hrel
    have HS := Lib.hid hS
    have HK := Lib.hid hkp
    have HW := Lib.hid hW
    have c1 := hW.c1
    clear hS hkp
    by_cases hlt : k + 1 < n
    · obtain ⟨a, ha⟩ : ∃ a, xs[k]? = some a := ⟨_, List.getElem?_eq_getElem (by rw [HL.out]; omega)⟩
      obtain ⟨d, hd⟩ : ∃ a, xs[k + 1]? = some a := ⟨_, List.getElem?_eq_getElem (by rw [HL.out]; omega)⟩
      obtain ⟨ad, rfl, _, hc⟩ := hW.rd.at_ (show k < n by omega)
      have ca : wr.cell? (ad.add k) = some (.int .i64 a) := hc _ (by rw [List.getElem?_map, ha]; rfl)
      have cd : wr.cell? ⟨ad.block, ad.off + (k + 1), none⟩ = some (.int .i64 d) := hW.rd.news (k + 1) _ (by rw [List.getElem?_map, hd]; rfl)
      have hi2 : (k : Int) < (n : Int) := by omega
      have hi3 : (0 : Int) ≤ (k : Int) + 1 := by omega
      have hwr : IntKind.i64.wrap ((k : Int) + 1) = (k : Int) + 1 := by rw [IntKind.wrap_i64]; omega
      have hi1 : (k : Int) + 1 < (n : Int) := by omega
      have hi0 : (0 : Int) ≤ (k : Int) := by omega
      have HA := Lib.hid ha
      have HD := Lib.hid hd
      obtain ⟨l, ok, hbk⟩ : ∃ l ok, backF a d s y = (l, ok) := ⟨_, _, rfl⟩
      have HB := Lib.hid (fun W => tlBack_any a d s y W)
      rw [hbk] at HB
      have HBK := Lib.hid hbk
      clear ha hd hc hW hbk
      go_wp2_with fail
      go_region_held3 (fun w' => w'.cell? ⟨wk, 1, none⟩ = some (.slice (some ad) n c) ∧ w'.cell? (ad.add k) = some (.int .i64 a) ∧ w'.cell? ⟨ad.block, ad.off + (k + 1), none⟩ = some (.int .i64 d))
        (first
          | exact ⟨c1, ca, cd⟩
          | exact ⟨cell_below hz4 c1, cell_below hz4 ca, cell_below hz4 cd⟩
          | fail)
        (first
          | (go_at_call 37; refine (HB.out _).mono ?_; rintro e w4 ⟨rfl, hb4⟩; have hz4 : Below wr.heap.size wr w4 := (by first | exact hb4 | exact below_self (Below.refl _ _).drew hb4))
          | fail)
      have HW4 := Lib.hid (HW.out.low hz4)
      have HK4 := Lib.hid (HK.out.trans (Kept.of_below hz4 _))
      clear hz4 hb4 c1 ca cd
      cases ok with
      | true =>
        have HN := Lib.hid (tlS_hit (s := s) (y := y) (S := S') HA.out HD.out (by rw [HBK.out]))
        rw [HBK.out] at HN
        have HSH := Lib.hid (unShare_any wk base b gc n c k (k + 1) 0 0 (some ad) none xs [] l S' w4 HW4.out (by omega) (by omega) Rd.nil_ (by omega) (fun _ h => by cases h) hn)
        rw [Int.natCast_add, Int.natCast_one] at HSH
        go_wp2_with fail
        refine HSH.out.mono ?_
        rintro e w5 ⟨rfl, hW5, hk5⟩
        have HW5 := Lib.hid hW5
        have HK5 := Lib.hid (HK4.out.trans hk5)
        clear hW5 hk5
        go_wp2_with fail
        go_roundw
        case rel => exact ⟨k + 2, _, by omega, by go_num, HS.out.trans HN.out, HW5.out, HK5.out⟩
        case measure => simp [intOf]; omega
      | false =>
        have HN := Lib.hid (tlS_miss (s := s) (y := y) (S := S') HA.out HD.out (by rw [HBK.out]))
        go_wp2_with fail
        go_roundw
        case rel => exact ⟨k + 1, S', by omega, by go_num, HS.out.trans HN.out, HW4.out, HK4.out⟩
        case measure => simp [intOf]; omega
    · have HE := Lib.hid (show tlS s y xs 0 S = S' by rw [HS.out]; exact tlS_end (by rw [HL.out]; omega))
      have hge : (n : Int) ≤ (k : Int) + 1 := by omega
      clear hW
      go_wp2_with fail
      refine bodyPost_end (v := .tuple #[]) (by simp [results, go_sem]) rfl ⟨rfl, ?_, HK.out⟩
      rw [HE.out]
      exact HW.out
end Go.Proofs.YtcbiaeeifclieaaGreatDoor
/- unshape's ligatures and clear, walked; what spaces answers. -/
namespace Go.Proofs.YtcbiaeeifclieaaGreatDoor
open Go.RowKit

def natZ (l : List Nat) : List Int := l.map fun (i : Nat) => (i : Int)
theorem natZ_app (l m : List Nat) : natZ (l ++ m) = natZ l ++ natZ m := by simp [natZ]
theorem natZ_len (l : List Nat) : (natZ l).length = l.length := by simp [natZ]
set_option maxRecDepth 100000 in
set_option maxHeartbeats 2000000 in
theorem unLigs_any (A : Option Addr) (n c : Nat) (xs : List Int) (w : World) (hr : Rd w 1 A n (xs.map (Value.int .i64))) (hn : n ≤ 100000) :
    Calls Tryz.prog 23 #[.slice A n c] w fun e w' => (∃ v, e = .returned v ∧ w'.ownsRow w.heap.size 3 1 v (ligsL xs).length ((natZ (ligsL xs)).map (Value.int .i64))) ∧ Below w.heap.size w w' := by
  have hlen : xs.length = n := by simpa using hr.len1
  have HL := Lib.hid hlen
  have HR := Lib.hid hr
  clear hlen hr
  go_enter Tryz.func23, Tryz.ntmps23
  go_wp2_with fail
  go_loopw [3, 8] (fun v i ws => ∃ k : Nat, k ≤ n ∧ i = .int .i64 (k : Int) ∧ ws.ownsRow w.heap.size 3 1 v (ligsTo xs k).length ((natZ (ligsTo xs k)).map (Value.int .i64)) ∧ Below w.heap.size w ws) (fun _ i _ => n - (intOf i).toNat)
  case atStart => exact ⟨0, Nat.zero_le _, rfl, World.ownsRow_nil _ _ _ _, Below.refl _ _⟩
  case round =>
    obtain ⟨k, hk, rfl, hown, hb⟩ := hrel
    obtain ⟨V, cv, rfl, hcv⟩ := own_form hown
    have HO := Lib.hid hown
    have HB := Lib.hid hb
    have hle := ligs_le xs k
    by_cases hlt : k < n
    · obtain ⟨x, hxk⟩ : ∃ x, xs[k]? = some x := ⟨_, List.getElem?_eq_getElem (by rw [HL.out]; exact hlt)⟩
      obtain ⟨ad, rfl, _, hc⟩ := (HR.out.below hb).at_ hlt
      have cx := hc _ (by rw [List.getElem?_map, hxk]; rfl)
      obtain ⟨v, hv⟩ : ∃ v, ligB x = v := ⟨_, rfl⟩
      have HG := Lib.hid (fun W => unLig_any x v hv W)
      have HS := Lib.hid (ligs_step hxk)
      rw [hv] at HS
      clear hxk hc hv hown hb
      cases v with
      | false =>
        go_wp2_with fail
        refine (HG.out _).mono ?_
        rintro e w4 ⟨rfl, hb4⟩
        have HB4 := Lib.hid (below_self HB.out hb4)
        have HO4 := Lib.hid (own_below HO.out hb4)
        clear hb4 cx
        go_wp2_with fail
        go_roundw
        case rel =>
          refine ⟨k + 1, by omega, by go_num, ?_, HB4.out⟩
          rw [HS.out]
          exact HO4.out
        case measure => simp [intOf]; omega
      | true =>
        go_wp2_with fail
        refine (HG.out _).mono ?_
        rintro e w4 ⟨rfl, hb4⟩
        have HB4 := Lib.hid (below_self HB.out hb4)
        have HO4 := Lib.hid (own_below HO.out hb4)
        have HZ4 := Lib.hid (show w.heap.size ≤ w4.heap.size from HB4.out.size)
        clear hb4 cx HO
        go_wp2_with (at_builtin; refine wpList_app rfl _ _ _ rfl cloneInt_slice (by decide) _ (ligsTo xs k).length _ rfl (HO4.out.alloc _) ⟨w4.heap.size, 0, none⟩ 1 1 [.int .i64 (k : Int)] rfl rfl (cells_new w4 [_] _) (oneInt _ _) (by omega) (by unfold maxLen; omega) (Nat.le_trans HZ4.out (by simp)) ?_; intro v1 w5 hown1 hg1 hat1)
        have HB5 := Lib.hid (below_app (HB4.out.alloc HZ4.out _) hg1 (HO4.out.alloc _) (Nat.le_trans HZ4.out (by simp)))
        have HO5 := Lib.hid hown1
        clear hg1 hat1 hown1
        go_roundw
        case rel =>
          refine ⟨k + 1, by omega, by go_num, ?_, HB5.out⟩
          rw [HS.out, if_pos trivial, natZ_app, List.map_append, List.length_append]
          exact HO5.out
        case measure => simp [intOf]; omega
    · have hkn : k = xs.length := by have := HL.out; omega
      subst hkn
      go_wp2_with fail
      go_ret
      exact ⟨⟨_, rfl, HO.out⟩, HB.out⟩
/-- What spaces leaves: cells as they should be, or a space is not there. -/
def SpAns (w' : World) (wk base b gc n c : Nat) (A : Option Addr) (xs : List Int) (r : Option St) (e : Ending) : Prop :=
  (r = none ∧ e = .returned (.int .i64 9)) ∨ ∃ S', r = some S' ∧ e = .returned (.int .i64 0) ∧ WkAt w' wk base b gc n c A xs S'
theorem spClear_no {xs : List Int} {m f : Nat} {S : St} {x : Int} (h : xs[f]? = some x) (hx : x ≠ 32) : spClear xs (m + 1) f S = none := by
  unfold spClear
  rw [if_neg (by rw [h]; simpa using hx)]
theorem spClear_yes {xs : List Int} {m f : Nat} {S : St} (h : xs[f]? = some 32) : spClear xs (m + 1) f S = spClear xs m (f + 1) (sSet S f []) := by
  rw [spClear, if_pos h]
set_option maxRecDepth 100000 in
set_option maxHeartbeats 4000000 in
theorem unClear_any (wk base b gc n c f m : Nat) (A : Option Addr) (xs : List Int) (S : St) (w : World) (hW : WkAt w wk base b gc n c A xs S) (hf : f + m ≤ n) (hn : n ≤ 100000) :
    Calls Tryz.prog 40 #[.pointer (some ⟨wk, 0, none⟩), .int .i64 (f : Int), .int .i64 (m : Int)] w fun e w' => SpAns w' wk base b gc n c A xs (spClear xs m f S) e ∧ Kept w w' [b, gc] := by
  have hlen : xs.length = n := by simpa using hW.rd.len1
  have HL := Lib.hid hlen
  have HW0 := Lib.hid hW
  have hwr : IntKind.i64.wrap ((f : Int) + (m : Int)) = (f : Int) + (m : Int) := by rw [IntKind.wrap_i64]; omega
  clear hlen hW
  go_enter Tryz.func40, Tryz.ntmps40
  go_wp2_with fail
  go_loopw [7] (fun i wr => ∃ (j : Nat) (S' : St), j ≤ m ∧ i = .int .i64 ((f + j : Nat) : Int) ∧ spClear xs m f S = spClear xs (m - j) (f + j) S' ∧ WkAt wr wk base b gc n c A xs S' ∧ Kept w wr [b, gc]) (fun i _ => f + m - (intOf i).toNat)
  case atStart => exact ⟨0, S, Nat.zero_le _, rfl, rfl, HW0.out, Kept.refl _ _⟩
  case round =>
    obtain ⟨j, S', hj, rfl, hS, hW, hkp⟩ := hrel
    have HS := Lib.hid hS
    have HK := Lib.hid hkp
    have HW := Lib.hid hW
    have c1 := hW.c1
    have c0 := hW.c0
    clear hS hkp
    by_cases hlt : j < m
    · obtain ⟨k, hk⟩ : ∃ k, f + j = k := ⟨_, rfl⟩
      obtain ⟨r, hr⟩ : ∃ r, m - j = r + 1 := ⟨m - j - 1, by omega⟩
      rw [hk, hr] at HS
      have hkn : k < n := by omega
      have hkm : (k : Int) < (f : Int) + (m : Int) := by omega
      have hki : (k : Int) < (n : Int) := by omega
      have hk0 : (0 : Int) ≤ (k : Int) := by omega
      obtain ⟨x, hxk⟩ : ∃ x, xs[k]? = some x := ⟨_, List.getElem?_eq_getElem (by rw [HL.out]; exact hkn)⟩
      obtain ⟨ad, rfl, _, hc⟩ := hW.rd.at_ hkn
      have cx : wr.cell? (ad.add k) = some (.int .i64 x) := hc _ (by rw [List.getElem?_map, hxk]; rfl)
      have HX := Lib.hid hxk
      have HKJ := Lib.hid hk
      have HRJ := Lib.hid hr
      rw [hk]
      clear hxk hc hW hk hr
      by_cases h32 : x = 32
      · subst h32
        have HY := Lib.hid (spClear_yes (m := r) (S := S') HX.out)
        have HSE := Lib.hid (SAt.set base b gc n k S' [] none 0 0 wr HW.out.sat hkn Rd.nil_ (by omega) (by omega))
        go_wp2_with fail
        refine HSE.out.mono ?_
        rintro e w5 ⟨rfl, hS5, hk5⟩
        have HW5 := Lib.hid (HW.out.put hk5 hS5)
        have HK5 := Lib.hid (HK.out.trans hk5)
        clear hS5 hk5 c0 c1 cx
        go_wp2_with fail
        go_roundw
        case rel =>
          refine ⟨j + 1, _, by omega, ?_, (HS.out.trans HY.out).trans ?_, HW5.out, HK5.out⟩
          · have := HKJ.out
            rw [show f + (j + 1) = k + 1 by omega]
            go_num
          · have := HKJ.out
            have := HRJ.out
            rw [show m - (j + 1) = r by omega, show f + (j + 1) = k + 1 by omega]
        case measure => have := HKJ.out; simp [intOf]; omega
      · have HN := Lib.hid (spClear_no (m := r) (S := S') HX.out h32)
        have g1 : (x != 32) = true := by simp [h32]
        clear h32
        go_wp2_with fail
        go_ret
        exact ⟨.inl ⟨HS.out.trans HN.out, rfl⟩, HK.out⟩
    · have hjm : j = m := by omega
      subst hjm
      have HE := Lib.hid (show spClear xs j f S = some S' by rw [HS.out, Nat.sub_self]; rfl)
      have hge : (f : Int) + (j : Int) ≤ ((f + j : Nat) : Int) := by omega
      obtain ⟨k, hk⟩ : ∃ k, f + j = k := ⟨_, rfl⟩
      rw [hk] at hge ⊢
      clear hW hk
      go_wp2_with fail
      go_ret
      exact ⟨.inr ⟨S', HE.out, rfl, HW.out⟩, HK.out⟩
end Go.Proofs.YtcbiaeeifclieaaGreatDoor
