/- slices.BinarySearchFunc at stops, by where they are: how many are ahead of a place. -/
import Derived.Test.YtdgomaoikeffhaaBrS2
namespace Go.Proofs.Ytdgomaoikeffhaa
open Go.RowKit Go.Shelf

/-- What the comparison tells. -/
def CmpHi (g : FuncId) : Prop := ∀ (s : Int × Int × Int) (hi : Int) (w : World), Calls Try.prog g #[.agg #[.int .i64 s.1, .int .i64 s.2.1, .int .i64 s.2.2], .int .i64 hi] w fun e w' => e = .returned (.int .i64 (cmpI s.1 hi)) ∧ Below w.heap.size w w'
set_option maxRecDepth 100000 in
theorem brAt_any : CmpHi 43 := by
  intro s hi w
  obtain ⟨a, b, c⟩ := s
  have HB := Lib.hid (below_new w (.cells #[.int .i64 a, .int .i64 b, .int .i64 c] 66))
  go_enter Try.func43, Try.ntmps43
  go_wp2_with (go_at_call 41; refine (cmpI_any _ _ _).mono ?_; rintro e w' ⟨rfl, rfl⟩)
  go_ret
  exact ⟨rfl, HB.out⟩
theorem egBrAt : ∀ args w, (callFunc 43 args).run Try.prog w = .ok (.enter 43 args) w := enters_of Try.func43 (by kernel_rfl) rfl
theorem cmpI_lt0 (x y : Int) : decide (cmpI x y < 0) = decide (x < y) := by rw [decide_eq_decide]; exact cmpI_neg x y
/-- How many stops are ahead of a place. -/
def BinAns (w w' : World) (L : List (Int × Int × Int)) (hi : Int) (e : Ending) : Prop :=
  ∃ (i : Nat) (b : Bool), e = .returned (.tuple #[.int .i64 (i : Int), .bool b]) ∧ i ≤ L.length ∧ (∀ (j : Nat) s, j < i → L[j]? = some s → s.1 < hi) ∧ (∀ (j : Nat) s, i ≤ j → L[j]? = some s → hi ≤ s.1) ∧ Below w.heap.size w w'
theorem Rd.stop {w : World} {A : Option Addr} {n k : Nat} {l : List (Int × Int × Int)} {s : Int × Int × Int} (hr : Rd w 3 A n (cellsT l)) (h : l[k]? = some s) : ∃ ad, A = some ad ∧ ad.block < w.heap.size ∧ w.cell? (ad.add (k * 3)) = some (.int .i64 s.1) ∧
    w.cell? ⟨(ad.add (k * 3)).block, (ad.add (k * 3)).off + 1, none⟩ = some (.int .i64 s.2.1) ∧ w.cell? ⟨(ad.add (k * 3)).block, (ad.add (k * 3)).off + 2, none⟩ = some (.int .i64 s.2.2) := by
  have hlen : l.length * 3 = n * 3 := by rw [← cellsT_len]; exact hr.1
  have hk := (List.getElem?_eq_some_iff.1 h).1
  obtain ⟨ad, rfl, hb, hc⟩ := hr.2 (by omega)
  obtain ⟨e0, e1, e2⟩ := cellsT_at h
  have h1 := hc _ _ e1
  have h2 := hc _ _ e2
  rw [addNext ad (k * 3) 0] at h1
  rw [addNext ad (k * 3) 1] at h2
  exact ⟨ad, rfl, hb, hc _ _ e0, h1, h2⟩
set_option maxRecDepth 100000 in
set_option maxHeartbeats 4000000 in
theorem binT_any (f : FuncId) (eg : ∀ args w, (callFunc f args).run Try.prog w = .ok (.enter f args) w) (hf : CmpHi f) (A : Option Addr) (n c : Nat) (L : List (Int × Int × Int)) (hi : Int) (w : World) (hr : Rd w 3 A n (cellsT L)) (hn : n ≤ 100000)
    (hm : ∀ (i j : Nat) s t, i ≤ j → L[i]? = some s → L[j]? = some t → s.1 ≤ t.1) :
    Calls Try.prog 42 #[.slice A n c, .int .i64 hi, .func (.func f) #[] #[]] w fun e w' => BinAns w w' L hi e := by
  have hl : L.length = n := by have := hr.1; rw [cellsT_len] at this; omega
  have HL := Lib.hid hl
  have HR := Lib.hid hr
  have HM := Lib.hid hm
  have HF := Lib.hid hf
  clear hr hm hf hl
  go_enter Try.func42, Try.ntmps42
  go_wp2
  go_loopw [9, 10] (fun s9 s10 wr => ∃ lo up : Nat, s9 = .int .i64 (lo : Int) ∧ s10 = .int .i64 (up : Int) ∧ lo ≤ up ∧ up ≤ n ∧ (Hid ((∀ (j : Nat) s, j < lo → L[j]? = some s → s.1 < hi) ∧ (∀ (j : Nat) s, up ≤ j → L[j]? = some s → hi ≤ s.1))) ∧ Below w.heap.size w wr) (fun s9 s10 _ => (intOf s10 - intOf s9).toNat)
  case atStart => exact ⟨0, n, rfl, rfl, Nat.zero_le _, Nat.le_refl _, Lib.hid ⟨fun j s h => by omega, fun j s h hs => by have := (List.getElem?_eq_some_iff.1 hs).1; rw [HL.out] at this; omega⟩, Below.refl _ _⟩
  case round =>
    obtain ⟨lo, up, rfl, rfl, hlu, hun, I, hb⟩ := hrel
    have HB := Lib.hid hb
    by_cases hlt : lo < up
    · obtain ⟨s, hs⟩ : ∃ s, L[(lo + up) / 2]? = some s := ⟨_, List.getElem?_eq_getElem (by rw [HL.out]; omega)⟩
      obtain ⟨ad, rfl, hab, c0, c1, c2⟩ := (HR.out.below hb).stop hs
      have HS := Lib.hid hs
      have hcall := HF.out s hi wr
      clear hs hb
      by_cases hx : s.1 < hi
      · have hc : cmpI s.1 hi < 0 := (cmpI_neg _ _).2 hx
        have I2 : Hid ((∀ (j : Nat) t, j < (lo + up) / 2 + 1 → L[j]? = some t → t.1 < hi) ∧ (∀ (j : Nat) t, up ≤ j → L[j]? = some t → hi ≤ t.1)) := Lib.hid ⟨fun j t hj ht => by have := HM.out j ((lo + up) / 2) t s (by omega) ht HS.out; omega, I.out.2⟩
        clear hx
        go_wp2_with (go_at_fn f; refine hcall.mono ?_; rintro e w1 ⟨rfl, hb1⟩; have HB1 := Lib.hid (below_self HB.out hb1); clear hb1)
        go_roundw
        case rel => exact ⟨(lo + up) / 2 + 1, up, by rw [show ((lo : Int) + (up : Int)) / 2 + 1 = (((lo + up) / 2 + 1 : Nat) : Int) by omega], rfl, by omega, hun, I2, HB1.out⟩
        case measure => simp [intOf]; omega
      · have hc : ¬ cmpI s.1 hi < 0 := fun h => hx ((cmpI_neg _ _).1 h)
        have I2 : Hid ((∀ (j : Nat) t, j < lo → L[j]? = some t → t.1 < hi) ∧ (∀ (j : Nat) t, (lo + up) / 2 ≤ j → L[j]? = some t → hi ≤ t.1)) := Lib.hid ⟨I.out.1, fun j t hj ht => by have := HM.out ((lo + up) / 2) j s t (by omega) HS.out ht; omega⟩
        clear hx
        go_wp2_with (go_at_fn f; refine hcall.mono ?_; rintro e w1 ⟨rfl, hb1⟩; have HB1 := Lib.hid (below_self HB.out hb1); clear hb1)
        go_roundw
        case rel => exact ⟨lo, (lo + up) / 2, rfl, by rw [show ((lo : Int) + (up : Int)) / 2 = (((lo + up) / 2 : Nat) : Int) by omega], by omega, by omega, I2, HB1.out⟩
        case measure => simp [intOf]; omega
    · obtain rfl : up = lo := by omega
      by_cases hn2 : up < n
      · obtain ⟨s, hs⟩ : ∃ s, L[up]? = some s := ⟨_, List.getElem?_eq_getElem (by rw [HL.out]; omega)⟩
        obtain ⟨ad, rfl, hab, c0, c1, c2⟩ := (HR.out.below hb).stop hs
        have hcall := HF.out s hi wr
        obtain ⟨y, hy⟩ : ∃ y, cmpI s.1 hi = y := ⟨_, rfl⟩
        rw [hy] at hcall
        clear hs hb hy
        go_wp2_with (go_at_fn f; refine hcall.mono ?_; rintro e w1 ⟨rfl, hb1⟩; have HB1 := Lib.hid (below_self HB.out hb1); clear hb1)
        go_ret2
        exact ⟨up, _, rfl, by rw [HL.out]; exact hun, I.out.1, I.out.2, HB1.out⟩
      · go_wp2_with fail
        go_ret2
        exact ⟨up, _, rfl, by rw [HL.out]; exact hun, I.out.1, I.out.2, HB.out⟩
end Go.Proofs.Ytdgomaoikeffhaa
