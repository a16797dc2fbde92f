/- join.Forms: what its closure keeps in memory, and one call of it. -/
import Derived.Test.YtcjcimdembkbkaaJnG
import Derived.Deep.RegionWith
import Derived.Test.YtcjcimdembkbkaaJnA
import Derived.Test.YtcjcimdembkbkaaHp
namespace Go.Proofs.Ytcjcimdembkbkaa
open Go.RowKit

/-- What Forms keeps, from block s on: the types' box, the forms, their box, the place that waits, and whether the one ahead of it joins it. -/
structure JSt (w : World) (s : Nat) (A : Option Addr) (n c : Nat) (ts : List Int) (wv : Int) (av : Bool) (fs : List Int) : Prop where
  h0 : w.heap[s]? = some (.cells #[.slice A n c] 22 (0, 0))
  h1 : w.heap[s + 1]? = some (.cells (intsZ fs).toArray 3 (0, 0))
  h2 : w.heap[s + 2]? = some (.cells #[.slice (some ⟨s + 1, 0, none⟩) n n] 22 (0, 0))
  h3 : w.heap[s + 3]? = some (.cells #[.int .i64 wv] 3 (0, 0))
  h4 : w.heap[s + 4]? = some (.cells #[.bool av] 4 (0, 0))
  rd : Rd w 1 A n (ts.map (Value.int .i64))
  lo : 0 < n → ∀ ad, A = some ad → ad.block < s
  len : fs.length = n
section
variable {w : World} {s n c : Nat} {A : Option Addr} {ts fs : List Int} {wv : Int} {av : Bool}
theorem JSt.drew (h : JSt w s A n c ts wv av fs) : JSt w.drew s A n c ts wv av fs := ⟨h.h0, h.h1, h.h2, h.h3, h.h4, h.rd, h.lo, h.len⟩
theorem JSt.fill (h : JSt w s A n c ts wv av fs) (i : Nat) (x : Int) : JSt (w.setCell ⟨s + 1, i, none⟩ (.int .i64 x)) s A n c ts wv av (fs.set i x) :=
  ⟨(hp_far (by omega) _ _).trans h.h0, hp_row h.h1 i x, (hp_far (by omega) _ _).trans h.h2, (hp_far (by omega) _ _).trans h.h3, (hp_far (by omega) _ _).trans h.h4,
   h.rd.belowS h.lo ((Below.refl s w).setCell (p := ⟨s + 1, i, none⟩) (by simp) _), h.lo, by rw [List.length_set]; exact h.len⟩
theorem JSt.wait (h : JSt w s A n c ts wv av fs) (x : Int) : JSt (w.setCell ⟨s + 3, 0, none⟩ (.int .i64 x)) s A n c ts x av fs :=
  ⟨(hp_far (by omega) _ _).trans h.h0, (hp_far (by omega) _ _).trans h.h1, (hp_far (by omega) _ _).trans h.h2, heap_setCell_same w (s + 3) 0 _ _ _ h.h3, (hp_far (by omega) _ _).trans h.h4,
   h.rd.belowS h.lo ((Below.refl s w).setCell (p := ⟨s + 3, 0, none⟩) (by simp) _), h.lo, h.len⟩
theorem JSt.next (h : JSt w s A n c ts wv av fs) (x : Bool) : JSt (w.setCell ⟨s + 4, 0, none⟩ (.bool x)) s A n c ts wv x fs :=
  ⟨(hp_far (by omega) _ _).trans h.h0, (hp_far (by omega) _ _).trans h.h1, (hp_far (by omega) _ _).trans h.h2, (hp_far (by omega) _ _).trans h.h3, heap_setCell_same w (s + 4) 0 _ _ _ h.h4,
   h.rd.belowS h.lo ((Below.refl s w).setCell (p := ⟨s + 4, 0, none⟩) (by simp) _), h.lo, h.len⟩
end
set_option maxRecDepth 100000 in
set_option maxHeartbeats 2000000 in
theorem settle_any (s n c : Nat) (A : Option Addr) (ts fs fs' : List Int) (wv : Int) (av b : Bool) (hfs : jFill ts fs wv av b = fs') (w : World) (hS : JSt w s A n c ts wv av fs) (hwv : wv = -1 ∨ 0 ≤ wv ∧ wv < n) (hn : n ≤ 1000000) :
    Calls Try.prog 38 #[.bool b, .pointer (some ⟨s + 3, 0, none⟩), .pointer (some ⟨s, 0, none⟩), .pointer (some ⟨s + 4, 0, none⟩), .pointer (some ⟨s + 2, 0, none⟩)] w fun e w' => (∃ v, e = .returned v) ∧ JSt w' s A n c ts wv b fs' ∧ Below s w w' := by
  have c0 : w.cell? ⟨s, 0, none⟩ = some (.slice A n c) := hp_cell hS.h0 rfl
  have c2 : w.cell? ⟨s + 2, 0, none⟩ = some (.slice (some ⟨s + 1, 0, none⟩) n n) := hp_cell hS.h2 rfl
  have c3 : w.cell? ⟨s + 3, 0, none⟩ = some (.int .i64 wv) := hp_cell hS.h3 rfl
  have c4 : w.cell? ⟨s + 4, 0, none⟩ = some (.bool av) := hp_cell hS.h4 rfl
  have f4 := hp_froz hS.h4 0
  have hsz := hp_lt hS.h4
  have hlen : ts.length = n := by simpa using hS.rd.len1
  rcases hwv with rfl | ⟨h0, h1⟩
  · obtain rfl : fs = fs' := by rw [← hfs]; exact (if_neg (fun h => absurd h.1 (by decide))).symm
    have HN := Lib.hid (hS.next b)
    have HB := Lib.hid ((Below.refl s w).setCell (p := ⟨s + 4, 0, none⟩) (by simp) (.bool b))
    clear hS hfs hlen
    go_enter Try.func38, Try.ntmps38
    go_wp2_with fail
    go_end0
    exact ⟨⟨_, rfl⟩, HN.out, HB.out⟩
  · obtain ⟨k0, rfl⟩ : ∃ k0 : Nat, wv = k0 := ⟨wv.toNat, by omega⟩
    obtain ⟨t, htk⟩ : ∃ s, ts[k0]? = some s := ⟨_, List.getElem?_eq_getElem (by omega)⟩
    have hcell := hS.rd.at_ (show k0 < n by omega)
    obtain ⟨ad, rfl, hab, hc⟩ := hcell
    have cs : w.cell? (ad.add k0) = some (.int .i64 t) := hc _ (by rw [List.getElem?_map, htk]; rfl)
    have HF := Lib.hid (jnFormed_any t w)
    obtain ⟨fb, hfb⟩ : ∃ fb, formedB t = fb := ⟨_, rfl⟩
    rw [hfb] at HF
    cases fb with
    | false =>
      obtain rfl : fs = fs' := by
        rw [← hfs]
        refine (if_neg (fun h => ?_)).symm
        have h2 := h.2
        rw [Int.toNat_natCast] at h2
        simp [htk, hfb] at h2
      have HN := Lib.hid (hS.next b)
      have HB := Lib.hid ((Below.refl s w).setCell (p := ⟨s + 4, 0, none⟩) (by simp) (.bool b))
      clear hS hfs hlen hc htk hfb
      go_enter Try.func38, Try.ntmps38
      go_wp2_with (first
        | (go_at_call 39; with_reducible refine HF.out.mono ?_; rintro e w1 ⟨rfl, rfl⟩)
        | fail)
      go_end0
      exact ⟨⟨_, rfl⟩, HN.out, HB.out⟩
    | true =>
      obtain rfl : fs.set k0 (formK av b) = fs' := by
        rw [← hfs]
        unfold jFill
        rw [if_pos ⟨h0, by rw [Int.toNat_natCast]; simp [htk, hfb]⟩, Int.toNat_natCast]
      obtain ⟨fk, hfk⟩ : ∃ fk, formK av b = fk := ⟨_, rfl⟩
      have HK := Lib.hid (fun w => jnForm_any av b w)
      rw [hfk] at HK ⊢
      obtain ⟨x0, hx0⟩ : ∃ x, fs[k0]? = some x := ⟨_, List.getElem?_eq_getElem (by rw [hS.len]; omega)⟩
      have c1 : w.cell? ⟨s + 1, k0, none⟩ = some (.int .i64 x0) := hp_cell hS.h1 (by simp [intsZ, hx0])
      have f1 := hp_froz hS.h1 k0
      have h2 := (hS.fill k0 fk).drew
      have d4 : (w.setCell ⟨s + 1, k0, none⟩ (.int .i64 fk)).drew.cell? ⟨s + 4, 0, none⟩ = some (.bool av) := hp_cell h2.h4 rfl
      have g4 := hp_froz h2.h4 0
      have HN := Lib.hid (h2.next b)
      have HB := Lib.hid ((((Below.refl s w).setCell (p := ⟨s + 1, k0, none⟩) (by simp) (.int .i64 fk)).drew).setCell (p := ⟨s + 4, 0, none⟩) (by simp) (.bool b))
      clear hS hfs hlen hc htk hfb hx0 hfk h2
      go_enter Try.func38, Try.ntmps38
      go_wp2_with (first
        | (go_at_call 39; with_reducible refine HF.out.mono ?_; rintro e w1 ⟨rfl, rfl⟩)
        | fail)
      go_region_with (go_at_call 40; refine (HK.out _).mono ?_; rintro e w' ⟨rfl, rfl⟩)
      all_goals
        go_wp2
        go_end0
        exact ⟨⟨_, rfl⟩, HN.out, HB.out⟩
end Go.Proofs.Ytcjcimdembkbkaa
