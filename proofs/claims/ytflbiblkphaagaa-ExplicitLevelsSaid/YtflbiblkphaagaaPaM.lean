/- para's Matches, walked. -/
import Derived.Test.YtflbiblkphaagaaPaI
import Derived.Test.YtflbiblkphaagaaMem3
import Derived.Test.YtflbiblkphaagaaSpBlk
namespace Go.Proofs.Ytflbiblkphaagaa
open Go.RowKit

def intV (x : Int) : Value := .int .i64 x
theorem intSliceM : SliceOf Try.prog 55 3 1 8 := .mk_ (z := .int .i64 0) Try.underlying55 (by kernel_rfl) rfl
/-- The stack, as the program lays it: the first one first. -/
def stkL (s : List Nat) : List Int := s.reverse.map fun i => ((i : Nat) : Int)
theorem stkL_len (s : List Nat) : (stkL s).length = s.length := by simp [stkL]
theorem stkL_push (k : Nat) (s : List Nat) : stkL (k :: s) = stkL s ++ [((k : Nat) : Int)] := by simp [stkL]
theorem stkL_top (t : Nat) (r : List Nat) : (stkL (t :: r))[r.length]? = some ((t : Nat) : Int) := by
  rw [stkL_push, List.getElem?_append_right (by rw [stkL_len]; exact Nat.le_refl _), stkL_len, Nat.sub_self]
  rfl
theorem stkL_take (t : Nat) (r : List Nat) : (stkL (t :: r)).take r.length = stkL r := by
  rw [stkL_push, List.take_append_of_le_length (by rw [stkL_len]; exact Nat.le_refl _), ← stkL_len, List.take_length]
theorem pmS_open {xs : List Int} {k : Nat} {c : Int} {m : List Int} {s : List Nat} (h : pmS xs k = (m, s)) (hc : xs[k]? = some c) (ho : opB c = true) : pmS xs (k + 1) = ((m.set k (-1)).set k xs.length, k :: s) := by
  rw [pmS]; simp only [h, hc]; rw [if_pos ho]
theorem pmS_shut {xs : List Int} {k t : Nat} {m : List Int} {r : List Nat} (h : pmS xs k = (m, t :: r)) (hc : xs[k]? = some 22) : pmS xs (k + 1) = (((m.set k (-1)).set k t).set t k, r) := by
  rw [pmS]; simp only [h, hc]; rw [if_neg (by decide)]; rfl
theorem pmS_empty {xs : List Int} {k : Nat} {m : List Int} (h : pmS xs k = (m, [])) (hc : xs[k]? = some 22) : pmS xs (k + 1) = (m.set k (-1), []) := by
  rw [pmS]; simp only [h, hc]; rw [if_neg (by decide)]; rfl
theorem pmS_pass {xs : List Int} {k : Nat} {c : Int} {m : List Int} {s : List Nat} (h : pmS xs k = (m, s)) (hc : xs[k]? = some c) (ho : opB c = false) (h2 : c ≠ 22) : pmS xs (k + 1) = (m.set k (-1), s) := by
  rw [pmS]; simp only [h, hc]; rw [if_neg (by rw [ho]; decide), if_neg h2]
theorem headM {w : World} {base : Nat} {e : TypeId} {size g n m cap : Nat} {xs : List Value} (h : w.ownsRow base e size (.slice (some ⟨g, 0, none⟩) n cap) n xs) (hm : m ≤ n) : w.ownsRow base e size (.slice (some ⟨g, 0, none⟩) m cap) m (xs.take (m * size)) := by
  obtain ⟨h1, h2⟩ := h
  refine ⟨by rw [List.length_take, h1]; exact Nat.min_eq_left (Nat.mul_le_mul_right _ hm), ?_⟩
  rcases h2 with ⟨h', _⟩ | ⟨g', cap', cur, h', hb, hg, hnc, hcm, hcs, htake⟩
  · simp at h'
  · simp only [Value.slice.injEq, Option.some.injEq, Addr.mk.injEq, and_true, true_and] at h'
    obtain ⟨rfl, rfl⟩ := h'
    refine .inr ⟨g, cap, cur, rfl, hb, hg, Nat.le_trans hm hnc, hcm, hcs, ?_⟩
    rw [← htake, List.take_take, Nat.min_eq_left (Nat.mul_le_mul_right _ hm)]
/-- What lies in memory between two rounds: the answers' block, the stack. -/
structure MtAt (w0 w : World) (g n : Nat) (m : List Int) (v : Value) (s : List Nat) : Prop where
  ans : w.ownsRow w0.heap.size 3 1 (.slice (some ⟨g, 0, none⟩) n n) n (m.map (Value.int .i64))
  stk : w.ownsRow w0.heap.size 3 1 v s.length ((stkL s).map (Value.int .i64))
  ne : v.ownBlock ≠ some g
  low : Below w0.heap.size w0 w
section
variable {w0 w w' : World} {g n : Nat} {m : List Int} {v : Value} {s : List Nat}
theorem MtAt.set (h : MtAt w0 w g n m v s) (k : Nat) (x : Int) : MtAt w0 (w.setCell ⟨g, k, none⟩ (.int .i64 x)) g n (m.set k x) v s := by
  have h1 := h.ans.stored k (.int .i64 x)
  refine ⟨by rw [List.map_set]; exact h1.1, own_set_far h.stk h.ne, h.ne, h.low.setCell (p := ⟨g, k, none⟩) (h.ans.lt g rfl).1 _⟩
theorem MtAt.push (h : MtAt w0 w g n m v s) {k : Nat} {v' : Value} (hg : w.grownBy w' v.ownBlock) (hown : w'.ownsRow w0.heap.size 3 1 v' (s.length + 1) ((stkL s).map (Value.int .i64) ++ [.int .i64 (k : Int)])) (hat : v'.ownBlock = v.ownBlock ∨ ∃ b, v'.ownBlock = some b ∧ w.heap.size ≤ b) : MtAt w0 w' g n m v' (k :: s) := by
  refine ⟨h.ans.kept hg (.inr (fun e => h.ne e.symm)), by rw [stkL_push, List.map_append, List.length_cons]; exact hown, ?_, below_app h.low hg h.stk h.low.size⟩
  rcases hat with e | ⟨b, e, hb⟩
  · rw [e]; exact h.ne
  · intro e2
    rw [e] at e2
    have := (h.ans.lt g rfl).2
    have : b = g := by simpa using e2
    omega
theorem MtAt.pop {t : Nat} {r : List Nat} {b c : Nat} (h : MtAt w0 w g n m (.slice (some ⟨b, 0, none⟩) (r.length + 1) c) (t :: r)) : MtAt w0 w g n m (.slice (some ⟨b, 0, none⟩) r.length c) r := by
  have h1 := headM (m := r.length) h.stk (by simp)
  refine ⟨h.ans, ?_, h.ne, h.low⟩
  rw [Nat.mul_one, ← List.map_take, stkL_take] at h1
  exact h1
theorem MtAt.lowr (h : MtAt w0 w g n m v s) (hb : Below w.heap.size w w') : MtAt w0 w' g n m v s := ⟨own_below h.ans hb, own_below h.stk hb, h.ne, h.low.trans (hb.mono h.low.size)⟩
theorem MtAt.cell (h : MtAt w0 w g n m v s) {k : Nat} (hk : k < n) : (∃ u, w.cell? ⟨g, k, none⟩ = some u) ∧ w.frozen? ⟨g, k, none⟩ = false := own_slot h.ans (by omega)
end
set_option maxRecDepth 100000 in
set_option maxHeartbeats 4000000 in
theorem prMatches_any (A : Option Addr) (n c : Nat) (xs : List Int) (w : World) (hr : Rd w 1 A n (xs.map (Value.int .i64))) (hn : n ≤ 100000) :
    Calls Try.prog 45 #[.slice A n c] w fun e w' => ∃ v, e = .returned v ∧ w'.ownsRow w.heap.size 3 1 v n ((matF xs).map (Value.int .i64)) ∧ Below w.heap.size w w' := by
  have hlen : xs.length = n := by simpa using hr.len1
  have HL := Lib.hid hlen
  have HR := Lib.hid hr
  clear hlen hr
  go_enter Try.func45, Try.ntmps45
  go_wp2_with (first
    | (refine wpList_mkFull rfl _ _ _ rfl (base := w.heap.size) (e := 3) (bytes := 8) (z := .int .i64 0) Try.underlying55 (by kernel_rfl) rfl (n : Int) (n : Int) n rfl rfl rfl rfl (by omega) (by unfold maxLen; omega) (Nat.le_refl _) ?_; intro w1 hown1 hg1)
    | fail)
  have hgn : w.heap.size < w1.heap.size := (hown1.lt w.heap.size rfl).2
  obtain ⟨g, hg⟩ : ∃ g, w.heap.size = g := ⟨_, rfl⟩
  have HM0 : Hid (MtAt w w1 g n (List.replicate n 0) (.slice none 0 0) []) := Lib.hid ⟨by rw [List.map_replicate, ← hg]; exact hown1, ⟨rfl, .inl ⟨rfl, rfl⟩⟩, by simp [Value.ownBlock], below_make hg1⟩
  rw [hg]
  clear hown1 hg1
  go_wp2_with fail
  go_loopw [4, 13] (fun v i wr => ∃ k : Nat, k ≤ n ∧ i = .int .i64 (k : Int) ∧ MtAt w wr g n (pmS xs k).1 v (pmS xs k).2) (fun _ i _ => n - (intOf i).toNat)
  case atStart => exact ⟨0, Nat.zero_le _, rfl, by have := HM0.out; rw [pmS, HL.out]; exact this⟩
  case round =>
    obtain ⟨k, hk, rfl, hM⟩ := hrel
    have hsl := pmS_stack xs k
    obtain ⟨m, s, hms⟩ : ∃ m s, pmS xs k = (m, s) := ⟨_, _, rfl⟩
    have HS := Lib.hid hms
    rw [hms] at hM hsl
    simp only at hM hsl
    by_cases hlt : k < n
    · obtain ⟨x, hx⟩ : ∃ x, xs[k]? = some x := ⟨_, List.getElem?_eq_getElem (by rw [HL.out]; exact hlt)⟩
      obtain ⟨ad, rfl, hab, hcell⟩ := (HR.out.below hM.low).at_ hlt
      have cx : wr.cell? (ad.add k) = some (.int .i64 x) := hcell _ (by rw [List.getElem?_map, hx]; rfl)
      obtain ⟨⟨u, cu⟩, fu⟩ := hM.cell hlt
      have hM1 := hM.set k (-1)
      obtain ⟨⟨u1, cu1⟩, fu1⟩ := hM1.cell hlt
      have HM1 := Lib.hid hM1
      have HX := Lib.hid hx
      obtain ⟨o, ho⟩ : ∃ o, opB x = o := ⟨_, rfl⟩
      have HI := Lib.hid (fun W => prIso_of x o ho W)
      have HO := Lib.hid ho
      have hkn : (k : Int) < (n : Int) := by omega
      have hk0 : (0 : Int) ≤ (k : Int) := by omega
      clear hM hM1 hms hcell hx ho
      cases o with
      | true =>
        have HN := Lib.hid (pmS_open HS.out HX.out HO.out)
        rw [HL.out] at HN
        have HM2 := Lib.hid (HM1.out.set k (n : Int))
        have HNW := Lib.hid (cells_new ((wr.setCell ⟨g, k, none⟩ (.int .i64 (-1))).setCell ⟨g, k, none⟩ (.int .i64 (n : Int))) [.int .i64 (k : Int)] 3)
        have hsz2 : ((wr.setCell ⟨g, k, none⟩ (.int .i64 (-1))).setCell ⟨g, k, none⟩ (.int .i64 (n : Int))).heap.size = wr.heap.size := by simp [World.setCell]
        rw [hsz2] at HNW
        clear hsz2
        go_wp2_with (first
          | (go_at_call 52; with_reducible refine (HI.out _).mono ?_; rintro e w2 ⟨rfl, rfl⟩)
          | (at_builtin; refine wpList_app rfl _ _ _ rfl intSliceM (by decide) _ s.length _ rfl (HM2.out.stk.alloc _) ⟨wr.heap.size, 0, none⟩ 1 1 [.int .i64 (k : Int)] rfl rfl HNW.out (oneInt _ _) (by omega) (by unfold maxLen; omega) (Nat.le_trans HM2.out.low.size (by simp)) ?_; intro v1 w3 hown3 hg3 hat3)
          | fail)
        have HM3 := Lib.hid ((HM2.out.lowr (below_new _ _)).push (k := k) hg3 hown3 (by
          rcases hat3 with e | e
          · exact .inl e
          · exact .inr ⟨_, e, by simp⟩))
        clear hown3 hg3 hat3
        go_roundw
        case rel => exact ⟨k + 1, by omega, by go_num, by rw [HN.out]; exact HM3.out⟩
        case measure => simp [intOf]; omega
      | false =>
        by_cases h22 : x = 22
        · subst h22
          cases s with
          | nil =>
            have HN := Lib.hid (pmS_empty HS.out HX.out)
            obtain ⟨As, cs, hv, hcs⟩ := own_form HM1.out.stk
            simp only [List.length_nil] at hv
            subst hv
            go_wp2_with (first
              | (go_at_call 52; with_reducible refine (HI.out _).mono ?_; rintro e w2 ⟨rfl, rfl⟩)
              | fail)
            go_roundw
            case rel => exact ⟨k + 1, by omega, by go_num, by rw [HN.out]; exact HM1.out⟩
            case measure => simp [intOf]; omega
          | cons t r =>
            have HN := Lib.hid (pmS_shut HS.out HX.out)
            obtain ⟨gs, cs, rfl, hcs, hgs, hbs, hcell⟩ := own_at HM1.out.stk (by simp)
            have hct : (wr.setCell ⟨g, k, none⟩ (.int .i64 (-1))).cell? ⟨gs, r.length, none⟩ = some (.int .i64 (t : Int)) := hcell _ _ (by rw [List.getElem?_map, stkL_top]; rfl)
            have htk : t < k := by
              have h9 := (pmI_all xs k (by rw [HL.out]; omega)).st 0 t (by rw [HS.out]; rfl)
              exact h9.1
            have HM2 := Lib.hid (HM1.out.set k (t : Int))
            have HM3 := Lib.hid ((HM2.out.set t (k : Int)).pop)
            have HMX := Lib.hid (((HM1.out.set t (k : Int)).set k (t : Int)).pop)
            have HC := Lib.hid (show (((m.set k (-1)).set t (k : Int)).set k (t : Int)) = (((m.set k (-1)).set k (t : Int)).set t (k : Int)) from List.set_comm _ _ (by omega))
            have hne : gs ≠ g := fun e => HM1.out.ne (by rw [e]; rfl)
            obtain ⟨⟨u2, cu2⟩, fu2⟩ := HM1.out.cell (show t < n by omega)
            obtain ⟨⟨u3, cu3⟩, fu3⟩ := HM2.out.cell (show t < n by omega)
            have ht0 : (0 : Int) ≤ (t : Int) := by omega
            have htn : (t : Int) < (n : Int) := by omega
            have hrl : r.length + 1 ≤ 100000 := by simp at hsl; omega
            obtain ⟨q, hq⟩ : ∃ q, r.length = q := ⟨_, rfl⟩
            have hlr : (((t :: r).length : Nat) : Int) = (q : Int) + 1 := by simp; omega
            simp only [List.length_cons, hq] at *
            have hl1 : ((q : Int) + 1) - 1 = (q : Int) := by omega
            clear hcell
            go_wp2_with (first
              | (go_at_call 52; with_reducible refine (HI.out _).mono ?_; rintro e w2 ⟨rfl, rfl⟩)
              | fail)
            go_region
            have HM4 := Lib.hid (HM3.out.lowr (Below.refl _ _).drew)
            go_wp2_with fail
            go_roundw
            case rel => exact ⟨k + 1, by omega, by go_num, by rw [HN.out]; exact HM4.out⟩
            case measure => simp [intOf]; omega
        · have HN := Lib.hid (pmS_pass HS.out HX.out HO.out h22)
          have g22 : (x == 22) = false := by simp [h22]
          clear h22
          go_wp2_with (first
            | (go_at_call 52; with_reducible refine (HI.out _).mono ?_; rintro e w2 ⟨rfl, rfl⟩)
            | fail)
          go_roundw
          case rel => exact ⟨k + 1, by omega, by go_num, by rw [HN.out]; exact HM1.out⟩
          case measure => simp [intOf]; omega
    · obtain rfl : k = n := by omega
      have HZ := Lib.hid (show matF xs = m by unfold matF; rw [HL.out, HS.out])
      have HMM := Lib.hid hM
      clear hM hms
      go_wp2
      go_ret
      exact ⟨_, rfl, by rw [HZ.out]; exact HMM.out.ans, HMM.out.low⟩
end Go.Proofs.Ytflbiblkphaagaa
