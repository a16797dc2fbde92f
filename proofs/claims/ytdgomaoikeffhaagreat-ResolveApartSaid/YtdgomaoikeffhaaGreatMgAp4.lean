/- Texts of one claim, one behind the other. -/
import Derived.Test.YtdgomaoikeffhaaGreatMgAp1
import Derived.Test.YtdgomaoikeffhaaGreatMgAp2
import Derived.Test.YtdgomaoikeffhaaGreatMgAp3
/- para's Matches, walked. -/
namespace Go.Proofs.YtdgomaoikeffhaaGreat
open Go.RowKit
theorem pmS_open {xs : List Int} {k : Nat} {c : Int} {m : List Int} {s : List Nat} (h : pmS xs k = (m, s)) (hc : xs[k]? = some c) (ho : opB c = true) : pmS xs (k + 1) = ((m.set k (-1)).set k xs.length, k :: s) := by
  rw [pmS]; simp only [h, hc]; rw [if_pos ho]
theorem pmS_shut {xs : List Int} {k t : Nat} {m : List Int} {r : List Nat} (h : pmS xs k = (m, t :: r)) (hc : xs[k]? = some 22) : pmS xs (k + 1) = (((m.set k (-1)).set k t).set t k, r) := by
  rw [pmS]; simp only [h, hc]; rw [if_neg (by decide)]; rfl
theorem pmS_empty {xs : List Int} {k : Nat} {m : List Int} (h : pmS xs k = (m, [])) (hc : xs[k]? = some 22) : pmS xs (k + 1) = (m.set k (-1), []) := by
  rw [pmS]; simp only [h, hc]; rw [if_neg (by decide)]; rfl
theorem pmS_pass {xs : List Int} {k : Nat} {c : Int} {m : List Int} {s : List Nat} (h : pmS xs k = (m, s)) (hc : xs[k]? = some c) (ho : opB c = false) (h2 : c ≠ 22) : pmS xs (k + 1) = (m.set k (-1), s) := by
  rw [pmS]; simp only [h, hc]; rw [if_neg (by rw [ho]; decide), if_neg h2]
/-- What lies in memory between two rounds: the answers' block, the stack. -/
structure MtAt (w0 w : World) (g n : Nat) (m : List Int) (v : Value) (s : List Nat) : Prop where
  ans : w.ownsRow w0.heap.size 3 1 (.slice (some ⟨g, 0, none⟩) n n) n (m.map (Value.int .i64))
  stk : w.ownsRow w0.heap.size 3 1 v s.length ((stkL s).map (Value.int .i64))
  ne : v.ownBlock ≠ some g
  low : Below w0.heap.size w0 w
section
variable {w0 w w' : World} {g n : Nat} {m : List Int} {v : Value} {s : List Nat}
theorem MtAt.set (h : MtAt w0 w g n m v s) (k : Nat) (x : Int) : MtAt w0 (w.setCell ⟨g, k, none⟩ (.int .i64 x)) g n (m.set k x) v s := by
  have h1 := h.ans.stored k (.int .i64 x)
  refine ⟨by rw [List.map_set]; exact h1.1, own_set_far h.stk h.ne, h.ne, h.low.setCell (p := ⟨g, k, none⟩) (h.ans.lt g rfl).1 _⟩
theorem MtAt.push (h : MtAt w0 w g n m v s) {k : Nat} {v' : Value} (hg : w.grownBy w' v.ownBlock) (hown : w'.ownsRow w0.heap.size 3 1 v' (s.length + 1) ((stkL s).map (Value.int .i64) ++ [.int .i64 (k : Int)])) (hat : v'.ownBlock = v.ownBlock ∨ ∃ b, v'.ownBlock = some b ∧ w.heap.size ≤ b) : MtAt w0 w' g n m v' (k :: s) := by
  refine ⟨h.ans.kept hg (.inr (fun e => h.ne e.symm)), by rw [stkL_push, List.map_append, List.length_cons]; exact hown, ?_, below_app h.low hg h.stk h.low.size⟩
  rcases hat with e | ⟨b, e, hb⟩
  · rw [e]; exact h.ne
  · intro e2
    rw [e] at e2
    have := (h.ans.lt g rfl).2
    have : b = g := by simpa using e2
    omega
theorem MtAt.pop {t : Nat} {r : List Nat} {b c : Nat} (h : MtAt w0 w g n m (.slice (some ⟨b, 0, none⟩) (r.length + 1) c) (t :: r)) : MtAt w0 w g n m (.slice (some ⟨b, 0, none⟩) r.length c) r := by
  have h1 := headM (m := r.length) h.stk (by simp)
  refine ⟨h.ans, ?_, h.ne, h.low⟩
  rw [Nat.mul_one, ← List.map_take, stkL_take] at h1
  exact h1
theorem MtAt.lowr (h : MtAt w0 w g n m v s) (hb : Below w.heap.size w w') : MtAt w0 w' g n m v s := ⟨own_below h.ans hb, own_below h.stk hb, h.ne, h.low.trans (hb.mono h.low.size)⟩
theorem MtAt.cell (h : MtAt w0 w g n m v s) {k : Nat} (hk : k < n) : (∃ u, w.cell? ⟨g, k, none⟩ = some u) ∧ w.frozen? ⟨g, k, none⟩ = false := own_slot h.ans (by omega)
end
set_option maxRecDepth 100000 in
set_option maxHeartbeats 4000000 in
theorem prMatches_any (A : Option Addr) (n c : Nat) (xs : List Int) (w : World) (hr : Rd w 1 A n (xs.map (Value.int .i64))) (hn : n ≤ 100000) :
    Calls Tryz.prog 38 #[.slice A n c] w fun e w' => ∃ v, e = .returned v ∧ w'.ownsRow w.heap.size 3 1 v n ((matF xs).map (Value.int .i64)) ∧ Below w.heap.size w w' := by
  have hlen : xs.length = n := by simpa using hr.len1
  have HL := Lib.hid hlen
  have HR := Lib.hid hr
  clear hlen hr
  go_enter Tryz.func38, Tryz.ntmps38
  go_wp2_with (first
    | (refine wpList_mkFull rfl _ _ _ rfl (base := w.heap.size) (e := 3) (bytes := 8) (z := .int .i64 0) Tryz.underlying22 (by kernel_rfl) rfl (n : Int) (n : Int) n rfl rfl rfl rfl (by omega) (by unfold maxLen; omega) (Nat.le_refl _) ?_; intro w1 hown1 hg1)
    | fail)
  have hgn : w.heap.size < w1.heap.size := (hown1.lt w.heap.size rfl).2
  obtain ⟨g, hg⟩ : ∃ g, w.heap.size = g := ⟨_, rfl⟩
  have HM0 : Hid (MtAt w w1 g n (List.replicate n 0) (.slice none 0 0) []) := Lib.hid ⟨by rw [List.map_replicate, ← hg]; exact hown1, ⟨rfl, .inl ⟨rfl, rfl⟩⟩, by simp [Value.ownBlock], below_make hg1⟩
  rw [hg]
  clear hown1 hg1
  go_wp2_with fail
  go_loopw [4, 13] (fun v i wr => ∃ k : Nat, k ≤ n ∧ i = .int .i64 (k : Int) ∧ MtAt w wr g n (pmS xs k).1 v (pmS xs k).2) (fun _ i _ => n - (intOf i).toNat)
  case atStart => exact ⟨0, Nat.zero_le _, rfl, by have := HM0.out; rw [pmS, HL.out]; exact this⟩
  case round =>
    obtain ⟨k, hk, rfl, hM⟩ := hrel
    have hsl := pmS_stack xs k
    obtain ⟨m, s, hms⟩ : ∃ m s, pmS xs k = (m, s) := ⟨_, _, rfl⟩
    have HS := Lib.hid hms
    rw [hms] at hM hsl
    simp only at hM hsl
    by_cases hlt : k < n
    · obtain ⟨x, hx⟩ : ∃ x, xs[k]? = some x := ⟨_, List.getElem?_eq_getElem (by rw [HL.out]; exact hlt)⟩
      obtain ⟨ad, rfl, hab, hcell⟩ := (HR.out.below hM.low).at_ hlt
      have cx : wr.cell? (ad.add k) = some (.int .i64 x) := hcell _ (by rw [List.getElem?_map, hx]; rfl)
      obtain ⟨⟨u, cu⟩, fu⟩ := hM.cell hlt
      have hM1 := hM.set k (-1)
      obtain ⟨⟨u1, cu1⟩, fu1⟩ := hM1.cell hlt
      have HM1 := Lib.hid hM1
      have HX := Lib.hid hx
      obtain ⟨o, ho⟩ : ∃ o, opB x = o := ⟨_, rfl⟩
      have HI := Lib.hid (fun W => prIso_of x o ho W)
      have HO := Lib.hid ho
      have hkn : (k : Int) < (n : Int) := by omega
      have hk0 : (0 : Int) ≤ (k : Int) := by omega
      clear hM hM1 hms hcell hx ho
      cases o with
      | true =>
        have HN := Lib.hid (pmS_open HS.out HX.out HO.out)
        rw [HL.out] at HN
        have HM2 := Lib.hid (HM1.out.set k (n : Int))
        have HNW := Lib.hid (cells_new ((wr.setCell ⟨g, k, none⟩ (.int .i64 (-1))).setCell ⟨g, k, none⟩ (.int .i64 (n : Int))) [.int .i64 (k : Int)] 3)
        have hsz2 : ((wr.setCell ⟨g, k, none⟩ (.int .i64 (-1))).setCell ⟨g, k, none⟩ (.int .i64 (n : Int))).heap.size = wr.heap.size := by simp [World.setCell]
        rw [hsz2] at HNW
        clear hsz2
        go_wp2_with (first
          | (go_at_call 51; with_reducible refine (HI.out _).mono ?_; rintro e w2 ⟨rfl, rfl⟩)
          | (at_builtin; refine wpList_app rfl _ _ _ rfl intSliceM (by decide) _ s.length _ rfl (HM2.out.stk.alloc _) ⟨wr.heap.size, 0, none⟩ 1 1 [.int .i64 (k : Int)] rfl rfl HNW.out (oneInt _ _) (by omega) (by unfold maxLen; omega) (Nat.le_trans HM2.out.low.size (by simp)) ?_; intro v1 w3 hown3 hg3 hat3)
          | fail)
        have HM3 := Lib.hid ((HM2.out.lowr (below_new _ _)).push (k := k) hg3 hown3 (by
          rcases hat3 with e | e
          · exact .inl e
          · exact .inr ⟨_, e, by simp⟩))
        clear hown3 hg3 hat3
        go_roundw
        case rel => exact ⟨k + 1, by omega, by go_num, by rw [HN.out]; exact HM3.out⟩
        case measure => simp [intOf]; omega
      | false =>
        by_cases h22 : x = 22
        · subst h22
          cases s with
          | nil =>
            have HN := Lib.hid (pmS_empty HS.out HX.out)
            obtain ⟨As, cs, hv, hcs⟩ := own_form HM1.out.stk
            simp only [List.length_nil] at hv
            subst hv
            go_wp2_with (first
              | (go_at_call 51; with_reducible refine (HI.out _).mono ?_; rintro e w2 ⟨rfl, rfl⟩)
              | fail)
            go_roundw
            case rel => exact ⟨k + 1, by omega, by go_num, by rw [HN.out]; exact HM1.out⟩
            case measure => simp [intOf]; omega
          | cons t r =>
            have HN := Lib.hid (pmS_shut HS.out HX.out)
            obtain ⟨gs, cs, rfl, hcs, hgs, hbs, hcell⟩ := own_at HM1.out.stk (by simp)
            have hct : (wr.setCell ⟨g, k, none⟩ (.int .i64 (-1))).cell? ⟨gs, r.length, none⟩ = some (.int .i64 (t : Int)) := hcell _ _ (by rw [List.getElem?_map, stkL_top]; rfl)
            have htk : t < k := by
              have h9 := (pmI_all xs k (by rw [HL.out]; omega)).st 0 t (by rw [HS.out]; rfl)
              exact h9.1
            have HM2 := Lib.hid (HM1.out.set k (t : Int))
            have HM3 := Lib.hid ((HM2.out.set t (k : Int)).pop)
            have HMX := Lib.hid (((HM1.out.set t (k : Int)).set k (t : Int)).pop)
            have HC := Lib.hid (show (((m.set k (-1)).set t (k : Int)).set k (t : Int)) = (((m.set k (-1)).set k (t : Int)).set t (k : Int)) from List.set_comm _ _ (by omega))
            have hne : gs ≠ g := fun e => HM1.out.ne (by rw [e]; rfl)
            obtain ⟨⟨u2, cu2⟩, fu2⟩ := HM1.out.cell (show t < n by omega)
            obtain ⟨⟨u3, cu3⟩, fu3⟩ := HM2.out.cell (show t < n by omega)
            have ht0 : (0 : Int) ≤ (t : Int) := by omega
            have htn : (t : Int) < (n : Int) := by omega
            have hrl : r.length + 1 ≤ 100000 := by simp at hsl; omega
            obtain ⟨q, hq⟩ : ∃ q, r.length = q := ⟨_, rfl⟩
            have hlr : (((t :: r).length : Nat) : Int) = (q : Int) + 1 := by simp; omega
            simp only [List.length_cons, hq] at *
            have hl1 : ((q : Int) + 1) - 1 = (q : Int) := by omega
            clear hcell
            go_wp2_with (first
              | (go_at_call 51; with_reducible refine (HI.out _).mono ?_; rintro e w2 ⟨rfl, rfl⟩)
              | fail)
            go_region
            have HM4 := Lib.hid (HM3.out.lowr (Below.refl _ _).drew)
            go_wp2_with fail
            go_roundw
            case rel => exact ⟨k + 1, by omega, by go_num, by rw [HN.out]; exact HM4.out⟩
            case measure => simp [intOf]; omega
        · have HN := Lib.hid (pmS_pass HS.out HX.out HO.out h22)
          have g22 : (x == 22) = false := by simp [h22]
          clear h22
          go_wp2_with (first
            | (go_at_call 51; with_reducible refine (HI.out _).mono ?_; rintro e w2 ⟨rfl, rfl⟩)
            | fail)
          go_roundw
          case rel => exact ⟨k + 1, by omega, by go_num, by rw [HN.out]; exact HM1.out⟩
          case measure => simp [intOf]; omega
    · obtain rfl : k = n := by omega
      have HZ := Lib.hid (show matF xs = m by unfold matF; rw [HL.out, HS.out])
      have HMM := Lib.hid hM
      clear hM hms
      go_wp2
      go_ret
      exact ⟨_, rfl, by rw [HZ.out]; exact HMM.out.ans, HMM.out.low⟩
end Go.Proofs.YtdgomaoikeffhaaGreat
/- Brackets, one by one: one that is of its side already, and with it all marks behind it, is passed by; what comes of all is what the reference says. No function of the program. -/
namespace Go.Proofs.YtdgomaoikeffhaaGreat
open Go.RowKit

/-- From a on there are marks alone up to j. -/
def RchM (bf : List Int) (a j : Nat) : Prop := a ≤ j ∧ ∀ i, a < i → i ≤ j → bf[i]? = some 8
theorem RchM.self (bf : List Int) (a : Nat) : RchM bf a a := ⟨Nat.le_refl _, fun i h1 h2 => by omega⟩
theorem RchM.from {bf : List Int} {a b j : Nat} (h : RchM bf a j) (h1 : a ≤ b) (h2 : b ≤ j) : RchM bf b j := ⟨h2, fun i hi hj => h.2 i (by omega) hj⟩
theorem RchM.upto {bf : List Int} {a b j : Nat} (h : RchM bf a j) (h1 : a ≤ b) (h2 : b ≤ j) : RchM bf a b := ⟨h1, fun i hi hj => h.2 i hi (by omega)⟩
theorem RchM.trans {bf : List Int} {a b j : Nat} (h : RchM bf a b) (h' : RchM bf b j) : RchM bf a j := ⟨Nat.le_trans h.1 h'.1, fun i hi hj => if h2 : i ≤ b then h.2 i hi h2 else h'.2 i (by omega) hj⟩
theorem runS_in {bf : List Int} {s : Int} {j : Nat} : ∀ (f k : Nat) (o : List Int), o.length = bf.length → bf.length ≤ f + k → k ≤ j → (∀ i, k ≤ i → i ≤ j → bf[i]? = some 8) → (runS bf s f k o)[j]? = some s
  | 0, k, o, _, hf, hk, h => by
    have := (List.getElem?_eq_some_iff.1 (h j hk (Nat.le_refl _))).1
    omega
  | f + 1, k, o, ho, hf, hk, h => by
    rw [runS, if_pos (h k (Nat.le_refl _) hk)]
    by_cases e : k = j
    · subst e
      have hl := (List.getElem?_eq_some_iff.1 (h k (Nat.le_refl _) hk)).1
      have h1 : ∀ (f m : Nat) (o : List Int), k < m → (runS bf s f m o)[k]? = o[k]? := by
        intro f
        induction f with
        | zero => intro m o _; rfl
        | succ f ih =>
          intro m o hm
          rw [runS]
          split
          · rw [ih _ _ (by omega), List.getElem?_set_ne (by omega)]
          · rfl
      rw [h1 _ _ _ (by omega), List.getElem?_set_self (by omega)]
    · exact runS_in f (k + 1) _ (by rw [List.length_set]; exact ho) (by omega) (by omega) fun i h1 h2 => h i (by omega) h2
theorem runS_out {bf : List Int} {s : Int} {j : Nat} : ∀ (f k : Nat) (o : List Int), ¬ (k ≤ j ∧ ∀ i, k ≤ i → i ≤ j → bf[i]? = some 8) → (runS bf s f k o)[j]? = o[j]?
  | 0, _, _, _ => rfl
  | f + 1, k, o, h => by
    rw [runS]
    split
    · rename_i hk
      have e : k ≠ j := by
        rintro rfl
        exact h ⟨Nat.le_refl _, fun i h1 h2 => by rw [show i = k by omega]; exact hk⟩
      rw [runS_out f (k + 1) _ (fun h' => h ⟨by omega, fun i h1 h2 => if e2 : i = k then by rw [e2]; exact hk else h'.2 i (by omega) h2⟩), List.getElem?_set_ne e]
    · rfl
/-- A place, and the marks on it, become it. -/
def setW (bf : List Int) (s : Int) (a : Nat) (o : List Int) : List Int := runS bf s bf.length (a + 1) (o.set a s)
theorem setW_len (bf : List Int) (s : Int) (a : Nat) (o : List Int) : (setW bf s a o).length = o.length := by unfold setW; rw [runS_len, List.length_set]
theorem setW_in {bf : List Int} {s : Int} {a j : Nat} {o : List Int} (ho : o.length = bf.length) (ha : a < o.length) (h : RchM bf a j) : (setW bf s a o)[j]? = some s := by
  unfold setW
  by_cases e : a = j
  · subst e
    rw [runS_out _ _ _ (fun h => by omega), List.getElem?_set_self ha]
  · exact runS_in _ _ _ (by rw [List.length_set]; exact ho) (by omega) (by have := h.1; omega) fun i h1 h2 => h.2 i (by omega) h2
theorem setW_out {bf : List Int} {s : Int} {a j : Nat} {o : List Int} (h : ¬ RchM bf a j) : (setW bf s a o)[j]? = o[j]? := by
  unfold setW
  have e : a ≠ j := by rintro rfl; exact h (RchM.self _ _)
  rw [runS_out _ _ _ (fun h' => h ⟨by omega, fun i h1 h2 => h'.2 i (by omega) h2⟩), List.getElem?_set_ne e]
/-- One that is of the side already is passed by. -/
def setP (bf : List Int) (s : Int) (a : Nat) (o : List Int) : List Int := if o[a]? = some s then o else setW bf s a o
theorem setP_len (bf : List Int) (s : Int) (a : Nat) (o : List Int) : (setP bf s a o).length = o.length := by
  unfold setP
  split
  · rfl
  · exact setW_len ..
def n0Q (bf : List Int) (level sos : Int) (out : List Int) (p : Nat × Nat) : List Int :=
  if becF out p.1 p.2 level sos < 0 then out else setP bf (becF out p.1 p.2 level sos) p.2 (setP bf (becF out p.1 p.2 level sos) p.1 out)
def n0P (bf : List Int) (level sos : Int) (l : List Int) (ps : List (Nat × Nat)) : List Int := ps.foldl (n0Q bf level sos) l
theorem n0Q_len (bf : List Int) (level sos : Int) (out : List Int) (p : Nat × Nat) : (n0Q bf level sos out p).length = out.length := by
  unfold n0Q
  split
  · rfl
  · rw [setP_len, setP_len]
theorem ahd_in (l : List Int) : ∀ k, ahdF l k = -1 ∨ ahdF l k = 0 ∨ ahdF l k = 1
  | 0 => .inl rfl
  | k + 1 => by
    rw [ahdF]
    split
    · exact side_in _
    · exact ahd_in l k
theorem bec_in (l : List Int) (o c : Nat) (level sos : Int) : becF l o c level sos = -1 ∨ becF l o c level sos = 0 ∨ becF l o c level sos = 1 := by
  unfold becF
  split
  · exact .inr (ofL_in level)
  · split
    · exact .inl rfl
    · split
      · exact ahd_in l o
      · split
        · exact side_in sos
        · exact .inr (ofL_in level)
theorem n0S_eq {bf : List Int} {level sos : Int} {out : List Int} {p : Nat × Nat} (ho : out.length = bf.length) (h1 : p.1 < out.length) (h2 : p.2 < out.length) : n0S bf level sos out p = if becF out p.1 p.2 level sos < 0 then out else setW bf (becF out p.1 p.2 level sos) p.2 (setW bf (becF out p.1 p.2 level sos) p.1 out) := by
  unfold n0S
  split
  · rfl
  · generalize becF out p.1 p.2 level sos = s
    apply List.ext_getElem?
    intro j
    by_cases c2 : RchM bf p.2 j
    · rw [setW_in (by rw [setW_len]; exact ho) (by rw [setW_len]; exact h2) c2]
      by_cases e : p.2 = j
      · subst e
        rw [runS_out _ _ _ (fun h => by omega)]
        by_cases c1 : RchM bf (p.1 + 1) p.2 ∧ bf[p.1 + 1]? = some 8
        · exact runS_in _ _ _ (by simp [ho]) (by omega) c1.1.1 fun i a b => if e : i = p.1 + 1 then by rw [e]; exact c1.2 else c1.1.2 i (by omega) b
        · rw [runS_out _ _ _ (fun h => c1 ⟨⟨h.1, fun i a b => h.2 i (by omega) b⟩, h.2 _ (Nat.le_refl _) h.1⟩), List.getElem?_set_self (by simp; omega)]
      · exact runS_in _ _ _ (by rw [runS_len]; simp [ho]) (by omega) (by have := c2.1; omega) fun i a b => c2.2 i (by omega) b
    · rw [setW_out c2]
      have e : p.2 ≠ j := by rintro rfl; exact c2 (RchM.self _ _)
      rw [runS_out _ _ _ (fun h => c2 ⟨by omega, fun i a b => h.2 i (by omega) b⟩)]
      by_cases c1 : RchM bf p.1 j
      · rw [setW_in ho h1 c1]
        by_cases e1 : p.1 = j
        · subst e1
          rw [runS_out _ _ _ (fun h => by omega), List.getElem?_set_ne e, List.getElem?_set_self h1]
        · exact runS_in _ _ _ (by simp [ho]) (by omega) (by have := c1.1; omega) fun i a b => c1.2 i (by omega) b
      · rw [setW_out c1]
        have e1 : p.1 ≠ j := by rintro rfl; exact c1 (RchM.self _ _)
        rw [runS_out _ _ _ (fun h => c1 ⟨by omega, fun i a b => h.2 i (by omega) b⟩), List.getElem?_set_ne e, List.getElem?_set_ne e1]
/-- A bracket as it was, or one that was a mark on one that was set, and all marks behind it are as it is. -/
def FreshB (bf : List Int) (done : List (Nat × Nat)) (o : List Int) (b : Nat) : Prop :=
  o[b]? = some 13 ∨ ((∃ r ∈ done, RchM bf r.1 b ∨ RchM bf r.2 b) ∧ ∀ j, RchM bf b j → o[j]? = o[b]?)
theorem FreshB.more {bf : List Int} {done : List (Nat × Nat)} {o : List Int} {b : Nat} (h : FreshB bf done o b) (p : Nat × Nat) : FreshB bf (p :: done) o b :=
  h.imp id fun ⟨⟨r, hr, h1⟩, h2⟩ => ⟨⟨r, List.mem_cons_of_mem _ hr, h1⟩, h2⟩
theorem FreshB.setP {bf : List Int} {done : List (Nat × Nat)} {o : List Int} {b : Nat} {s : Int} (h : FreshB bf done o b) (hs : s ≠ 13) (ho : o.length = bf.length) (hb : b < o.length) : setP bf s b o = setW bf s b o := by
  unfold Go.Proofs.YtdgomaoikeffhaaGreat.setP
  split
  · rename_i he
    rcases h with h | ⟨_, h⟩
    · rw [he] at h
      exact absurd (Option.some.inj h) hs
    · apply List.ext_getElem?
      intro j
      by_cases c : RchM bf b j
      · rw [setW_in ho hb c, h j c, he]
      · rw [setW_out c]
  · rfl
theorem FreshB.setW {bf : List Int} {done : List (Nat × Nat)} {o : List Int} {a b : Nat} {s : Int} (h : FreshB bf done o b) (ho : o.length = bf.length) (ha : a < o.length) (hd : ∃ r ∈ done, a = r.1 ∨ a = r.2) (hp : b < a → RchM bf b a → o[b]? = some 13 ∨ o[b]? = some s) : FreshB bf done (setW bf s a o) b := by
  by_cases c : RchM bf a b
  · refine .inr ⟨?_, fun j hj => ?_⟩
    · obtain ⟨r, hr, rfl | rfl⟩ := hd
      · exact ⟨r, hr, .inl c⟩
      · exact ⟨r, hr, .inr c⟩
    · rw [setW_in ho ha c, setW_in ho ha (c.trans hj)]
  · by_cases h13 : o[b]? = some 13
    · exact .inl (by rw [setW_out c]; exact h13)
    · rcases h with h | ⟨h1, h2⟩
      · exact absurd h h13
      · refine .inr ⟨h1, fun j hj => ?_⟩
        rw [setW_out c]
        by_cases cj : RchM bf a j
        · rw [setW_in ho ha cj]
          have hlt : b < a := by
            rcases Nat.lt_or_ge b a with hlt | hge
            · exact hlt
            · exact absurd (cj.upto hge hj.1) c
          rcases hp hlt (hj.upto (Nat.le_of_lt hlt) cj.1) with h | h
          · exact absurd h h13
          · exact h.symm
        · rw [setW_out cj]
          exact h2 j hj
/-- Pairs apart, by where they open. -/
structure PrOk (n : Nat) (L : List (Nat × Nat)) : Prop where
  pair : ∀ p ∈ L, p.1 < p.2 ∧ p.2 < n
  sort : L.Pairwise (fun x y => x.1 < y.1)
  apart : ∀ p ∈ L, ∀ q ∈ L, p ≠ q → p.2 ≠ q.2 ∧ ¬ (p.1 < q.1 ∧ q.1 < p.2 ∧ p.2 < q.2)
theorem n0_same {bf : List Int} {level sos : Int} : ∀ (rest done : List (Nat × Nat)) (o : List Int), o.length = bf.length → PrOk bf.length (done.reverse ++ rest) → (∀ q ∈ rest, FreshB bf done o q.1 ∧ FreshB bf done o q.2) → n0P bf level sos o rest = n0F bf level sos o rest
  | [], _, _, _, _, _ => rfl
  | p :: rest, done, o, ho, hL, hF => by
    have hpm : p ∈ done.reverse ++ p :: rest := by simp
    obtain ⟨h1, h2⟩ := hL.pair p hpm
    have hsort := List.pairwise_append.1 hL.sort
    have hrest := List.pairwise_cons.1 hsort.2.1
    have hstep : n0Q bf level sos o p = n0S bf level sos o p ∧ ∀ q ∈ rest, FreshB bf (p :: done) (n0S bf level sos o p) q.1 ∧ FreshB bf (p :: done) (n0S bf level sos o p) q.2 := by
      rw [n0S_eq ho (by omega) (by omega)]
      unfold n0Q
      have hb := bec_in o p.1 p.2 level sos
      generalize becF o p.1 p.2 level sos = s at hb
      split
      · exact ⟨rfl, fun q hq => ⟨(hF q (by simp [hq])).1.more p, (hF q (by simp [hq])).2.more p⟩⟩
      · have hs : s ≠ 13 := by omega
        have hp := hF p (by simp)
        have hfst : ∀ b, p.1 < b → FreshB bf done o b → FreshB bf (p :: done) (setW bf s p.1 o) b := fun b hb h => (h.more p).setW ho (by omega) ⟨p, by simp, .inl rfl⟩ (fun h => by omega)
        have h13 : ∀ b, p.1 < b → FreshB bf done o b → b < p.2 → RchM bf b p.2 → (setW bf s p.1 o)[b]? = some 13 ∨ (setW bf s p.1 o)[b]? = some s := by
          intro b hpb hfr hbp _
          rcases hfst b hpb hfr with h | ⟨⟨r, hr, hrr⟩, _⟩
          · exact .inl h
          · refine .inr (setW_in ho (by omega) ?_)
            rcases List.mem_cons.1 hr with rfl | hr
            · rcases hrr with h | h
              · exact h
              · have := h.1; omega
            · have hr1 := hsort.2.2 r (by simpa using hr) p (by simp)
              rcases hrr with h | h
              · exact h.from (by omega) (by omega)
              · have hne : r ≠ p := by rintro rfl; omega
                have hap := hL.apart r (by simp [hr]) p hpm hne
                have := h.1
                exact h.from (by omega) (by omega)
        have hsnd : ∀ b, p.1 < b → FreshB bf done o b → FreshB bf (p :: done) (setW bf s p.2 (setW bf s p.1 o)) b := fun b hb h => (hfst b hb h).setW (by rw [setW_len]; exact ho) (by rw [setW_len]; omega) ⟨p, by simp, .inr rfl⟩ (h13 b hb h)
        refine ⟨?_, fun q hq => ?_⟩
        · rw [hp.1.setP hs ho (by omega), (hfst p.2 h1 hp.2).setP hs (by rw [setW_len]; exact ho) (by rw [setW_len]; omega)]
        · have hq1 := hrest.1 q hq
          have hq2 := (hL.pair q (by simp [hq])).1
          exact ⟨hsnd _ hq1 (hF q (by simp [hq])).1, hsnd _ (by omega) (hF q (by simp [hq])).2⟩
    show n0P bf level sos (n0Q bf level sos o p) rest = n0F bf level sos (n0S bf level sos o p) rest
    rw [hstep.1]
    exact n0_same rest (p :: done) _ (by rw [n0S_len]; exact ho) (by simpa using hL) hstep.2
theorem bkF_ok (cs l : List Int) : PrOk cs.length (bkF cs l) := by
  unfold bkF
  split
  · have h := bk_ok (fun i => decide (l.getD i 0 = 13)) (fun i => (braF (cs.getD i 0)).1) (fun o i => bmF (cs.getD o 0) (cs.getD i 0)) cs.length
    exact ⟨h.pair, h.sort, h.apart⟩
  · exact ⟨by simp, by simp, by simp⟩
theorem bk_same {cs l bf : List Int} {level sos : Int} (hl : l.length = bf.length) : n0P bf level sos l (bkF cs l) = n0F bf level sos l (bkF cs l) := by
  by_cases hc : cs.length = l.length
  · have hok := bkF_ok cs l
    rw [hc, hl] at hok
    refine n0_same _ [] l hl (by simpa using hok) fun q hq => ?_
    obtain ⟨a, b⟩ := bkF_on hq
    obtain ⟨h1, h2⟩ := hok.pair q hq
    constructor
    · refine .inl ?_
      rw [List.getD_eq_getElem?_getD, List.getElem?_eq_getElem (by omega)] at a
      rw [List.getElem?_eq_getElem (by omega)]
      simpa using a
    · refine .inl ?_
      rw [List.getD_eq_getElem?_getD, List.getElem?_eq_getElem (by omega)] at b
      rw [List.getElem?_eq_getElem (by omega)]
      simpa using b
  · have : bkF cs l = [] := if_neg hc
    rw [this]
    rfl
end Go.Proofs.YtdgomaoikeffhaaGreat
/- brack's sequence at work: its box, its classes, the classes before; set, walked. -/
namespace Go.Proofs.YtdgomaoikeffhaaGreat
open Go.RowKit

/-- A sequence whose brackets are being set. -/
structure BqAt (w0 w : World) (sb : Nat) (C D : Option Addr) (n c d : Nat) (level sos : Int) (o bf : List Int) : Prop where
  box : w.heap[sb]? = some (.cells #[.slice C n c, .slice D n d, .int .i64 level, .int .i64 sos] 124 (0, 0))
  row : w.ownsRow w0.heap.size 3 1 (.slice C n c) n (o.map (Value.int .i64))
  bef : Rd w 1 D n (bf.map (Value.int .i64))
  bel : 0 < n → ∀ ad, D = some ad → ad.block < w0.heap.size
  low : Below w0.heap.size w0 w
section
variable {w0 w w' : World} {sb n c d : Nat} {C D : Option Addr} {level sos : Int} {o bf : List Int}
theorem BqAt.len (h : BqAt w0 w sb C D n c d level sos o bf) : o.length = n ∧ bf.length = n := ⟨by have := h.row.1; simpa using this, by simpa using h.bef.len1⟩
theorem BqAt.lowr (h : BqAt w0 w sb C D n c d level sos o bf) (hb : Below w.heap.size w w') : BqAt w0 w' sb C D n c d level sos o bf :=
  ⟨(hb.block sb (hp_lt h.box)).trans h.box, own_below h.row hb, h.bef.below hb, h.bel, h.low.trans (hb.mono h.low.size)⟩
theorem BqAt.put {g : Nat} (h : BqAt w0 w sb (some ⟨g, 0, none⟩) D n c d level sos o bf) (j : Nat) (x : Int) : BqAt w0 (w.setCell ⟨g, j, none⟩ (.int .i64 x)) sb (some ⟨g, 0, none⟩) D n c d level sos (o.set j x) bf := by
  have hgb := (h.row.lt g rfl).1
  have hne : sb ≠ g := by
    rintro rfl
    obtain ⟨c1, h1⟩ := own_row h.row sb rfl
    rw [h.box] at h1
    simp at h1
  refine ⟨(hp_far hne _ _).trans h.box, ?_, h.bef.belowS h.bel ((Below.refl _ _).setCell (p := ⟨g, j, none⟩) hgb _), h.bel, h.low.setCell (p := ⟨g, j, none⟩) hgb _⟩
  rw [List.map_set]
  exact (h.row.stored j _).1
end
set_option maxRecDepth 100000 in
set_option maxHeartbeats 2000000 in
theorem bkSet_any (w0 w : World) (sb n c d a : Nat) (C D : Option Addr) (level sos s : Int) (o bf : List Int) (h : BqAt w0 w sb C D n c d level sos o bf) (ha : a < n) (hn : n ≤ 1000000) :
    Calls Tryz.prog 72 #[.pointer (some ⟨sb, 0, none⟩), .int .i64 (a : Int), .int .i64 s] w fun e w' => e = .returned (.tuple #[]) ∧ BqAt w0 w' sb C D n c d level sos (setP bf s a o) bf ∧ w.grownBy w' (Value.slice C n c).ownBlock := by
  obtain ⟨hol, hbl⟩ := h.len
  obtain ⟨g, c', hv, hnc, hgl, hgb, hcs⟩ := own_at h.row (show 0 < n by omega)
  simp only [Value.slice.injEq] at hv
  obtain ⟨rfl, -, rfl⟩ := hv
  obtain ⟨x, hx⟩ : ∃ x, o[a]? = some x := ⟨_, List.getElem?_eq_getElem (by omega)⟩
  have cx : w.cell? ⟨g, a, none⟩ = some (.int .i64 x) := hcs _ _ (by rw [List.getElem?_map, hx]; rfl)
  have c0 : w.cell? ⟨sb, 0, none⟩ = some (.slice (some ⟨g, 0, none⟩) n c) := hp_cell (j := 0) h.box rfl
  have fz : w.frozen? ⟨g, a, none⟩ = false := h.row.frozenAt a
  have hai : (a : Int) < (n : Int) := by omega
  have ha0 : (0 : Int) ≤ (a : Int) := by omega
  have H := Lib.hid h
  have HOL := Lib.hid hol
  have HBL := Lib.hid hbl
  clear h hol hbl hcs hgl hgb
  by_cases he : x = s
  · subst he
    have HE := Lib.hid (show setP bf x a o = o by unfold setP; rw [if_pos hx])
    clear hx
    go_enter Tryz.func72, Tryz.ntmps72
    go_wp2
    refine bodyPost_ret (results_none rfl _ _ _) rfl ⟨rfl, ?_, World.grownBy.refl _ _⟩
    rw [HE.out]
    exact H.out
  · have g1 : (x == s) = false := by simp [he]
    have HE := Lib.hid (show setP bf s a o = runS bf s bf.length (a + 1) (o.set a s) by
      unfold setP
      rw [if_neg (by rw [hx]; intro h; exact he (Option.some.inj h))]
      rfl)
    have HP := Lib.hid (H.out.put a s)
    clear hx he
    go_enter Tryz.func72, Tryz.ntmps72
    go_wp2
    have HG := Lib.hid (grown_set (World.grownBy.refl w (some g)) a (.int .i64 s))
    generalize w.setCell ⟨g, a, none⟩ (.int .i64 s) = w1 at HP HG
    go_loopw [6] (fun i wr => ∃ (k f : Nat) (o' : List Int), a + 1 ≤ k ∧ k ≤ n ∧ i = .int .i64 (k : Int) ∧ f + k = n + a + 1 ∧ runS bf s bf.length (a + 1) (o.set a s) = runS bf s f k o' ∧ BqAt w0 wr sb (some ⟨g, 0, none⟩) D n c d level sos o' bf ∧ w.grownBy wr (some g)) (fun i _ => n - (intOf i).toNat)
    case atStart => exact ⟨a + 1, n, o.set a s, Nat.le_refl _, ha, by go_num, by omega, by rw [HBL.out], HP.out, HG.out⟩
    case round =>
      obtain ⟨k, f, o', hak, hk, rfl, hf, hr, hD, hG⟩ := hrel
      have HG := Lib.hid hG
      have HR := Lib.hid hr
      have HD := Lib.hid hD
      have d0 : wr.cell? ⟨sb, 0, none⟩ = some (.slice (some ⟨g, 0, none⟩) n c) := hp_cell (j := 0) hD.box rfl
      have d1 : wr.cell? ⟨sb, 1, none⟩ = some (.slice D n d) := hp_cell (j := 1) hD.box rfl
      have fk : wr.frozen? ⟨g, k, none⟩ = false := hD.row.frozenAt k
      clear hr hD hG
      by_cases hlt : k < n
      · obtain ⟨y, hy⟩ : ∃ y, bf[k]? = some y := ⟨_, List.getElem?_eq_getElem (by rw [HBL.out]; exact hlt)⟩
        obtain ⟨ad, rfl, hab, hcell⟩ := HD.out.bef.at_ hlt
        have cy := hcell (.int .i64 y) (by rw [List.getElem?_map, hy]; rfl)
        have hki : (k : Int) < (n : Int) := by omega
        obtain ⟨f', rfl⟩ : ∃ f', f = f' + 1 := ⟨f - 1, by omega⟩
        clear hcell
        by_cases h8 : y = 8
        · subst h8
          have HN := Lib.hid (HR.out.trans (show runS bf s (f' + 1) k o' = runS bf s f' (k + 1) (o'.set k s) by rw [runS, if_pos hy]))
          have HP2 := Lib.hid (HD.out.put k s)
          have ck : ∃ z, wr.cell? ⟨g, k, none⟩ = some z := by
            have hkl : k < o'.length := by rw [HD.out.len.1]; exact hlt
            obtain ⟨g2, c2, hv2, _, _, _, hcs2⟩ := own_at HD.out.row (show 0 < n by omega)
            simp only [Value.slice.injEq, Option.some.injEq, Addr.mk.injEq, and_true, true_and] at hv2
            obtain ⟨rfl, rfl⟩ := hv2
            exact ⟨_, hcs2 k (.int .i64 (o'[k])) (by rw [List.getElem?_map, List.getElem?_eq_getElem hkl]; rfl)⟩
          obtain ⟨z, ck⟩ := ck
          clear hy
          go_wp2
          go_roundw
          case rel => exact ⟨k + 1, f', o'.set k s, by omega, by omega, by go_num, by omega, HN.out, HP2.out, grown_set HG.out _ _⟩
          case measure => simp [intOf]; omega
        · have g8 : (y == 8) = false := by simp [h8]
          have HN := Lib.hid (HR.out.trans (show runS bf s (f' + 1) k o' = o' by rw [runS, if_neg (by rw [hy]; intro h; exact h8 (Option.some.inj h))]))
          clear hy h8
          go_wp2
          refine bodyPost_end (v := .tuple #[]) (by simp [results, go_sem]) rfl ⟨rfl, ?_, HG.out⟩
          rw [HE.out, HN.out]
          exact HD.out
      · obtain rfl : k = n := by omega
        have HN := Lib.hid (HR.out.trans (show runS bf s f k o' = o' by
          cases f with
          | zero => rfl
          | succ f => rw [runS, if_neg (by rw [List.getElem?_eq_none (by rw [HBL.out]; exact Nat.le_refl _)]; intro h; cases h)]))
        go_wp2
        refine bodyPost_end (v := .tuple #[]) (by simp [results, go_sem]) rfl ⟨rfl, ?_, HG.out⟩
        rw [HE.out, HN.out]
        exact HD.out
end Go.Proofs.YtdgomaoikeffhaaGreat
/- Pairs as spans, in their places; how many; nothing more behind too many. No function of the program. -/
namespace Go.Proofs.YtdgomaoikeffhaaGreat
open Go.RowKit

/-- A pair in its place, by where it opens. -/
def insB : List Sp → Sp → List Sp
  | [], p => [p]
  | q :: l, p => if q.1 < p.1 then q :: insB l p else p :: q :: l
theorem insB_at {p : Sp} : ∀ {l : List Sp} {j : Nat}, (∀ t ∈ l.take j, t.1 < p.1) → (j = l.length ∨ ∃ t, l[j]? = some t ∧ ¬ t.1 < p.1) → insB l p = l.take j ++ p :: l.drop j
  | [], j, _, h => by
    rcases h with h | ⟨t, ht, _⟩
    · subst h; rfl
    · simp at ht
  | q :: l, 0, _, h => by
    rcases h with h | ⟨t, ht, hn⟩
    · simp at h
    · obtain rfl := Option.some.inj ht
      rw [insB, if_neg hn]
      rfl
  | q :: l, j + 1, h1, h => by
    rw [insB, if_pos (h1 q (by simp)), insB_at (j := j) (fun t ht => h1 t (by simp [ht])) (by
      rcases h with h | ⟨t, ht, hn⟩
      · exact .inl (by simpa using h)
      · exact .inr ⟨t, by simpa using ht, hn⟩)]
    rfl
theorem insB_len (p : Sp) : ∀ l : List Sp, (insB l p).length = l.length + 1
  | [] => rfl
  | q :: l => by
    rw [insB]
    split
    · simp [insB_len p l]
    · simp
/-- Pairs of places as spans. -/
def prL (out : List (Nat × Nat)) : List Sp := out.map fun p => ((p.1 : Int), (p.2 : Int))
theorem prL_len (out : List (Nat × Nat)) : (prL out).length = out.length := by simp [prL]
theorem prL_ins (p : Nat × Nat) : ∀ out : List (Nat × Nat), prL (insP out p) = insB (prL out) ((p.1 : Int), (p.2 : Int))
  | [] => rfl
  | q :: l => by
    rw [insP]
    by_cases h : q.1 < p.1
    · rw [if_pos h]
      have : prL (q :: insP l p) = ((q.1 : Int), (q.2 : Int)) :: prL (insP l p) := rfl
      rw [this, prL_ins p l]
      have : prL (q :: l) = ((q.1 : Int), (q.2 : Int)) :: prL l := rfl
      rw [this, insB, if_pos (by simp only; omega)]
    · rw [if_neg h]
      have : prL (q :: l) = ((q.1 : Int), (q.2 : Int)) :: prL l := rfl
      rw [this, insB, if_neg (by simp only; omega)]
      rfl
section
variable (on : Nat → Bool) (kd : Nat → Int) (mt : Nat → Nat → Bool)
theorem bk_outs : ∀ k, (bkA on kd mt k).out.length ≤ k
  | 0 => Nat.le_refl _
  | k + 1 => by
    have h := bk_outs k
    rw [bkA]
    generalize bkA on kd mt k = s at h
    unfold bkStep
    split
    · omega
    · split
      · split
        · simp only; omega
        · simp only; omega
      · split
        · omega
        · simp only
          rw [insP_len]
          omega
theorem bk_stopped {k : Nat} (h : (bkA on kd mt k).stop = true) : ∀ m, bkA on kd mt (k + m) = bkA on kd mt k
  | 0 => rfl
  | m + 1 => by
    rw [← Nat.add_assoc, bkA, bk_stopped h m, bkStep, if_pos (.inl h)]
variable {on : Nat → Bool} {kd : Nat → Int} {mt : Nat → Nat → Bool} {k : Nat} {st : List Nat} {out : List (Nat × Nat)}
theorem bk_pass (h : bkA on kd mt k = ⟨st, out, false⟩) (hc : on k = false ∨ kd k = 0) : bkA on kd mt (k + 1) = ⟨st, out, false⟩ := by
  rw [bkA, h, bkStep, if_pos (.inr hc)]
theorem bk_push (h : bkA on kd mt k = ⟨st, out, false⟩) (ho : on k = true) (hk : kd k = 1) (hl : st.length < 63) : bkA on kd mt (k + 1) = ⟨k :: st, out, false⟩ := by
  rw [bkA, h, bkStep, if_neg (by rw [ho, hk]; simp), if_pos hk, if_neg (by simp only; omega)]
theorem bk_full (h : bkA on kd mt k = ⟨st, out, false⟩) (ho : on k = true) (hk : kd k = 1) (hl : 63 ≤ st.length) {n : Nat} (hn : k < n) : (bkA on kd mt n).out = out := by
  have h1 : bkA on kd mt (k + 1) = ⟨st, out, true⟩ := by rw [bkA, h, bkStep, if_neg (by rw [ho, hk]; simp), if_pos hk, if_pos hl]
  have h2 := bk_stopped on kd mt (k := k + 1) (by rw [h1]) (n - (k + 1))
  rw [show k + 1 + (n - (k + 1)) = n by omega] at h2
  rw [h2, h1]
theorem bk_none (h : bkA on kd mt k = ⟨st, out, false⟩) (ho : on k = true) (h0 : kd k ≠ 0) (h1 : kd k ≠ 1) (hp : popTo (fun o => mt o k) st = none) : bkA on kd mt (k + 1) = ⟨st, out, false⟩ := by
  rw [bkA, h, bkStep, if_neg (by rw [ho]; simp [h0]), if_neg h1]
  simp only [hp]
theorem bk_some (h : bkA on kd mt k = ⟨st, out, false⟩) (ho : on k = true) (h0 : kd k ≠ 0) (h1 : kd k ≠ 1) {o : Nat} {r : List Nat} (hp : popTo (fun o => mt o k) st = some (o, r)) : bkA on kd mt (k + 1) = ⟨r, insP out (o, k), false⟩ := by
  rw [bkA, h, bkStep, if_neg (by rw [ho]; simp [h0]), if_neg h1]
  simp only [hp]
end
end Go.Proofs.YtdgomaoikeffhaaGreat
/- Spans put in order by their Lo, as plain mathematics: put in one by one; which order does not matter where they are parts. -/
namespace Go.Proofs.YtdgomaoikeffhaaGreat

def LoSorted (l : List Sp) : Prop := l.Pairwise fun a b => a.1 ≤ b.1
def insLo (acc : List Sp) (s : Sp) : List Sp := acc.takeWhile (fun t => decide (t.1 ≤ s.1)) ++ s :: acc.dropWhile (fun t => decide (t.1 ≤ s.1))
def sortR (l : List Sp) : List Sp := l.foldl insLo []
theorem insLo_at {acc : List Sp} {s : Sp} {j : Nat} (h1 : ∀ t ∈ acc.take j, t.1 ≤ s.1) (h2 : j = acc.length ∨ ∃ t, acc[j]? = some t ∧ ¬ t.1 ≤ s.1) : insLo acc s = acc.take j ++ s :: acc.drop j := by
  induction acc generalizing j with
  | nil => simp [insLo]
  | cons a acc ih =>
    cases j with
    | zero =>
      rcases h2 with h2 | ⟨t, ht, hn⟩
      · simp at h2
      · simp at ht
        subst ht
        have hd : decide (a.1 ≤ s.1) = false := decide_eq_false hn
        simp [insLo, List.takeWhile, List.dropWhile, hd]
    | succ j =>
      have ha := h1 a (by simp)
      have hd : decide (a.1 ≤ s.1) = true := decide_eq_true ha
      have := ih (j := j) (fun t ht => h1 t (by simp [ht])) (by
        rcases h2 with h2 | ⟨t, ht, hn⟩
        · exact .inl (by simpa using h2)
        · exact .inr ⟨t, by simpa using ht, hn⟩)
      unfold insLo at this ⊢
      simp only [List.takeWhile, List.dropWhile, hd, List.take_succ_cons, List.drop_succ_cons, List.cons_append]
      rw [this]
theorem insLo_len (acc : List Sp) (s : Sp) : (insLo acc s).length = acc.length + 1 := by
  have := congrArg List.length (List.takeWhile_append_dropWhile (p := fun t : Sp => decide (t.1 ≤ s.1)) (l := acc))
  rw [List.length_append] at this
  unfold insLo
  rw [List.length_append, List.length_cons]
  omega
theorem insLo_perm (acc : List Sp) (s : Sp) : (insLo acc s).Perm (s :: acc) := by
  unfold insLo
  refine List.perm_middle.trans ?_
  rw [List.takeWhile_append_dropWhile]
theorem insLo_sorted {acc : List Sp} (s : Sp) (h : LoSorted acc) : LoSorted (insLo acc s) := by
  unfold LoSorted at *
  induction acc with
  | nil => simp [insLo]
  | cons a acc ih =>
    rw [List.pairwise_cons] at h
    by_cases ha : a.1 ≤ s.1
    · have hd : decide (a.1 ≤ s.1) = true := decide_eq_true ha
      have e : insLo (a :: acc) s = a :: insLo acc s := by simp [insLo, List.takeWhile, List.dropWhile, hd]
      rw [e, List.pairwise_cons]
      refine ⟨fun b hb => ?_, ih h.2⟩
      have := (insLo_perm acc s).mem_iff.1 hb
      simp at this
      rcases this with rfl | hb'
      · exact ha
      · exact h.1 b hb'
    · have hd : decide (a.1 ≤ s.1) = false := decide_eq_false ha
      have e : insLo (a :: acc) s = s :: a :: acc := by simp [insLo, List.takeWhile, List.dropWhile, hd]
      rw [e, List.pairwise_cons, List.pairwise_cons]
      refine ⟨fun b hb => ?_, h.1, h.2⟩
      simp at hb
      rcases hb with rfl | hb'
      · omega
      · have := h.1 b hb'
        omega
theorem sortR_snoc (l : List Sp) (s : Sp) : sortR (l ++ [s]) = insLo (sortR l) s := by simp [sortR]
theorem sortR_len (l : List Sp) : (sortR l).length = l.length := by
  rw [← List.reverse_reverse l]
  induction l.reverse with
  | nil => rfl
  | cons a t ih => rw [List.reverse_cons, sortR_snoc, insLo_len, ih]; simp
theorem foldIns_perm (l : List Sp) : ∀ acc, (l.foldl insLo acc).Perm (l ++ acc) := by
  induction l with
  | nil => intro acc; exact List.Perm.refl _
  | cons s l ih =>
    intro acc
    refine (ih (insLo acc s)).trans ?_
    refine (List.Perm.append_left l (insLo_perm acc s)).trans ?_
    exact List.perm_middle
theorem sortR_perm (l : List Sp) : (sortR l).Perm l := by
  have := foldIns_perm l []
  rwa [List.append_nil] at this
theorem foldIns_sorted (l : List Sp) : ∀ acc, LoSorted acc → LoSorted (l.foldl insLo acc) := by
  induction l with
  | nil => intro acc h; exact h
  | cons s l ih => intro acc h; exact ih _ (insLo_sorted s h)
theorem sortR_sorted (l : List Sp) : LoSorted (sortR l) := foldIns_sorted l [] List.Pairwise.nil

theorem parts_rise {e n : Int} {l : List Sp} (h : partsFrom e l n = true) : (∀ s ∈ l, e ≤ s.1) ∧ l.Pairwise fun a b => a.1 < b.1 := by
  induction l generalizing e with
  | nil => simp
  | cons s l ih =>
    cases hr : rightB s with
    | false => rw [partsFrom_no (.inl hr)] at h; cases h
    | true =>
      cases he : (s.1 == e) with
      | false => rw [partsFrom_no (.inr he)] at h; cases h
      | true =>
        rw [partsFrom_yes hr he] at h
        have hs := of_decide_eq_true hr
        have he' : s.1 = e := by simpa using he
        obtain ⟨h1, h2⟩ := ih h
        refine ⟨fun t ht => ?_, List.pairwise_cons.2 ⟨fun t ht => ?_, h2⟩⟩
        · simp at ht
          rcases ht with rfl | ht
          · omega
          · have := h1 t ht
            omega
        · have := h1 t ht
          omega
theorem perm_sorted_eq {l l' : List Sp} (hp : l'.Perm l) (h : l.Pairwise fun a b => a.1 < b.1) (h' : LoSorted l') : l' = l := by
  induction l generalizing l' with
  | nil => exact List.Perm.eq_nil hp
  | cons a l ih =>
    cases l' with
    | nil => exact absurd hp.length_eq (by simp)
    | cons b l' =>
      rw [List.pairwise_cons] at h
      unfold LoSorted at h'
      rw [List.pairwise_cons] at h'
      have hb : b ∈ a :: l := hp.mem_iff.1 (by simp)
      have ha : a ∈ b :: l' := hp.mem_iff.2 (by simp)
      have hab : b = a := by
        simp at hb ha
        rcases hb with rfl | hb
        · rfl
        · rcases ha with rfl | ha
          · rfl
          · have := h.1 b hb
            have := h'.1 a ha
            omega
      subst hab
      rw [ih (List.Perm.cons_inv hp) h.2 h'.2]
theorem parts_perm {l l' : List Sp} (hp : l'.Perm l) (h : LoSorted l) (h' : LoSorted l') (m : Int) : partsS l' m = partsS l m := by
  cases h1 : partsS l m with
  | true => rw [perm_sorted_eq hp (parts_rise h1).2 h', h1]
  | false =>
    cases h2 : partsS l' m with
    | false => rfl
    | true =>
      rw [perm_sorted_eq hp.symm (parts_rise h2).2 h, h2] at h1
      cases h1
/-- Whether clusters are a map. -/
def checkC (l : List (Sp × Sp)) (n m : Int) : Bool := partsS (l.map Prod.fst) n && partsS (sortR (l.map Prod.snd)) m
end Go.Proofs.YtdgomaoikeffhaaGreat
/- Pairs of brackets by what both know each other by, the last one on the stack first; pairs found put in order. No function of the program. -/
namespace Go.Proofs.YtdgomaoikeffhaaGreat
open Go.RowKit

/-- The place on a stack, the last one first, of the first that knows it. -/
def lastB (v : Int) : List Sp → Int
  | [] => -1
  | t :: r => if t.2 = v then (r.length : Int) else lastB v r
/-- The opening ones, the last one first, and what they know each other by. -/
def stkP (cs : List Int) (st : List Nat) : List Sp := st.map fun (i : Nat) => (((i : Nat) : Int), (braF (cs.getD i 0)).2)
theorem stkP_len (cs : List Int) (st : List Nat) : (stkP cs st).length = st.length := by simp [stkP]
theorem bra_in (c : Int) : (braF c).1 = 0 ∨ (braF c).1 = 1 ∨ (braF c).1 = 2 := by
  unfold braF
  split
  · exact .inr (.inl rfl)
  · split
    · exact .inr (.inr rfl)
    · exact .inl rfl
theorem pop_last {cs : List Int} {k : Nat} (h2 : (braF (cs.getD k 0)).1 = 2) : ∀ {st : List Nat}, (∀ o ∈ st, (braF (cs.getD o 0)).1 = 1) →
    (popTo (fun o => bmF (cs.getD o 0) (cs.getD k 0)) st = none ∧ lastB (braF (cs.getD k 0)).2 (stkP cs st) = -1) ∨
    ∃ o pre r, popTo (fun o => bmF (cs.getD o 0) (cs.getD k 0)) st = some (o, r) ∧ st = pre ++ o :: r ∧ lastB (braF (cs.getD k 0)).2 (stkP cs st) = (r.length : Int)
  | [], _ => .inl ⟨rfl, rfl⟩
  | t :: st, h1 => by
    have ht := h1 t (by simp)
    have hb : bmF (cs.getD t 0) (cs.getD k 0) = decide ((braF (cs.getD t 0)).2 = (braF (cs.getD k 0)).2) := by
      unfold bmF
      rw [ht, h2]
      simp
    have hc : stkP cs (t :: st) = ((t : Int), (braF (cs.getD t 0)).2) :: stkP cs st := rfl
    rw [hc, lastB, popTo]
    by_cases he : (braF (cs.getD t 0)).2 = (braF (cs.getD k 0)).2
    · rw [if_pos (by rw [hb]; exact decide_eq_true he), if_pos he]
      exact .inr ⟨t, [], st, rfl, rfl, by rw [stkP_len]⟩
    · rw [if_neg (by rw [hb]; simpa using he), if_neg he]
      rcases pop_last h2 (st := st) (fun o ho => h1 o (by simp [ho])) with ⟨a, b⟩ | ⟨o, pre, r, a, b, c⟩
      · exact .inl ⟨a, b⟩
      · exact .inr ⟨o, t :: pre, r, a, by rw [b]; rfl, c⟩
/-- What stands on the stack opens. -/
theorem bk_kd (on : Nat → Bool) (kd : Nat → Int) (mt : Nat → Nat → Bool) : ∀ k, ∀ o ∈ (bkA on kd mt k).st, kd o = 1
  | 0 => by simp [bkA]
  | k + 1 => by
    have h := bk_kd on kd mt k
    rw [bkA]
    generalize bkA on kd mt k = s at h
    unfold bkStep
    split
    · exact h
    · split
      · rename_i h1
        split
        · exact h
        · intro o ho
          rcases List.mem_cons.1 ho with rfl | ho
          · exact h1
          · exact h o ho
      · split
        · exact h
        · rename_i o st hpop
          obtain ⟨_, pre, hst⟩ := popTo_some hpop
          exact fun x hx => h x (by rw [hst]; simp [hx])
theorem insB_perm (p : Sp) : ∀ l : List Sp, (insB l p).Perm (p :: l)
  | [] => List.Perm.refl _
  | q :: l => by
    rw [insB]
    split
    · exact ((insB_perm p l).cons q).trans (List.Perm.swap p q l)
    · exact List.Perm.refl _
/-- One more that is found. -/
theorem found_more {o : List Sp} {out : List (Nat × Nat)} (h : o.Perm (prL out)) (p : Nat × Nat) : (o ++ [((p.1 : Int), (p.2 : Int))]).Perm (prL (insP out p)) := by
  rw [prL_ins]
  exact List.perm_append_comm.trans ((h.cons _).trans (insB_perm _ _).symm)
/-- There is one order. -/
theorem lo_one : ∀ {b a : List Sp}, a.Perm b → LoSorted a → b.Pairwise (fun x y => x.1 < y.1) → a = b
  | [], a, hp, _, _ => hp.eq_nil
  | y :: b, a, hp, ha, hb => by
    rw [List.pairwise_cons] at hb
    cases a with
    | nil => exact absurd hp.symm.eq_nil (by simp)
    | cons x a =>
      unfold LoSorted at ha
      rw [List.pairwise_cons] at ha
      have hxy : x = y := by
        have h1 : x ∈ y :: b := hp.mem_iff.1 (by simp)
        have h2 : y ∈ x :: a := hp.mem_iff.2 (by simp)
        rcases List.mem_cons.1 h1 with h1 | h1
        · exact h1
        · rcases List.mem_cons.1 h2 with h2 | h2
          · exact h2.symm
          · have := hb.1 x h1
            have := ha.1 y h2
            omega
      subst hxy
      rw [lo_one (hp.cons_inv) ha.2 hb.2]
theorem prL_sorted {out : List (Nat × Nat)} (h : out.Pairwise fun x y => x.1 < y.1) : (prL out).Pairwise fun x y => x.1 < y.1 := by
  unfold prL
  rw [List.pairwise_map]
  exact h.imp fun h => by simp only; omega
theorem found_all {o l : List Sp} {on : Nat → Bool} {kd : Nat → Int} {mt : Nat → Nat → Bool} {k : Nat} (h : o.Perm (prL (bkA on kd mt k).out)) (hp : l.Perm o) (hl : LoSorted l) : l = prL (bkA on kd mt k).out :=
  lo_one (hp.trans h) hl (prL_sorted (bk_ok on kd mt k).sort)
end Go.Proofs.YtdgomaoikeffhaaGreat
/- cmp.Compare at int. -/
namespace Go.Proofs.YtdgomaoikeffhaaGreat
open Go.RowKit

def cmpI (x y : Int) : Int := if x < y then -1 else if y < x then 1 else 0
set_option maxHeartbeats 1000000 in
theorem nanI_any (x : Int) (w : World) : Calls Tryz.prog 116 #[.int .i64 x] w fun e w' => e = .returned (.bool false) ∧ w = w' := by
  have h : (x != x) = false := by simp
  go_enter Tryz.func116, Tryz.ntmps116
  go_wp2
  go_ret
  exact ⟨by simp, rfl⟩
set_option maxHeartbeats 1000000 in
theorem cmpI_any (x y : Int) (w : World) : Calls Tryz.prog 97 #[.int .i64 x, .int .i64 y] w fun e w' => e = .returned (.int .i64 (cmpI x y)) ∧ w = w' := by
  have hc : x < y ∨ (¬ x < y ∧ y < x) ∨ (¬ x < y ∧ ¬ y < x) := by omega
  rcases hc with h | ⟨h, h'⟩ | ⟨h, h'⟩
  · have HE := Lib.hid (show cmpI x y = -1 from if_pos h)
    go_enter Tryz.func97, Tryz.ntmps97
    go_wp2_with (go_at_call 116; refine (nanI_any _ _).mono ?_; rintro e w' ⟨rfl, rfl⟩)
    go_ret
    exact ⟨retI HE.out.symm, rfl⟩
  · have HE := Lib.hid (show cmpI x y = 1 by unfold cmpI; rw [if_neg h, if_pos h'])
    go_enter Tryz.func97, Tryz.ntmps97
    go_wp2_with (go_at_call 116; refine (nanI_any _ _).mono ?_; rintro e w' ⟨rfl, rfl⟩)
    go_ret
    exact ⟨retI HE.out.symm, rfl⟩
  · have HE := Lib.hid (show cmpI x y = 0 by unfold cmpI; rw [if_neg h, if_neg h'])
    go_enter Tryz.func97, Tryz.ntmps97
    go_wp2_with (go_at_call 116; refine (nanI_any _ _).mono ?_; rintro e w' ⟨rfl, rfl⟩)
    go_ret
    exact ⟨retI HE.out.symm, rfl⟩
end Go.Proofs.YtdgomaoikeffhaaGreat
/- The lists of brackets and of what is the same, as they are laid. -/
namespace Go.Proofs.YtdgomaoikeffhaaGreat
open Go.RowKit

theorem rd_new2 (w : World) (l : List Sp) (T : TypeId) : Rd (w.alloc (.cells (cellsS l).toArray T)) 2 (some ⟨w.heap.size, 0, none⟩) l.length (cellsS l) :=
  ⟨cellsS_len l, fun _ => ⟨_, rfl, by simp, cells_new w _ T⟩⟩
set_option maxRecDepth 100000 in
set_option maxHeartbeats 1000000 in
theorem alike_any (w : World) : Calls Tryz.prog 122 #[] w fun e w' => (∃ A, e = .returned (.slice A 2 2) ∧ Rd w' 2 A 2 (cellsS aliL)) ∧ Below w.heap.size w w' := by
  go_enter Tryz.func122, Tryz.ntmps122
  go_wp2
  go_ret
  exact ⟨⟨_, rfl, rd_new2 w aliL _⟩, below_new _ _⟩
set_option maxRecDepth 100000 in
set_option maxHeartbeats 1000000 in
theorem brackets_any (w : World) : Calls Tryz.prog 108 #[] w fun e w' => (∃ A, e = .returned (.slice A 43 43) ∧ Rd w' 2 A 43 (cellsS braL)) ∧ Below w.heap.size w w' := by
  go_enter Tryz.func108, Tryz.ntmps108
  go_wp2
  go_ret
  exact ⟨⟨_, rfl, rd_new2 w braL _⟩, below_new _ _⟩
end Go.Proofs.YtdgomaoikeffhaaGreat
/- The slice type of pairs. -/
namespace Go.Proofs.YtdgomaoikeffhaaGreat
open Go.RowKit
theorem pairSliceR : SliceOf Tryz.prog 125 128 2 16 := .mk_ (z := .agg #[.int .i64 0, .int .i64 0]) Tryz.underlying125 (by kernel_rfl) rfl
end Go.Proofs.YtdgomaoikeffhaaGreat
/- Weak classes as mathematics: the seven steps from left to right, what is gone behind them, that a strong one parts, and stays. No function of the program. -/
namespace Go.Proofs.YtdgomaoikeffhaaGreat
open Go.RowKit

def nk1 (p c : Int) : Int := if c = 8 then (if 19 ≤ p ∧ p ≤ 22 then 13 else p) else c
def wk1 : Int → List Int → List Int
  | _, [] => []
  | p, c :: l => nk1 p c :: wk1 (nk1 p c) l
/-- The last strong one ahead (AL among them). -/
def sk2 (p c : Int) : Int := if c = 0 ∨ c = 1 ∨ c = 2 then c else p
def nk2 (p c : Int) : Int := if c = 3 ∧ p = 2 then 6 else c
def wk2 : Int → List Int → List Int
  | _, [] => []
  | p, c :: l => nk2 p c :: wk2 (sk2 p c) l
def nk3 (c : Int) : Int := if c = 2 then 1 else c
def wk3 (l : List Int) : List Int := l.map nk3
def nk4 (a c b : Int) : Int := if c = 4 ∧ a = 3 ∧ b = 3 then 3 else if c = 7 ∧ a = b ∧ (a = 3 ∨ a = 6) then a else c
/-- Behind place a. -/
def wk4g : Int → List Int → List Int
  | _, [] => []
  | _, [c] => [c]
  | a, c :: d :: l => nk4 a c d :: wk4g (nk4 a c d) (d :: l)
def wk4 : List Int → List Int
  | [] => []
  | c :: l => c :: wk4g c l
/-- Whether what is behind a row of ET is an EN. -/
def fwdE : List Int → Bool
  | [] => false
  | c :: l => if c = 5 then fwdE l else decide (c = 3)
def sk5 (p : Bool) (c : Int) : Bool := if c = 5 then p else decide (c = 3)
def nk5 (p q : Bool) (c : Int) : Int := if c = 5 ∧ (p || q) = true then 3 else c
def wk5 : Bool → List Int → List Int
  | _, [] => []
  | p, c :: l => nk5 p (fwdE l) c :: wk5 (sk5 p c) l
def nk6 (c : Int) : Int := if c = 4 ∨ c = 5 ∨ c = 7 then 13 else c
def wk6 (l : List Int) : List Int := l.map nk6
def sk7 (p c : Int) : Int := if c = 0 ∨ c = 1 then c else p
def nk7 (p c : Int) : Int := if c = 3 ∧ p = 0 then 0 else c
def wk7 : Int → List Int → List Int
  | _, [] => []
  | p, c :: l => nk7 p c :: wk7 (sk7 p c) l
def wAll (p : Int) (l : List Int) : List Int := wk7 p (wk6 (wk5 false (wk4 (wk3 (wk2 p (wk1 p l))))))

theorem wk1_len : ∀ (p : Int) (l : List Int), (wk1 p l).length = l.length
  | _, [] => rfl
  | p, c :: l => by simp [wk1, wk1_len _ l]
theorem wk2_len : ∀ (p : Int) (l : List Int), (wk2 p l).length = l.length
  | _, [] => rfl
  | p, c :: l => by simp [wk2, wk2_len _ l]
theorem wk3_len (l : List Int) : (wk3 l).length = l.length := by simp [wk3]
theorem wk4g_len : ∀ (a : Int) (l : List Int), (wk4g a l).length = l.length
  | _, [] => rfl
  | _, [c] => rfl
  | a, c :: d :: l => by simp [wk4g, wk4g_len _ (d :: l)]
theorem wk4_len (l : List Int) : (wk4 l).length = l.length := by
  cases l with
  | nil => rfl
  | cons c l => simp [wk4, wk4g_len]
theorem wk5_len : ∀ (p : Bool) (l : List Int), (wk5 p l).length = l.length
  | _, [] => rfl
  | p, c :: l => by simp [wk5, wk5_len _ l]
theorem wk6_len (l : List Int) : (wk6 l).length = l.length := by simp [wk6]
theorem wk7_len : ∀ (p : Int) (l : List Int), (wk7 p l).length = l.length
  | _, [] => rfl
  | p, c :: l => by simp [wk7, wk7_len _ l]
theorem wAll_len (p : Int) (l : List Int) : (wAll p l).length = l.length := by unfold wAll; rw [wk7_len, wk6_len, wk5_len, wk4_len, wk3_len, wk2_len, wk1_len]

theorem mem_wk1 : ∀ {p : Int} {l : List Int} {x : Int}, p ≠ 8 → x ∈ wk1 p l → x ≠ 8
  | _, [], _, _, h => by simp [wk1] at h
  | p, c :: l, x, hp, h => by
    have hn : nk1 p c ≠ 8 := by
      unfold nk1
      split
      · split
        · decide
        · exact hp
      · assumption
    rw [wk1, List.mem_cons] at h
    rcases h with rfl | h
    · exact hn
    · exact mem_wk1 hn h
theorem mem_wk2 : ∀ {p : Int} {l : List Int} {x : Int}, x ∈ wk2 p l → x = 6 ∨ x ∈ l
  | _, [], _, h => by simp [wk2] at h
  | p, c :: l, x, h => by
    rw [wk2, List.mem_cons] at h
    rcases h with rfl | h
    · unfold nk2
      split
      · exact .inl rfl
      · exact .inr (by simp)
    · exact (mem_wk2 h).imp id (by intro k; simp [k])
theorem mem_wk3 {l : List Int} {x : Int} (h : x ∈ wk3 l) : x ≠ 2 ∧ (x = 1 ∨ x ∈ l) := by
  obtain ⟨c, hc, rfl⟩ := List.mem_map.1 h
  unfold nk3
  split
  · exact ⟨by decide, .inl rfl⟩
  · exact ⟨by assumption, .inr hc⟩
theorem nk4_in (a c b : Int) : nk4 a c b = 3 ∨ nk4 a c b = 6 ∨ nk4 a c b = c := by
  unfold nk4
  split
  · exact .inl rfl
  · split
    · rename_i h
      exact h.2.2.imp id .inl
    · exact .inr (.inr rfl)
theorem mem_wk4g : ∀ {a : Int} {l : List Int} {x : Int}, x ∈ wk4g a l → x = 3 ∨ x = 6 ∨ x ∈ l
  | _, [], _, h => by simp [wk4g] at h
  | _, [c], x, h => by simp [wk4g] at h; exact .inr (.inr (by simp [h]))
  | a, c :: d :: l, x, h => by
    rw [wk4g, List.mem_cons] at h
    rcases h with rfl | h
    · exact (nk4_in a c d).imp id (fun h => h.imp id (fun h => by rw [h]; simp))
    · exact (mem_wk4g h).imp id (fun h => h.imp id (fun h => List.mem_cons_of_mem _ h))
theorem mem_wk4 {l : List Int} {x : Int} (h : x ∈ wk4 l) : x = 3 ∨ x = 6 ∨ x ∈ l := by
  cases l with
  | nil => simp [wk4] at h
  | cons c l =>
    rw [wk4, List.mem_cons] at h
    rcases h with rfl | h
    · exact .inr (.inr (by simp))
    · exact (mem_wk4g h).imp id (fun h => h.imp id (fun h => List.mem_cons_of_mem _ h))
theorem mem_wk5 : ∀ {p : Bool} {l : List Int} {x : Int}, x ∈ wk5 p l → x = 3 ∨ x ∈ l
  | _, [], _, h => by simp [wk5] at h
  | p, c :: l, x, h => by
    rw [wk5, List.mem_cons] at h
    rcases h with rfl | h
    · unfold nk5
      split
      · exact .inl rfl
      · exact .inr (by simp)
    · exact (mem_wk5 h).imp id (by intro k; simp [k])
theorem mem_wk6 {l : List Int} {x : Int} (h : x ∈ wk6 l) : (x ≠ 4 ∧ x ≠ 5 ∧ x ≠ 7) ∧ (x = 13 ∨ x ∈ l) := by
  obtain ⟨c, hc, rfl⟩ := List.mem_map.1 h
  unfold nk6
  split
  · exact ⟨by decide, .inl rfl⟩
  · exact ⟨by omega, .inr hc⟩
theorem mem_wk7 : ∀ {p : Int} {l : List Int} {x : Int}, x ∈ wk7 p l → x = 0 ∨ x ∈ l
  | _, [], _, h => by simp [wk7] at h
  | p, c :: l, x, h => by
    rw [wk7, List.mem_cons] at h
    rcases h with rfl | h
    · unfold nk7
      split
      · exact .inl rfl
      · exact .inr (by simp)
    · exact (mem_wk7 h).imp id (by intro k; simp [k])
/-- Behind all steps none of the weak ones is left but digits. -/
theorem all_gone {p : Int} (hp : p ≠ 8) {l : List Int} {x : Int} (h : x ∈ wAll p l) : x ≠ 2 ∧ x ≠ 8 ∧ x ≠ 4 ∧ x ≠ 5 ∧ x ≠ 7 := by
  rcases mem_wk7 h with rfl | h
  · decide
  obtain ⟨⟨h4, h5, h7⟩, h⟩ := mem_wk6 h
  rcases h with rfl | h
  · decide
  rcases mem_wk5 h with rfl | h
  · decide
  rcases mem_wk4 h with rfl | rfl | h
  · decide
  · decide
  obtain ⟨h2, h⟩ := mem_wk3 h
  rcases h with rfl | h
  · decide
  rcases mem_wk2 h with rfl | h
  · decide
  exact ⟨h2, mem_wk1 hp h, h4, h5, h7⟩

section
variable {s : Int} (hs : s = 0 ∨ s = 1)
include hs
theorem wk1_part : ∀ (p : Int) (a b : List Int), wk1 p (a ++ s :: b) = wk1 p a ++ s :: wk1 s b
  | p, [], b => by
    have : nk1 p s = s := by unfold nk1; rw [if_neg (by omega)]
    simp [wk1, this]
  | p, c :: a, b => by simp [wk1, wk1_part _ a b]
theorem wk2_part : ∀ (p : Int) (a b : List Int), wk2 p (a ++ s :: b) = wk2 p a ++ s :: wk2 s b
  | p, [], b => by
    have h1 : nk2 p s = s := by unfold nk2; rw [if_neg (by omega)]
    have h2 : sk2 p s = s := by unfold sk2; rw [if_pos (by omega)]
    simp [wk2, h1, h2]
  | p, c :: a, b => by simp [wk2, wk2_part _ a b]
theorem wk3_part (a b : List Int) : wk3 (a ++ s :: b) = wk3 a ++ s :: wk3 b := by
  have h1 : nk3 s = s := by unfold nk3; rw [if_neg (by omega)]
  simp [wk3, h1]
theorem wk4g_strong (b : List Int) : wk4g s b = wk4 b := by
  match b with
  | [] => rfl
  | [c] => rfl
  | c :: d :: l =>
    have h1 : nk4 s c d = c := by unfold nk4; rw [if_neg (by omega), if_neg (by omega)]
    rw [wk4g, h1]
    rfl
theorem wk4g_at (x : Int) (b : List Int) : wk4g x (s :: b) = s :: wk4 b := by
  match b with
  | [] => rfl
  | d :: l =>
    have h1 : nk4 x s d = s := by unfold nk4; rw [if_neg (by omega), if_neg (by omega)]
    rw [wk4g, h1, wk4g_strong hs]
theorem wk4g_part : ∀ (x : Int) (a b : List Int), wk4g x (a ++ s :: b) = wk4g x a ++ s :: wk4 b
  | x, [], b => by rw [List.nil_append, wk4g_at hs]; rfl
  | x, [c], b => by
    have h1 : nk4 x c s = c := by unfold nk4; rw [if_neg (by omega), if_neg (by omega)]
    show wk4g x (c :: s :: b) = c :: s :: wk4 b
    rw [wk4g, h1, wk4g_at hs]
  | x, c :: d :: a, b => by
    have := wk4g_part (nk4 x c d) (d :: a) b
    show wk4g x (c :: d :: (a ++ s :: b)) = _
    rw [wk4g, wk4g]
    rw [List.cons_append] at this
    rw [this]
    rfl
theorem wk4_part (a b : List Int) : wk4 (a ++ s :: b) = wk4 a ++ s :: wk4 b := by
  cases a with
  | nil => show s :: wk4g s b = s :: wk4 b; rw [wk4g_strong hs]
  | cons c a => show c :: wk4g c (a ++ s :: b) = _; rw [wk4g_part hs]; rfl
theorem fwdE_part : ∀ (a b : List Int), fwdE (a ++ s :: b) = fwdE a
  | [], b => by show fwdE (s :: b) = false; rw [fwdE, if_neg (by omega)]; exact decide_eq_false (by omega)
  | c :: a, b => by
    show fwdE (c :: (a ++ s :: b)) = _
    rw [fwdE, fwdE, fwdE_part a b]
theorem wk5_part : ∀ (p : Bool) (a b : List Int), wk5 p (a ++ s :: b) = wk5 p a ++ s :: wk5 false b
  | p, [], b => by
    have h1 : ∀ q, nk5 p q s = s := fun q => by unfold nk5; rw [if_neg (by omega)]
    have h2 : sk5 p s = false := by unfold sk5; rw [if_neg (by omega)]; exact decide_eq_false (by omega)
    show wk5 p (s :: b) = s :: wk5 false b
    rw [wk5, h1, h2]
  | p, c :: a, b => by
    show wk5 p (c :: (a ++ s :: b)) = _
    rw [wk5, wk5_part _ a b, fwdE_part hs a b]
    rfl
theorem wk6_part (a b : List Int) : wk6 (a ++ s :: b) = wk6 a ++ s :: wk6 b := by
  have h1 : nk6 s = s := by unfold nk6; rw [if_neg (by omega)]
  simp [wk6, h1]
theorem wk7_part : ∀ (p : Int) (a b : List Int), wk7 p (a ++ s :: b) = wk7 p a ++ s :: wk7 s b
  | p, [], b => by
    have h1 : nk7 p s = s := by unfold nk7; rw [if_neg (by omega)]
    have h2 : sk7 p s = s := by unfold sk7; rw [if_pos (by omega)]
    simp [wk7, h1, h2]
  | p, c :: a, b => by simp [wk7, wk7_part _ a b]
/-- A strong one parts what is ahead from what is behind. -/
theorem all_part (p : Int) (a b : List Int) : wAll p (a ++ s :: b) = wAll p a ++ s :: wAll s b := by
  unfold wAll
  rw [wk1_part hs, wk2_part hs, wk3_part hs, wk4_part hs, wk5_part hs, wk6_part hs, wk7_part hs]
end
/-- Strong ones stay; AL becomes R. -/
theorem wk1_keep {j : Nat} {c : Int} (hc : c ≠ 8) : ∀ {p : Int} {l : List Int}, l[j]? = some c → (wk1 p l)[j]? = some c := by
  induction j with
  | zero =>
    intro p l h
    cases l with
    | nil => cases h
    | cons x l =>
      obtain rfl := Option.some.inj h
      rw [wk1, nk1, if_neg hc]
      rfl
  | succ j ih =>
    intro p l h
    cases l with
    | nil => cases h
    | cons x l => rw [wk1, List.getElem?_cons_succ]; exact ih h
theorem wk2_keep {j : Nat} {c : Int} (hc : c ≠ 3) : ∀ {p : Int} {l : List Int}, l[j]? = some c → (wk2 p l)[j]? = some c := by
  induction j with
  | zero =>
    intro p l h
    cases l with
    | nil => cases h
    | cons x l =>
      obtain rfl := Option.some.inj h
      rw [wk2, nk2, if_neg (by omega)]
      rfl
  | succ j ih =>
    intro p l h
    cases l with
    | nil => cases h
    | cons x l => rw [wk2, List.getElem?_cons_succ]; exact ih h
theorem wk3_at {j : Nat} {c : Int} {l : List Int} (h : l[j]? = some c) : (wk3 l)[j]? = some (nk3 c) := by unfold wk3; rw [List.getElem?_map, h]; rfl
theorem wk4g_keep {c : Int} (hc : c ≠ 4 ∧ c ≠ 7) : ∀ {j : Nat} {a : Int} {l : List Int}, l[j]? = some c → (wk4g a l)[j]? = some c
  | j, a, [], h => by cases j <;> cases h
  | j, a, [x], h => by rw [wk4g]; exact h
  | 0, a, x :: y :: l, h => by
    obtain rfl := Option.some.inj h
    rw [wk4g, nk4, if_neg (by omega), if_neg (by omega)]
    rfl
  | j + 1, a, x :: y :: l, h => by
    rw [wk4g, List.getElem?_cons_succ]
    exact wk4g_keep hc (by rwa [List.getElem?_cons_succ] at h)
theorem wk4_keep {j : Nat} {c : Int} {l : List Int} (hc : c ≠ 4 ∧ c ≠ 7) (h : l[j]? = some c) : (wk4 l)[j]? = some c := by
  cases l with
  | nil => cases h
  | cons x l =>
    cases j with
    | zero => exact h
    | succ j => rw [wk4, List.getElem?_cons_succ]; exact wk4g_keep hc (by rwa [List.getElem?_cons_succ] at h)
theorem wk5_keep {j : Nat} {c : Int} (hc : c ≠ 5) : ∀ {p : Bool} {l : List Int}, l[j]? = some c → (wk5 p l)[j]? = some c := by
  induction j with
  | zero =>
    intro p l h
    cases l with
    | nil => cases h
    | cons x l =>
      obtain rfl := Option.some.inj h
      rw [wk5, nk5, if_neg (by simp [hc])]
      rfl
  | succ j ih =>
    intro p l h
    cases l with
    | nil => cases h
    | cons x l => rw [wk5, List.getElem?_cons_succ]; exact ih h
theorem wk6_keep {j : Nat} {c : Int} {l : List Int} (hc : c ≠ 4 ∧ c ≠ 5 ∧ c ≠ 7) (h : l[j]? = some c) : (wk6 l)[j]? = some c := by
  unfold wk6
  rw [List.getElem?_map, h, Option.map_some, nk6, if_neg (by omega)]
theorem wk7_keep {j : Nat} {c : Int} (hc : c ≠ 3) : ∀ {p : Int} {l : List Int}, l[j]? = some c → (wk7 p l)[j]? = some c := by
  induction j with
  | zero =>
    intro p l h
    cases l with
    | nil => cases h
    | cons x l =>
      obtain rfl := Option.some.inj h
      rw [wk7, nk7, if_neg (by omega)]
      rfl
  | succ j ih =>
    intro p l h
    cases l with
    | nil => cases h
    | cons x l => rw [wk7, List.getElem?_cons_succ]; exact ih h
theorem wAll_strong {p : Int} {l : List Int} {j : Nat} {c : Int} (hc : c = 0 ∨ c = 1 ∨ c = 2) (h : l[j]? = some c) : (wAll p l)[j]? = some (if c = 0 then 0 else 1) := by
  have h3 := wk3_at (wk2_keep (p := p) (by omega) (wk1_keep (p := p) (by omega) h))
  have hn : nk3 c = if c = 0 then 0 else 1 := by unfold nk3; rcases hc with rfl | rfl | rfl <;> rfl
  rw [hn] at h3
  have hd : (if c = 0 then (0 : Int) else 1) = 0 ∨ (if c = 0 then (0 : Int) else 1) = 1 := by split <;> simp
  exact wk7_keep (by omega) (wk6_keep (by omega) (wk5_keep (by omega) (wk4_keep (by omega) h3)))
end Go.Proofs.YtdgomaoikeffhaaGreat
/- Weak classes: each step place by place, as the program goes through them. No function of the program. -/
namespace Go.Proofs.YtdgomaoikeffhaaGreat
open Go.RowKit

/-- What is ahead of place k. -/
def pv1 (p : Int) (ys : List Int) : Nat → Int
  | 0 => p
  | k + 1 => ys.getD k 0
theorem pv1_cons (y : Int) (ys : List Int) (k : Nat) : (y :: ys).getD k 0 = pv1 y ys k := by cases k <;> rfl
def carF (c : Int) : Int := if 19 ≤ c ∧ c ≤ 22 then 13 else c
theorem wk1_at : ∀ {xs : List Int} {p : Int} {k : Nat} {x : Int}, xs[k]? = some x → (wk1 p xs)[k]? = some (if x = 8 then carF (pv1 p (wk1 p xs) k) else x)
  | [], _, k, _, h => by simp at h
  | c :: l, p, 0, x, h => by
    obtain rfl := Option.some.inj h
    rw [wk1]
    rfl
  | c :: l, p, k + 1, x, h => by
    rw [wk1, List.getElem?_cons_succ, wk1_at (p := nk1 p c) (by simpa using h)]
    show _ = some (if x = 8 then carF ((nk1 p c :: wk1 (nk1 p c) l).getD k 0) else x)
    rw [pv1_cons]
/-- What the program has ahead at place k: the class of a mark there. -/
def ah1 (p : Int) (ys : List Int) : Nat → Int
  | 0 => p
  | k + 1 => carF (ys.getD k 0)
theorem ah1_of {p : Int} (hp : carF p = p) (ys : List Int) (k : Nat) : carF (pv1 p ys k) = ah1 p ys k := by
  cases k with
  | zero => exact hp
  | succ k => rfl
def skN (S : List Int) (p c : Int) : Int := if c ∈ S then c else p
def nkN (o a p c : Int) : Int := if c = 3 ∧ p = a then o else c
def wkN (o a : Int) (S : List Int) : Int → List Int → List Int
  | _, [] => []
  | p, c :: l => nkN o a (skN S p c) c :: wkN o a S (skN S p c) l
def stN (S : List Int) (p : Int) (xs : List Int) : Nat → Int
  | 0 => p
  | k + 1 => skN S (stN S p xs k) (xs.getD k 0)
theorem stN_cons (S : List Int) (p c : Int) (l : List Int) : ∀ k, stN S p (c :: l) (k + 1) = stN S (skN S p c) l k
  | 0 => rfl
  | k + 1 => by
    rw [stN, stN_cons S p c l k]
    rfl
theorem wkN_at {o a : Int} {S : List Int} : ∀ {xs : List Int} {p : Int} {k : Nat} {x : Int}, xs[k]? = some x → (wkN o a S p xs)[k]? = some (nkN o a (skN S (stN S p xs k) x) x)
  | [], _, k, _, h => by simp at h
  | c :: l, p, 0, x, h => by
    obtain rfl := Option.some.inj h
    rfl
  | c :: l, p, k + 1, x, h => by
    rw [wkN, List.getElem?_cons_succ, wkN_at (p := skN S p c) (by simpa using h), stN_cons]
theorem wkN_len (o a : Int) (S : List Int) : ∀ (p : Int) (l : List Int), (wkN o a S p l).length = l.length
  | _, [] => rfl
  | p, c :: l => by simp [wkN, wkN_len o a S _ l]
theorem wkN_two : ∀ (p : Int) (l : List Int), wkN 6 2 [0, 1, 2] p l = wk2 p l
  | _, [] => rfl
  | p, c :: l => by
    have h1 : skN [0, 1, 2] p c = sk2 p c := by unfold skN sk2; simp
    have h2 : nkN 6 2 (sk2 p c) c = nk2 p c := by
      unfold nkN nk2 sk2
      by_cases h : c = 3
      · subst h; simp
      · simp [h]
    rw [wkN, wk2, h1, h2, wkN_two _ l]
theorem wkN_seven : ∀ (p : Int) (l : List Int), wkN 0 0 [0, 1] p l = wk7 p l
  | _, [] => rfl
  | p, c :: l => by
    have h1 : skN [0, 1] p c = sk7 p c := by unfold skN sk7; simp
    have h2 : nkN 0 0 (sk7 p c) c = nk7 p c := by
      unfold nkN nk7 sk7
      by_cases h : c = 3
      · subst h; simp
      · simp [h]
    rw [wkN, wk7, h1, h2, wkN_seven _ l]
def exF (o : Int) (S : List Int) (c : Int) : Int := if c ∈ S then o else c
theorem ex_three (l : List Int) : l.map (exF 1 [2]) = wk3 l := by
  unfold wk3
  refine List.map_congr_left fun c _ => ?_
  unfold exF nk3
  simp
theorem ex_six (l : List Int) : l.map (exF 13 [4, 5, 7]) = wk6 l := by
  unfold wk6
  refine List.map_congr_left fun c _ => ?_
  unfold exF nk6
  simp
theorem wk4g_mid : ∀ {l : List Int} {a : Int} {k : Nat} {x z : Int}, l[k]? = some x → l[k + 1]? = some z → (wk4g a l)[k]? = some (nk4 (pv1 a (wk4g a l) k) x z)
  | [], _, _, _, _, h, _ => by simp at h
  | [c], _, k, _, _, _, h => by simp at h
  | c :: d :: l, a, 0, x, z, h1, h2 => by
    obtain rfl := Option.some.inj h1
    obtain rfl := Option.some.inj h2
    rfl
  | c :: d :: l, a, k + 1, x, z, h1, h2 => by
    rw [wk4g, List.getElem?_cons_succ, wk4g_mid (l := d :: l) (a := nk4 a c d) (by simpa using h1) (by simpa using h2)]
    show _ = some (nk4 ((nk4 a c d :: wk4g (nk4 a c d) (d :: l)).getD k 0) x z)
    rw [pv1_cons]
theorem wk4g_last : ∀ {l : List Int} {a : Int} {k : Nat}, l.length = k + 1 → (wk4g a l)[k]? = l[k]?
  | [], _, _, h => by simp at h
  | [c], _, k, h => by rw [wk4g]
  | c :: d :: l, a, 0, h => by simp at h
  | c :: d :: l, a, k + 1, h => by
    rw [wk4g, List.getElem?_cons_succ, List.getElem?_cons_succ]
    exact wk4g_last (by simpa using h)
theorem wk4_zero (xs : List Int) : (wk4 xs)[0]? = xs[0]? := by cases xs <;> rfl
theorem wk4_mid {xs : List Int} {k : Nat} {x z : Int} (h1 : xs[k + 1]? = some x) (h2 : xs[k + 2]? = some z) : (wk4 xs)[k + 1]? = some (nk4 ((wk4 xs).getD k 0) x z) := by
  cases xs with
  | nil => simp at h1
  | cons c l =>
    rw [wk4, List.getElem?_cons_succ, wk4g_mid (l := l) (a := c) (by simpa using h1) (by simpa using h2), pv1_cons]
theorem wk4_last {xs : List Int} {k : Nat} (h : xs.length = k + 1) : (wk4 xs)[k]? = xs[k]? := by
  cases xs with
  | nil => simp at h
  | cons c l =>
    cases k with
    | zero => rfl
    | succ k => rw [wk4, List.getElem?_cons_succ, List.getElem?_cons_succ]; exact wk4g_last (by simpa using h)
/-- From the left. -/
def fE : Int → List Int → List Int
  | _, [] => []
  | a, c :: l => (if c = 5 ∧ a = 3 then 3 else c) :: fE (if c = 5 ∧ a = 3 then 3 else c) l
/-- From the right. -/
def bE : List Int → List Int
  | [] => []
  | c :: l => (if c = 5 ∧ (bE l)[0]? = some 3 then 3 else c) :: bE l
theorem fE_len : ∀ (a : Int) (l : List Int), (fE a l).length = l.length
  | _, [] => rfl
  | a, c :: l => by simp [fE, fE_len _ l]
theorem bE_len : ∀ (l : List Int), (bE l).length = l.length
  | [] => rfl
  | c :: l => by simp [bE, bE_len l]
theorem fE_at : ∀ {xs : List Int} {a : Int} {k : Nat} {x : Int}, xs[k]? = some x → (fE a xs)[k]? = some (if x = 5 ∧ pv1 a (fE a xs) k = 3 then 3 else x)
  | [], _, k, _, h => by simp at h
  | c :: l, p, 0, x, h => by
    obtain rfl := Option.some.inj h
    rfl
  | c :: l, a, k + 1, x, h => by
    rw [fE, List.getElem?_cons_succ, fE_at (by simpa using h)]
    show _ = some (if x = 5 ∧ (((if c = 5 ∧ a = 3 then 3 else c) :: fE (if c = 5 ∧ a = 3 then 3 else c) l).getD k 0) = 3 then 3 else x)
    rw [pv1_cons]
theorem bE_at : ∀ {xs : List Int} {k : Nat} {x : Int}, xs[k]? = some x → (bE xs)[k]? = some (if x = 5 ∧ (bE xs)[k + 1]? = some 3 then 3 else x)
  | [], k, _, h => by simp at h
  | c :: l, 0, x, h => by
    obtain rfl := Option.some.inj h
    rfl
  | c :: l, k + 1, x, h => by
    rw [bE, List.getElem?_cons_succ, List.getElem?_cons_succ]
    exact bE_at (by simpa using h)
theorem wk5_head (l : List Int) : (wk5 false l)[0]? = some 3 ↔ fwdE l = true := by
  cases l with
  | nil => simp [wk5, fwdE]
  | cons d l =>
    rw [wk5, fwdE]
    unfold nk5
    by_cases h : d = 5
    · subst h
      cases fwdE l <;> simp
    · simp [h]
theorem bE_fE : ∀ (a : Int) (l : List Int), bE (fE a l) = wk5 (decide (a = 3)) l
  | _, [] => rfl
  | a, c :: l => by
    rw [fE, bE, wk5, bE_fE _ l]
    unfold nk5 sk5
    by_cases h5 : c = 5
    · subst h5
      by_cases h3 : a = 3
      · subst h3; simp
      · have e : (if (5 : Int) = 5 ∧ a = 3 then (3 : Int) else 5) = 5 := if_neg (fun h => h3 h.2)
        have d3 : decide (a = 3) = false := decide_eq_false h3
        have d5 : decide ((5 : Int) = 3) = false := by decide
        rw [e, d3, d5]
        simp only [true_and, if_true, Bool.false_or, List.cons.injEq, and_true]
        cases hf : fwdE l with
        | true => rw [if_pos ((wk5_head l).2 hf)]; rfl
        | false => rw [if_neg (fun h => by have := (wk5_head l).1 h; rw [hf] at this; cases this)]; simp
    · simp [h5]
theorem terms_eq (l : List Int) : bE (fE 0 l) = wk5 false l := bE_fE 0 l
/-- A row that was gone through down to place k. -/
theorem wmix_at {xs ys : List Int} {k j n : Nat} (hy : ys.length = n) (hk : k ≤ n) (hj : k ≤ j) : (ys.take k ++ xs.drop k)[j]? = xs[j]? := by
  rw [List.getElem?_append_right (by simp; omega), List.length_take, List.getElem?_drop, show min k ys.length = k by omega]
  congr 1
  omega
theorem wmix_lt {xs ys : List Int} {k j n : Nat} (hy : ys.length = n) (hk : k ≤ n) (hj : j < k) : (ys.take k ++ xs.drop k)[j]? = ys[j]? := by
  rw [List.getElem?_append_left (by simp; omega), List.getElem?_take, if_pos hj]
theorem wmix_set {xs ys : List Int} {k n : Nat} {y : Int} (hx : xs.length = n) (hy : ys.length = n) (hk : k < n) (h2 : ys[k]? = some y) : (ys.take k ++ xs.drop k).set k y = ys.take (k + 1) ++ xs.drop (k + 1) := by
  rw [List.set_append_right _ _ (by simp; omega), List.length_take, show min k ys.length = k by omega, Nat.sub_self, List.drop_eq_getElem_cons (by omega), List.set_cons_zero, List.take_add_one, h2]
  simp
theorem wmix_keep {xs ys : List Int} {k n : Nat} {y : Int} (hx : xs.length = n) (hy : ys.length = n) (hk : k < n) (h1 : xs[k]? = some y) (h2 : ys[k]? = some y) : ys.take k ++ xs.drop k = ys.take (k + 1) ++ xs.drop (k + 1) := by
  have := wmix_set (xs := xs) hx hy hk h2
  rw [← this]
  refine (List.ext_getElem? fun j => ?_)
  rw [List.getElem?_set]
  by_cases e : k = j
  · subst e
    rw [if_pos rfl, if_pos (by simp; omega), wmix_at hy (by omega) (Nat.le_refl _), h1]
  · rw [if_neg e]
theorem wmix_all {xs ys : List Int} {n : Nat} (hx : xs.length = n) (hy : ys.length = n) : ys.take n ++ xs.drop n = ys := by
  rw [List.take_of_length_le (by omega), List.drop_eq_nil_of_le (by omega), List.append_nil]
/-- From the right: at place k. -/
theorem wmix_back {zs ys : List Int} {k n : Nat} {y : Int} (hx : zs.length = n) (hy : ys.length = n) (hk : k < n) (h2 : ys[k]? = some y) : (zs.take (k + 1) ++ ys.drop (k + 1)).set k y = zs.take k ++ ys.drop k := by
  have e : ys.drop k = y :: ys.drop (k + 1) := by
    rw [List.drop_eq_getElem_cons (by omega)]
    congr 1
    rw [List.getElem?_eq_getElem (by omega)] at h2
    exact Option.some.inj h2
  rw [List.set_append_left _ _ (by simp; omega), List.take_add_one, List.getElem?_eq_getElem (by omega), Option.toList_some, List.set_append_right _ _ (by simp; omega), e]
  rw [List.length_take, show min k zs.length = k by omega, Nat.sub_self, List.set_cons_zero, List.append_assoc]
  rfl
theorem wmix_backKeep {zs ys : List Int} {k n : Nat} {y : Int} (hx : zs.length = n) (hy : ys.length = n) (hk : k < n) (h1 : zs[k]? = some y) (h2 : ys[k]? = some y) : zs.take (k + 1) ++ ys.drop (k + 1) = zs.take k ++ ys.drop k := by
  rw [← wmix_back hx hy hk h2]
  refine (List.ext_getElem? fun j => ?_)
  rw [List.getElem?_set]
  by_cases e : k = j
  · subst e
    rw [if_pos rfl, if_pos (by simp; omega), wmix_lt hx (by omega) (by omega), h1]
  · rw [if_neg e]
end Go.Proofs.YtdgomaoikeffhaaGreat
/- slices.Contains at []int; a built slice of integers. -/
namespace Go.Proofs.YtdgomaoikeffhaaGreat
open Go.RowKit
theorem rdNewI (w : World) (xs : List Int) (t : TypeId) : Rd (w.alloc (.cells (xs.map (Value.int .i64)).toArray t)) 1 (some ⟨w.heap.size, 0, none⟩) xs.length (xs.map (Value.int .i64)) := by
  have := Rd.new_ w (xs.map (Value.int .i64)) t
  rwa [List.length_map] at this
set_option maxRecDepth 100000 in
theorem indexI_any (A : Option Addr) (n c : Nat) (xs : List Int) (x : Int) (w : World) (hr : Rd w 1 A n (xs.map (Value.int .i64))) (hn : n ≤ 1000) :
    Calls Tryz.prog 119 #[.slice A n c, .int .i64 x] w fun e w' => (∃ r : Int, e = .returned (.int .i64 r) ∧ (0 ≤ r ↔ x ∈ xs)) ∧ w = w' := by
  have hlen : xs.length = n := by simpa using hr.len1
  have HL := Lib.hid hlen
  clear hlen
  go_enter Tryz.func119, Tryz.ntmps119
  go_wp2
  go_loop [8] (fun i => ∃ k : Nat, k ≤ n ∧ i = .int .i64 k ∧ x ∉ xs.take k) (fun i => n - (intOf i).toNat)
  case atStart => exact ⟨0, Nat.zero_le _, rfl, by simp⟩
  case round =>
    obtain ⟨k, hk, rfl, hno⟩ := hrel
    have HN := Lib.hid hno
    clear hno
    by_cases hlt : k < n
    · obtain ⟨s, hsk⟩ : ∃ s, xs[k]? = some s := ⟨_, List.getElem?_eq_getElem (by rw [HL.out]; exact hlt)⟩
      obtain ⟨ad, rfl, _, hc⟩ := hr.at_ hlt
      have cs : w.cell? (ad.add k) = some (.int .i64 s) := hc _ (by rw [List.getElem?_map, hsk]; rfl)
      have HS := Lib.hid hsk
      clear hsk hc
      by_cases he : x = s
      · have HM := Lib.hid (show x ∈ xs from he ▸ List.mem_of_getElem? HS.out)
        subst he
        go_wp2
        go_ret
        exact ⟨⟨_, rfl, fun _ => HM.out, fun _ => by omega⟩, rfl⟩
      · have HX := Lib.hid (show x ∉ xs.take (k + 1) by
          rw [List.take_add_one, HS.out]
          simp only [Option.toList_some, List.mem_append, List.mem_singleton, not_or]
          exact ⟨HN.out, he⟩)
        have g1 : (x == s) = false := by simp [he]
        clear he
        go_wp2
        go_round
        case rel => exact ⟨k + 1, by omega, by go_num, HX.out⟩
        case measure => simp [intOf]; omega
    · have HF := Lib.hid (show x ∉ xs by have := HN.out; rwa [List.take_of_length_le (by rw [HL.out]; omega)] at this)
      go_wp2
      go_ret
      exact ⟨⟨-1, rfl, fun h => absurd h (by omega), fun h => absurd h HF.out⟩, rfl⟩
theorem containsI_any (A : Option Addr) (n c : Nat) (xs : List Int) (x : Int) (w : World) (hr : Rd w 1 A n (xs.map (Value.int .i64))) (hn : n ≤ 1000) :
    Calls Tryz.prog 107 #[.slice A n c, .int .i64 x] w fun e w' => e = .returned (.bool (decide (x ∈ xs))) ∧ w = w' := by
  have HC := Lib.hid (indexI_any A n c xs x w hr hn)
  clear hr
  go_enter Tryz.func107, Tryz.ntmps107
  go_wp2_with fail
  refine HC.out.mono ?_
  rintro e w1 ⟨⟨r, rfl, hi⟩, rfl⟩
  have HI := Lib.hid hi
  clear hi
  by_cases h : 0 ≤ r
  · have HM := Lib.hid (HI.out.1 h)
    go_wp2
    go_ret
    exact ⟨retB (by simp [HM.out]), rfl⟩
  · have HM := Lib.hid (fun m => h (HI.out.2 m))
    have h' : r < 0 := by omega
    clear h
    go_wp2
    go_ret
    exact ⟨retB (by simp; exact HI.out), rfl⟩
end Go.Proofs.YtdgomaoikeffhaaGreat
