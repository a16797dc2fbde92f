/- narrow.Decode and its reference hand back the same codes: decN of the bytes. -/
import Derived.Test.YtoopchpolcfdaaaDoorRefN2
namespace Go.Proofs.YtoopchpolcfdaaaDoor
open Go.RowKit

theorem own_below {w w' : World} {base : Nat} {e : TypeId} {size n : Nat} {v : Value} {xs : List Value} (h : w.ownsRow base e size v n xs) (hb : Below w.heap.size w w') : w'.ownsRow base e size v n xs :=
  h.kept (row := none) ⟨hb.os, hb.tape, hb.output, hb.size, fun k hk _ => hb.block k hk⟩ (by rcases v.ownBlock with _ | _ <;> simp)
theorem below_go {B : Nat} {w a b : World} (h : Below B w a) (hB : B ≤ a.heap.size) (k : Below a.heap.size a b) : Below B w b := h.trans (k.mono hB)

theorem firstN4_pos (x y z t : Int) : 1 ≤ (firstN4 x y z t).2 := by
  unfold firstN4
  split
  · exact Nat.le_refl _
  · split
    · show 1 ≤ 2; omega
    · split
      · show 1 ≤ 3; omega
      · split
        · show 1 ≤ 4; omega
        · exact Nat.le_refl _
theorem firstN_le (bs : List Int) (h : bs ≠ []) : (firstN bs).2 ≤ bs.length := by
  have hl : 0 < bs.length := by
    cases bs with
    | nil => exact absurd rfl h
    | cons _ _ => simp
  unfold firstN firstN4
  split
  · exact hl
  · split
    · rename_i c; have := getD_lt (bs := bs) (i := 1) (by omega); show 2 ≤ _; omega
    · split
      · rename_i c; have := getD_lt (bs := bs) (i := 2) (by omega); show 3 ≤ _; omega
      · split
        · rename_i c; have := getD_lt (bs := bs) (i := 3) (by omega); show 4 ≤ _; omega
        · exact hl
/-- The codes of bytes, with so many rounds at most. -/
def decNF : Nat → List Int → List Int
  | 0, _ => []
  | _ + 1, [] => []
  | f + 1, b :: r => (firstN (b :: r)).1 :: decNF f ((b :: r).drop (firstN (b :: r)).2)
theorem decNF_more : ∀ (f g : Nat) (bs : List Int), bs.length ≤ f → bs.length ≤ g → decNF f bs = decNF g bs := by
  intro f
  induction f with
  | zero =>
    intro g bs h _
    have : bs = [] := List.eq_nil_of_length_eq_zero (by omega)
    subst this
    cases g <;> rfl
  | succ f ih =>
    intro g bs h1 h2
    match bs, g, h1, h2 with
    | [], 0, _, _ => rfl
    | [], g + 1, _, _ => rfl
    | b :: r, g + 1, h1, h2 =>
      have hp := firstN4_pos ((b :: r).getD 0 0) ((b :: r).getD 1 0) ((b :: r).getD 2 0) ((b :: r).getD 3 0)
      have hp' : 1 ≤ (firstN (b :: r)).2 := hp
      simp only [decNF]
      congr 1
      apply ih
      · rw [List.length_drop]; simp only [List.length_cons] at *; omega
      · rw [List.length_drop]; simp only [List.length_cons] at *; omega
def decN (bs : List Int) : List Int := decNF bs.length bs
theorem decN_nil : decN [] = [] := rfl
theorem decN_step (bs : List Int) (h : bs ≠ []) : decN bs = (firstN bs).1 :: decN (bs.drop (firstN bs).2) := by
  match bs, h with
  | b :: r, _ =>
    have hp : 1 ≤ (firstN (b :: r)).2 := firstN4_pos _ _ _ _
    show decNF (r.length + 1) (b :: r) = _
    simp only [decNF]
    congr 1
    exact decNF_more _ _ _ (by rw [List.length_drop]; simp only [List.length_cons]; omega) (Nat.le_refl _)
theorem decN_ind (P : List Int → Prop) (h0 : P []) (h1 : ∀ bs, bs ≠ [] → P (bs.drop (firstN bs).2) → P bs) : ∀ bs, P bs := by
  have : ∀ (n : Nat) (bs : List Int), bs.length ≤ n → P bs := by
    intro n
    induction n with
    | zero => intro bs h; rw [List.eq_nil_of_length_eq_zero (show bs.length = 0 by omega)]; exact h0
    | succ n ih =>
      intro bs h
      by_cases he : bs = []
      · rw [he]; exact h0
      · have hp : 1 ≤ (firstN bs).2 := firstN4_pos _ _ _ _
        have hl : 0 < bs.length := by
          cases bs with
          | nil => exact absurd rfl he
          | cons _ _ => simp
        exact h1 bs he (ih _ (by rw [List.length_drop]; omega))
  exact fun bs => this bs.length bs (Nat.le_refl _)
theorem decN_len (bs : List Int) : (decN bs).length ≤ bs.length := by
  refine decN_ind (fun bs => (decN bs).length ≤ bs.length) (Nat.le_refl _) (fun bs he ih => ?_) bs
  have hp : 1 ≤ (firstN bs).2 := firstN4_pos _ _ _ _
  have hl := firstN_le bs he
  show (decN bs).length ≤ bs.length
  rw [decN_step bs he, List.length_cons]
  have ih' : (decN (bs.drop (firstN bs).2)).length ≤ (bs.drop (firstN bs).2).length := ih
  rw [List.length_drop] at ih'
  omega

theorem firstN_b (A : Option Addr) (n c : Nat) (bs : List Int) (w : World) (hs : TabN w) (hr : Rd w 1 A n (bs.map (Value.int .u8))) (hu : ∀ x ∈ bs, Byte8 x) (hn : 0 < n) (hm : n ≤ 16777216) (hc : n ≤ c) :
    Calls Tryd.prog 44 #[.slice A n c] w fun e w' => e = .returned (.tuple #[.int .i64 (firstN bs).1, .int .i64 ((firstN bs).2 : Int)]) ∧ Below w.heap.size w w' :=
  (firstN_any A n c bs w hs hr hu hn hm hc).mono fun _ _ ⟨he, q, hq⟩ => ⟨he, hq ▸ drewBelow q⟩

set_option maxHeartbeats 1000000 in
theorem decodeN_any (A : Option Addr) (n c : Nat) (us : List Int) (w : World) (hs : TabN w) (hr : Rd w 1 A n (us.map (Value.int .u8))) (hu : ∀ x ∈ us, Byte8 x) (hm : n ≤ 1000000) (hc : n ≤ c) :
    Calls Tryd.prog 29 #[.slice A n c] w fun e w' => ∃ v, e = .returned v ∧ w'.ownsRow w.heap.size 3 1 v (decN us).length ((decN us).map (Value.int .i64)) ∧ Below w.heap.size w w' := by
  go_enter Tryd.func29, Tryd.ntmps29
  go_wp2_with (at_make; refine wpList_mk rfl _ _ _ rfl intSlice (base := w.heap.size) _ n rfl rfl rfl (by omega) (by unfold maxLen; omega) (Nat.le_refl _) ?_; intro v0 w0 hown0 hg0)
  have hb0 : Below w.heap.size w w0 := (Below.refl _ _).grown hg0 (Nat.le_refl _) (fun k hk => by cases hk)
  go_loopw [0, 3] (fun u v wr => ∃ (A' : Option Addr) (m c' : Nat) (us' acc : List Int), u = .slice A' m c' ∧ m ≤ c' ∧ Rd w 1 A' m (us'.map (Value.int .u8)) ∧ (∀ x ∈ us', Byte8 x) ∧ wr.ownsRow w.heap.size 3 1 v acc.length (acc.map (Value.int .i64)) ∧ acc.length + m ≤ n ∧ decN us = acc ++ decN us' ∧ Below w.heap.size w wr) (fun u _ _ => lenOfV u)
  case atStart => exact ⟨A, n, c, us, [], rfl, hc, hr, hu, by simpa using hown0, by simp, by simp, hb0⟩
  case round =>
    obtain ⟨A', m, c', us', acc, rfl, hmc, hr', hu', hown, hle, hd, hb⟩ := hrel
    have hlen : us'.length = m := by simpa using hr'.len1
    have HD := Lib.hid hd
    have HL := Lib.hid hlen
    clear hd hlen
    by_cases hpos : 0 < m
    · have hne : us' ≠ [] := by intro e; have := HL.out; simp [e] at this; omega
      have hf1 : 1 ≤ (firstN us').2 := firstN4_pos _ _ _ _
      have hf2 := firstN_le us' hne
      rw [HL.out] at hf2
      have HS := Lib.hid (decN_step us' hne)
      clear hne
      go_wp2_with fail
      refine (firstN_b A' m c' us' _ (hs.below hb) (hr'.below hb) hu' hpos (by omega) hmc).mono ?_
      rintro e w2 ⟨rfl, hbf⟩
      have hown2 := own_below hown hbf
      have hb2 := below_go hb hb.size hbf
      go_wp2_with (at_builtin; refine wpList_app rfl _ _ _ rfl intSlice (by decide) u3 acc.length _ rfl (hown2.alloc _) ⟨w2.heap.size, 0, none⟩ 1 1 [.int .i64 (firstN us').1] rfl rfl (cell_one_new _ _ _) (oneInt _ _) (by omega) (by unfold maxLen; omega) (Nat.le_trans hb2.size (by simp)) ?_; intro v1 w1 hown1 hg1 hat1)
      have hcut := hr'.cut (k := (firstN us').2) (cap := c') hf2 hmc
      have hgr := below_app (hb2.alloc hb2.size _) hg1 (hown2.alloc _) (Nat.le_trans hb2.size (by simp))
      go_roundw
      case rel =>
        refine ⟨_, _, _, us'.drop (firstN us').2, acc ++ [(firstN us').1], rfl, by omega, ?_, fun x hx => hu' x (List.mem_of_mem_drop hx), ?_, by simp; omega, ?_, hgr⟩
        · simpa using hcut
        · simpa using hown1
        · rw [HD.out, HS.out]; simp
      case measure => simp [lenOfV]; omega
    · have h0 : us' = [] := List.eq_nil_of_length_eq_zero (by rw [HL.out]; omega)
      subst h0
      have HN := Lib.hid (show decN us = acc by rw [HD.out]; simp [decN_nil])
      go_wp2
      go_ret
      exact ⟨u3, rfl, by rw [HN.out]; exact hown, hb⟩

/-- What firstN can be: the byte itself, its ill code, or a code of more than one byte. -/
theorem firstN_cases (bs : List Int) (hu : ∀ x ∈ bs, Byte8 x) : (bs.getD 0 0 < 128 ∧ firstN bs = (bs.getD 0 0, 1)) ∨ (128 ≤ bs.getD 0 0 ∧ firstN bs = (1114112 + bs.getD 0 0, 1)) ∨ (128 ≤ bs.getD 0 0 ∧ (firstN bs).2 ≠ 1 ∧ 128 ≤ (firstN bs).1 ∧ sizeN (firstN bs).1 = ((firstN bs).2 : Int)) := by
  obtain ⟨x0, x1⟩ := byte_getD hu 0
  unfold firstN
  generalize bs.getD 0 0 = x at *
  generalize bs.getD 1 0 = y
  generalize bs.getD 2 0 = z
  generalize bs.getD 3 0 = t
  unfold firstN4
  by_cases c1 : x < 128
  · rw [if_pos c1]; exact .inl ⟨c1, rfl⟩
  rw [if_neg c1]
  right
  split
  · rename_i g
    exact .inr ⟨by omega, by show 2 ≠ 1; omega, ((sizeN_inv _).1 g.2.2.2).1, g.2.2.2⟩
  · split
    · rename_i g
      have := ((sizeN_inv _).2.1 g.2.2.2.2).1
      exact .inr ⟨by omega, by show 3 ≠ 1; omega, by show 128 ≤ v3N x y z; omega, g.2.2.2.2⟩
    · split
      · rename_i g
        have := ((sizeN_inv _).2.2 g.2.2.2.2).1
        exact .inr ⟨by omega, by show 4 ≠ 1; omega, by show 128 ≤ v4N x y z t; omega, g.2.2.2.2⟩
      · exact .inl ⟨by omega, rfl⟩
end Go.Proofs.YtoopchpolcfdaaaDoor
