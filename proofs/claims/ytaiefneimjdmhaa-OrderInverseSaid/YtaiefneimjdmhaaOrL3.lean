/- naskhlaw29.OrderInverse. -/
import Derived.Test.YtaiefneimjdmhaaOrAw
namespace Go.Proofs.Ytaiefneimjdmhaa
open Go.RowKit
def natI (o : List Nat) : List Int := o.map fun i => ((i : Nat) : Int)
theorem natI_len (o : List Nat) : (natI o).length = o.length := by simp [natI]
theorem natI_perm {o : List Nat} {n : Nat} (hp : o.Perm (List.range n)) : permB (natI o) = true := by
  apply decide_eq_true
  refine ⟨fun x hx => ?_, ?_⟩
  · obtain ⟨i, hi, rfl⟩ := List.mem_map.1 hx
    have := List.mem_range.1 (hp.mem_iff.1 hi)
    rw [natI_len, hp.length_eq, List.length_range]
    omega
  · unfold natI
    rw [List.Nodup, List.pairwise_map]
    exact ((hp.nodup_iff.2 List.nodup_range) : o.Nodup).imp (fun {a b} h e => h (by omega))
theorem natI_nat (o : List Nat) : natL (natI o) = o := by
  unfold natL natI
  rw [List.map_map]
  exact List.map_id'' (fun x => by simp) _
theorem invE_nat {o : List Nat} {n : Nat} (hp : o.Perm (List.range n)) : invE (natI o) = (natI (invF o), 0) := by
  unfold invE
  rw [if_pos (natI_perm hp), natI_nat]
  rfl
theorem appE_nat {o : List Nat} {n : Nat} (hp : o.Perm (List.range n)) {l : List Int} (hl : l.length = n) : appE (natI o) l = (o.map fun i => l.getD i 0, 0) := by
  unfold appE
  rw [if_pos ⟨natI_perm hp, by rw [natI_len, hp.length_eq, List.length_range, hl]⟩, natI_nat]
set_option maxRecDepth 100000 in
set_option maxHeartbeats 4000000 in
theorem orderInverse_any (A B : Option Addr) (n c m d : Nat) (ls l : List Int) (w : World) (hr : Rd w 1 A n (ls.map (Value.int .i64))) (hs : Rd w 1 B m (l.map (Value.int .i64))) (hn : n ≤ maxLen) (hm : m ≤ maxLen) :
    Calls Try.prog 5 #[.slice A n c, .slice B m d] w fun e w' => e = .returned (.bool true) ∧ Below w.heap.size w w' := by
  unfold maxLen at hn hm
  have HAW := Lib.hid awakeOr_any
  by_cases hn3 : 200 < n
  · have g1 : (200 : Int) < (n : Int) := by omega
    clear hr hs
    go_enter Try.func5, Try.ntmps5
    go_wp2_with (first
      | (go_at_call 10; refine (HAW.out _).mono ?_; rintro e w1 ⟨rfl, hb1⟩)
      | fail)
    go_ret
    exact ⟨rfl, hb1⟩
  · have g1 : ¬ (200 : Int) < (n : Int) := by omega
    have hl : ls.length = n := by simpa using hr.len1
    have hl2 : l.length = m := by simpa using hs.len1
    have hp := vis_perm ls
    rw [hl] at hp
    have hip := inv_perm hp
    have H1 := Lib.hid (orVis_any A n c ls w hr (by omega))
    have he1 := invE_nat hp
    have he2 := invE_nat hip
    rw [inv_inv hp] at he2
    obtain ⟨o, ho⟩ : ∃ o, visF ls = o := ⟨_, rfl⟩
    have hvo : visI ls = natI o := by rw [← ho]; rfl
    rw [hvo] at H1
    rw [ho] at hp hip he1 he2
    obtain ⟨v, hv⟩ : ∃ v, invF o = v := ⟨_, rfl⟩
    rw [hv] at hip he1 he2
    have hol : (natI o).length = n := by rw [natI_len, hp.length_eq, List.length_range]
    have hvl : (natI v).length = n := by rw [natI_len, hip.length_eq, List.length_range]
    have H2 := Lib.hid (fun (A1 : Option Addr) (c1 : Nat) (W : World) (h : Rd W 1 A1 n ((natI o).map (Value.int .i64))) => orInverse_any A1 n c1 (natI o) W h (by omega))
    rw [he1] at H2
    simp only [hvl] at H2
    have H3 := Lib.hid (fun (A1 : Option Addr) (c1 : Nat) (W : World) (h : Rd W 1 A1 n ((natI v).map (Value.int .i64))) => orInverse_any A1 n c1 (natI v) W h (by omega))
    rw [he2] at H3
    simp only [hol] at H3
    have HE := Lib.hid (fun (A1 A2 : Option Addr) (c1 c2 : Nat) (W : World) (h1 : Rd W 1 A1 n ((natI o).map (Value.int .i64))) (h2 : Rd W 1 A2 n ((natI o).map (Value.int .i64))) => equalInt_b A1 A2 n n c1 c2 (natI o) (natI o) W h1 h2 (by unfold maxLen; omega) (by unfold maxLen; omega))
    simp only [decide_true] at HE
    by_cases hnm : m = n
    · subst hnm
      have g2 : ((m : Int) != (m : Int)) = false := by simp
      have ha1 := appE_nat hp hl2
      have happ := app_inv hp hl2
      rw [hv] at happ
      obtain ⟨C, hC⟩ : ∃ C, o.map (fun i => l.getD i 0) = C := ⟨_, rfl⟩
      rw [hC] at ha1 happ
      have hCl : C.length = m := by rw [← hC, List.length_map, hp.length_eq, List.length_range]
      have ha2 := appE_nat hip hCl
      rw [happ] at ha2
      have H4 := Lib.hid (fun (A1 : Option Addr) (c1 : Nat) (W : World) (h : Rd W 1 A1 m ((natI o).map (Value.int .i64))) (hB : Below w.heap.size w W) => orApply_any A1 B m c1 m d (natI o) l W h (hs.below hB) (by omega) (by omega))
      rw [ha1] at H4
      simp only [hCl] at H4
      have H5 := Lib.hid (fun (A1 A2 : Option Addr) (c1 c2 : Nat) (W : World) (h : Rd W 1 A1 m ((natI v).map (Value.int .i64))) (h2 : Rd W 1 A2 m (C.map (Value.int .i64))) => orApply_any A1 A2 m c1 m c2 (natI v) C W h h2 (by omega) (by omega))
      rw [ha2] at H5
      simp only [hl2] at H5
      have HF := Lib.hid (fun (A1 : Option Addr) (c1 : Nat) (W : World) (h1 : Rd W 1 A1 m (l.map (Value.int .i64))) (hB : Below w.heap.size w W) => equalInt_b A1 B m m c1 d l l W h1 (hs.below hB) (by unfold maxLen; omega) (by unfold maxLen; omega))
      simp only [decide_true] at HF
      clear hr hs hl hl2 hp hip he1 he2 ho hvo hv hol hvl ha1 happ hC hCl ha2
      go_enter Try.func5, Try.ntmps5
      go_wp2_with (first
        | (go_at_call 11; refine H1.out.mono ?_; rintro e w1 ⟨v1, rfl, hv1, hb1⟩; obtain ⟨A1, c1, he1, _⟩ := own_form hv1; subst he1; have HR1 := Lib.hid (Rd.of_own hv1); have HB1 := Lib.hid hb1; clear hv1 hb1)
        | (go_at_call 15; with_reducible refine (H2.out A1 c1 w1 HR1.out).mono ?_; rintro e w2 ⟨v2, rfl, hv2, hb2⟩; obtain ⟨A2, c2, he2, _⟩ := own_form hv2; subst he2; have HR2 := Lib.hid (Rd.of_own hv2); have HR12 := Lib.hid (HR1.out.below hb2); have HB2 := Lib.hid (below_self HB1.out hb2); clear hv2 hb2)
        | (go_at_call 15; with_reducible refine (H3.out A2 c2 w2 HR2.out).mono ?_; rintro e w3 ⟨v3, rfl, hv3, hb3⟩; obtain ⟨A3, c3, he3, _⟩ := own_form hv3; subst he3; have HR3 := Lib.hid (Rd.of_own hv3); have HR13 := Lib.hid (HR12.out.below hb3); have HR23 := Lib.hid (HR2.out.below hb3); have HB3 := Lib.hid (below_self HB2.out hb3); clear hv3 hb3)
        | (go_at_call 12; with_reducible refine (HE.out A3 A1 c3 c1 w3 HR3.out HR13.out).mono ?_; rintro e w4 ⟨rfl, hb4⟩; have HB4 := Lib.hid (below_self HB3.out hb4); have HR14 := Lib.hid (HR13.out.below hb4); have HR24 := Lib.hid (HR23.out.below hb4); clear hb4)
        | (go_at_call 17; with_reducible refine (H4.out A1 c1 w4 HR14.out HB4.out).mono ?_; rintro e w5 ⟨v5, rfl, hv5, hb5⟩; obtain ⟨A5, c5, he5, _⟩ := own_form hv5; subst he5; have HR5 := Lib.hid (Rd.of_own hv5); have HR25 := Lib.hid (HR24.out.below hb5); have HB5 := Lib.hid (below_self HB4.out hb5); clear hv5 hb5)
        | (go_at_call 17; with_reducible refine (H5.out A2 A5 c2 c5 w5 HR25.out HR5.out).mono ?_; rintro e w6 ⟨v6, rfl, hv6, hb6⟩; obtain ⟨A6, c6, he6, _⟩ := own_form hv6; subst he6; have HR6 := Lib.hid (Rd.of_own hv6); have HB6 := Lib.hid (below_self HB5.out hb6); clear hv6 hb6)
        | (go_at_call 12; with_reducible refine (HF.out A6 c6 w6 HR6.out HB6.out).mono ?_; rintro e w7 ⟨rfl, hb7⟩; have HB7 := Lib.hid (below_self HB6.out hb7); clear hb7)
        | (go_at_call 10; refine (HAW.out _).mono ?_; rintro e w8 ⟨rfl, hb8⟩; have HB8 := Lib.hid (below_self HB7.out hb8); clear hb8)
        | fail)
      go_ret
      exact ⟨rfl, HB8.out⟩
    · have g2 : ((m : Int) != (n : Int)) = true := by simp; omega
      clear hr hs hl hl2 hp hip he1 he2 ho hvo hv hol hvl hnm
      go_enter Try.func5, Try.ntmps5
      go_wp2_with (first
        | (go_at_call 11; refine H1.out.mono ?_; rintro e w1 ⟨v1, rfl, hv1, hb1⟩; obtain ⟨A1, c1, he1, _⟩ := own_form hv1; subst he1; have HR1 := Lib.hid (Rd.of_own hv1); have HB1 := Lib.hid hb1; clear hv1 hb1)
        | (go_at_call 15; with_reducible refine (H2.out A1 c1 w1 HR1.out).mono ?_; rintro e w2 ⟨v2, rfl, hv2, hb2⟩; obtain ⟨A2, c2, he2, _⟩ := own_form hv2; subst he2; have HR2 := Lib.hid (Rd.of_own hv2); have HR12 := Lib.hid (HR1.out.below hb2); have HB2 := Lib.hid (below_self HB1.out hb2); clear hv2 hb2)
        | (go_at_call 15; with_reducible refine (H3.out A2 c2 w2 HR2.out).mono ?_; rintro e w3 ⟨v3, rfl, hv3, hb3⟩; obtain ⟨A3, c3, he3, _⟩ := own_form hv3; subst he3; have HR3 := Lib.hid (Rd.of_own hv3); have HR13 := Lib.hid (HR12.out.below hb3); have HR23 := Lib.hid (HR2.out.below hb3); have HB3 := Lib.hid (below_self HB2.out hb3); clear hv3 hb3)
        | (go_at_call 12; with_reducible refine (HE.out A3 A1 c3 c1 w3 HR3.out HR13.out).mono ?_; rintro e w4 ⟨rfl, hb4⟩; have HB4 := Lib.hid (below_self HB3.out hb4); clear hb4)
        | (go_at_call 10; refine (HAW.out _).mono ?_; rintro e w8 ⟨rfl, hb8⟩; have HB8 := Lib.hid (below_self HB4.out hb8); clear hb8)
        | fail)
      go_ret
      exact ⟨rfl, HB8.out⟩
end Go.Proofs.Ytaiefneimjdmhaa
