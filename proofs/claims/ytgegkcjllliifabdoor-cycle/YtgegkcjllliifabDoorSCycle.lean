/-
  The walks of cycle and Cycle.
-/
import Derived.Test.YtgegkcjllliifabDoorSRing
namespace Go.Proofs.YtgegkcjllliifabDoor
open Go.RowKit

set_option maxHeartbeats 800000 in
theorem cycle_any (n words : Nat) (w : World) (hT : Tab w) (n1 : 1 ≤ n) (n2 : n ≤ 60) (w1 : 1 ≤ words) (w2 : words ≤ 8) :
    Calls Tryd.prog 12 #[.int .i64 n, .int .i64 words] w fun e w' => e = .returned (.bool true) ∧ Below w.heap.size w w' := by
  have T := hide hT
  have Q := hide (quiet_any 16 1 w (by omega) (by omega) (by omega) (by omega))
  obtain ⟨sz, z1, z2, z3, z4, z5⟩ := size_bd words w1
  have z6 : sz ≤ 8 := by
    have : sizeOf' words ≤ 8 := by unfold sizeOf'; omega
    omega
  have Z1 := hide z1
  clear hT z1 z3 z4 z5
  go_enter Tryd.func12, Tryd.ntmps12
  go_wp2_with fail
  refine (unhide Q).mono ?_
  rintro e wn ⟨hb, rfl, hnew⟩
  obtain ⟨L0, h0⟩ := Hd.new (unhide T) (Below.refl _ _) hnew
  have H0 := hide h0
  clear hnew h0
  go_wp2
  go_loopw [6, 7, 8] (fun fs ls i wr => ∃ (k : Nat) (P : List Nat) (L : HL) (s : St), k ≤ n ∧ i = .int .i64 k ∧ fs = .int .i64 (firstA P) ∧ ls = .int .i64 (lastA P) ∧ Hid (P.length = k) ∧ Hid (Ring sz s P) ∧ Hid (s.roots = rootA P) ∧ Hid (Hd w wr hb L s)) (fun _ _ i _ => 100 - (intOf i).toNat)
  case atStart => exact ⟨0, [], L0, _, by omega, rfl, rfl, rfl, hide rfl, hide (Ring.init sz), hide rfl, H0⟩
  case round =>
    obtain ⟨k, P, L, s, hk, rfl, rfl, rfl, HP, RG, RT, HD⟩ := hrel
    by_cases hlt : k < n
    · obtain ⟨kb, hkb⟩ := (unhide RG).room (by omega) z6 (by rw [unhide HP]; omega)
      have C1 := hide (hd_alloc (unhide HD) words sz kb false w1 (by rw [(unhide RG).n]; omega) (unhide Z1) hkb)
      clear hkb
      go_wp2_with fail
      refine (unhide C1).mono ?_
      rintro e w3 ⟨rfl, h3, l3, _⟩
      generalize hs3 : s.laid kb sz false = t at *
      have hkb2 : kb + sz ≤ 512 := by
        have := l3.lt
        rw [(unhide RG).n] at this
        exact this
      obtain ⟨rg2, at2⟩ := (unhide RG).lay (by omega) z6 l3 (lastA P) (fun j hj => lastA_at j hj)
      have RG2 := hide rg2
      have AT2 := hide at2
      have H3 := hide h3
      have hr3 : Hid (t.roots = rootA P) := l3.roots.trans (unhide RT)
      have hn3 : Hid (t.n = 16) := l3.n.trans (unhide RG).n
      clear hs3 h3 l3 rg2 at2
      have LA : Hid (-1 ≤ lastA P ∧ lastA P ≤ 2000000) := hide (by
        rcases Nat.eq_zero_or_pos P.length with e | e
        · have : P = [] := List.eq_nil_of_length_eq_zero e
          subst this
          show -1 ≤ (0 : Int) ∧ (0 : Int) ≤ 2000000
          omega
        · have hm := ((unhide RG).beg _).2 (List.getElem_mem (show P.length - 1 < P.length by omega))
          have := ((unhide RG).wf.bg _ hm).1
          rw [(unhide RG).n] at this
          rw [lastA_at (P.length - 1) (by omega)]
          unfold adr
          omega)
      by_cases ck : k = 0
      · have hP0 : P = [] := List.eq_nil_of_length_eq_zero ((unhide HP).trans ck)
        subst ck
        have hr : t.roots = [] := by rw [unhide hr3, hP0]; rfl
        have HP0 := hide hP0
        clear hP0
        have C4 := hPush_ok L t (1048576 + (kb : Int) * 8) w3 (unhide H3).r (by rw [hr]; simp)
        rw [hr, (unhide H3).e] at C4
        have CC4 := hide C4
        clear hr C4
        go_wp2_with fail
        refine (unhide CC4).mono ?_
        rintro e w4 ⟨rfl, k4⟩
        obtain ⟨L4, h4, _, _⟩ := (unhide H3).hst k4 ((unhide H3).wf.roots _)
        have C5 := hStore_ok L4 _ (1048576 + (kb : Int) * 8) (lastA P) kb kb w4 h4.r h4.wf.ok (by omega) (unhide AT2) (by omega) (by omega) (by show kb < t.n * 32; rw [unhide hn3]; omega)
        rw [h4.e] at C5
        have CC5 := hide C5
        have H4 := hide h4
        clear k4 h4 C5
        go_wp2_with fail
        refine (unhide CC5).mono ?_
        rintro e w5 ⟨rfl, r5, t5⟩
        have H5 := hide ((unhide H4).touch r5 ((unhide H4).wf.setWd _ _) t5)
        have RG5 : Hid (Ring sz (St.setWd { t with roots := [] ++ [1048576 + (kb : Int) * 8] } kb (lastA P)) (P ++ [kb])) := hide ((unhide RG2).roots _)
        have HF : Hid (firstA (P ++ [kb]) = 1048576 + (kb : Int) * 8 ∧ rootA (P ++ [kb]) = [1048576 + (kb : Int) * 8]) := hide (by rw [unhide HP0]; exact ⟨rfl, rfl⟩)
        clear r5 t5
        go_wp2
        go_roundw
        case rel => exact ⟨1, P ++ [kb], L4, _, by omega, by go_num, by rw [(unhide HF).1], by rw [lastA_append]; rfl, hide (by rw [List.length_append, unhide HP]; rfl), RG5, hide (by rw [(unhide HF).2]; rfl), H5⟩
        case measure => simp [intOf]
      · have ck' : ((k : Int) == 0) = false := by simp; omega
        have hpos : 0 < P.length := by rw [unhide HP]; omega
        have C5 := hStore_ok L t (1048576 + (kb : Int) * 8) (lastA P) kb kb w3 (unhide H3).r (unhide H3).wf.ok (by omega) (unhide AT2) (by omega) (by omega) (by rw [unhide hn3]; omega)
        rw [(unhide H3).e] at C5
        have CC5 := hide C5
        clear C5
        go_wp2_with fail
        refine (unhide CC5).mono ?_
        rintro e w5 ⟨rfl, r5, t5⟩
        have H5 := hide ((unhide H3).touch r5 ((unhide H3).wf.setWd _ _) t5)
        obtain ⟨fa1, fa2⟩ := firstA_append hpos kb
        have FA1 := hide fa1
        have FA2 := hide fa2
        clear r5 t5 fa1 fa2
        go_wp2
        go_roundw
        case rel => exact ⟨k + 1, P ++ [kb], L, _, by omega, by go_num, by rw [unhide FA1], by rw [lastA_append]; rfl, hide (by rw [List.length_append, unhide HP]; rfl), RG2, hide (by rw [unhide FA2]; exact unhide hr3), H5⟩
        case measure => simp [intOf]; omega
    · obtain rfl : k = n := by omega
      have hpos : 0 < P.length := by rw [unhide HP]; omega
      obtain ⟨fa, ra⟩ := firstA_pos hpos
      have la := lastA_at (P := P) (P.length - 1) (by omega)
      have hm0 : P[0] ∈ P := List.getElem_mem hpos
      have hp0 : P[0] < 512 := by
        have := ((unhide RG).wf.bg _ (((unhide RG).beg _).2 hm0)).1
        rw [(unhide RG).n] at this
        exact this
      have hat0 := (unhide RG).at (by omega) hm0
      have C5 := hStore_ok L s (adr (P[0])) (lastA P) (P[0]) (P[0]) _ (unhide HD).r (unhide HD).wf.ok (by unfold adr; omega) hat0 (by unfold adr; omega) (by unfold adr; omega) (by rw [(unhide RG).n]; omega)
      rw [(unhide HD).e, ← fa] at C5
      have CC5 := hide C5
      have RA := hide ra
      have LA := hide la
      have RC : Hid (∀ u, u = ({ s.setWd (P[0]) (lastA P) with roots := [adr (P[0])] } : St) → ∀ j, u.Reach j ↔ j ∈ P) := fun u hu j => (unhide RG).all (by omega) hpos u (by rw [hu, la]) j
      clear fa ra la C5 hat0 hm0 hp0
      go_wp2_with fail
      refine (unhide CC5).mono ?_
      rintro e w5 ⟨rfl, r5, t5⟩
      have h5 := (unhide HD).touch r5 ((unhide HD).wf.setWd _ _) t5
      have e5 : s.setWd (P[0]) (lastA P) = { s.setWd (P[0]) (lastA P) with roots := [adr (P[0])] } := by
        have : s.roots = [adr (P[0])] := (unhide RT).trans (unhide RA)
        rw [← this]
        rfl
      rw [e5] at h5
      generalize hu : ({ s.setWd (P[0]) (lastA P) with roots := [adr (P[0])] } : St) = u at *
      have hreach := unhide RC u rfl
      have hun : u.n = 16 := by rw [← hu]; exact (unhide RG).n
      have huc : u.colls = 0 := by rw [← hu]; exact (unhide RG).colls
      have hur : u.roots = [adr (P[0])] := by rw [← hu]
      have C6 := clean_any L u w5 h5.r h5.wf (by rw [huc]; exact Nat.zero_le _)
      rw [h5.e] at C6
      have CC6 := hide C6
      have H5 := hide h5
      have HR := hide hreach
      have HUN := hide hun
      have HUC := hide huc
      have HUR := hide hur
      clear r5 t5 h5 e5 hu hreach hun huc hur C6
      go_wp2_with fail
      refine (unhide CC6).mono ?_
      rintro e w6 ⟨t, rfl, cl, k6⟩
      obtain ⟨L6, h6, _, _⟩ := (unhide H5).hst k6 cl.wf cl.trig
      have hcnt : cntF t.beg (t.n * 32) = k := by
        rw [cl.n, unhide HUN, show 16 * 32 = 512 from rfl, cntF_congr (g := s.beg), (unhide RG).cnt, unhide HP]
        intro j _
        have a := (cl.beg j).trans (unhide HR j)
        have b := (unhide RG).beg j
        cases h1 : t.beg j <;> cases h2 : s.beg j <;> simp_all
      have htn : t.n = 16 := cl.n.trans (unhide HUN)
      have htc : t.colls = 1 := by rw [cl.colls, unhide HUC]
      have htr : t.roots = [adr (P[0])] := cl.roots.trans (unhide HUR)
      unfold St.counts
      rw [hcnt]
      obtain ⟨W7, hW7, b7, g7⟩ : ∃ W7, w6.alloc (ctObj k (sumW t (t.n * 32)) t.colls t.again t.used t.unsw) = W7 ∧ Below w6.heap.size w6 W7 ∧ W7.heap[w6.heap.size]? = some (ctObj k (sumW t (t.n * 32)) t.colls t.again t.used t.unsw) := ⟨_, rfl, (Below.refl _ _).alloc (Nat.le_refl _) _, heap_alloc_new w6 _⟩
      have h7 := h6.below b7
      have HSZ := hide h6.b.size
      have hnot : w6.heap.size ∉ L6.blocks := fun e => by have := h6.r.lt _ e; omega
      have C8 := hPop_ok L6 t 0 W7 h7.r (by rw [htr]; rfl)
      rw [h7.e] at C8
      have CC8 := hide C8
      have HW7 := hide hW7
      unfold ctObj at HW7
      have H7 := hide h7
      have G7 := hide g7
      obtain ⟨f0, _⟩ := ctObj_cells g7
      have NT := hide hnot
      have HTR := hide htr
      have HTC := hide htc
      clear k6 cl h6 hcnt htn htc htr h7 g7 hnot C8 b7 hW7
      go_wp2_with fail
      rw [unhide HW7]
      refine (unhide CC8).mono ?_
      rintro e w8 ⟨rfl, k8⟩
      have e8 : ({ t with roots := t.roots.take 0 } : St) = { t with roots := [] } := by simp
      rw [e8] at k8
      obtain ⟨L8, h8, i8, t8⟩ := (unhide H7).hst k8 ((unhide H7).wf.roots [])
      have z7 := heap_lt (unhide G7)
      have g8 := (t8.block _ z7 (unhide NT)).trans (unhide G7)
      have n8 : w6.heap.size ∉ L8.blocks := fun e => (i8 _ e).elim (unhide NT) (fun x => by omega)
      have C9 := clean_any L8 _ w8 h8.r h8.wf (by show t.colls ≤ _; rw [unhide HTC]; omega)
      rw [h8.e] at C9
      have CC9 := hide C9
      have H8 := hide h8
      have G8 := hide g8
      have N8 := hide n8
      clear k8 e8 h8 i8 t8 g8 n8 C9 z7 f0
      go_wp2_with fail
      refine (unhide CC9).mono ?_
      rintro e w9 ⟨u9, rfl, cl9, k9⟩
      obtain ⟨L9, h9, i9, t9⟩ := (unhide H8).hst k9 cl9.wf cl9.trig
      have g9 := (t9.block _ (heap_lt (unhide G8)) (unhide N8)).trans (unhide G8)
      have hc9 : cntF u9.beg (u9.n * 32) = 0 := cntF_zero fun j _ => by
        cases hh : u9.beg j with
        | false => rfl
        | true =>
          exfalso
          have hr := (cl9.beg j).1 hh
          have key : ∀ q, St.Reach { t with roots := [] } q → False := by
            intro q hq
            induction hq with
            | root h1 _ => cases h1
            | word _ _ _ _ ih => exact ih
          exact key j hr
      unfold St.counts
      rw [hc9]
      obtain ⟨p0, p1, p2, p3, p4, p5, pz⟩ := ctObj_cells g9
      have HB := hide h9.b
      clear k9 cl9 h9 i9 t9 g9 hc9
      go_wp2
      go_ret
      have hs := unhide HSZ
      exact ⟨rfl, (((((((unhide HB).trans (below_setB _ _ _ 0 _ hs)).trans (below_setB _ _ _ 1 _ hs)).trans (below_setB _ _ _ 2 _ hs)).trans (below_setB _ _ _ 3 _ hs)).trans (below_setB _ _ _ 4 _ hs)).trans (below_setB _ _ _ 5 _ hs))⟩

set_option maxHeartbeats 400000 in
theorem Cycle_any (a b c : Int) (w : World) (hT : Tab w) (a1 : -9223372036854775808 ≤ a) (a2 : a ≤ 9223372036854775807) (b1 : -9223372036854775808 ≤ b) (b2 : b ≤ 9223372036854775807) :
    Calls Tryd.prog 4 #[.int .i64 a, .int .i64 b, .int .i64 c] w fun e w' => e = .returned (.bool true) ∧ Below w.heap.size w w' := by
  have CP := hide (saysPick_any a 60 w a1 a2 (by omega) (by omega))
  have CP2 := hide (saysPick_any b 8 w b1 b2 (by omega) (by omega))
  have hp := pickN_lt a 60 (by omega)
  have hq := pickN_lt b 8 (by omega)
  generalize pickN a 60 = p at *
  generalize pickN b 8 = q at *
  have C : Hid (Calls Tryd.prog 12 #[.int .i64 (1 + (p : Int)), .int .i64 (1 + (q : Int))] w fun e w' => e = .returned (.bool true) ∧ Below w.heap.size w w') := hide (by
    have := cycle_any (1 + p) (1 + q) w hT (by omega) (by omega) (by omega) (by omega)
    rw [show ((1 + p : Nat) : Int) = 1 + (p : Int) by omega, show ((1 + q : Nat) : Int) = 1 + (q : Int) by omega] at this
    exact this)
  clear hT
  go_enter Tryd.func4, Tryd.ntmps4
  go_wp2_with fail
  refine (unhide CP).mono ?_
  rintro e w1 ⟨rfl, rfl⟩
  go_wp2_with fail
  refine (unhide CP2).mono ?_
  rintro e w1 ⟨rfl, rfl⟩
  go_wp2_with (go_at_call 12; refine (unhide C).mono ?_; rintro e w1 ⟨rfl, hb⟩)
  go_ret
  exact ⟨rfl, by assumption⟩
end Go.Proofs.YtgegkcjllliifabDoor
