/-
  The walks of chain and Chain.
-/
import Derived.Test.YtgegkcjllliifaaDoorSLinks
import Derived.Test.YtgegkcjllliifaaDoorHLoad
namespace Go.Proofs.YtgegkcjllliifaaDoor
open Go.RowKit

theorem lastA_bd {sz : Nat} {s : St} {P Q : List Nat} (h : Links sz s P Q) : 0 ≤ lastA P ∧ lastA P ≤ 1100000 := by
  rcases Nat.eq_zero_or_pos P.length with e | e
  · have : P = [] := List.eq_nil_of_length_eq_zero e
    subst this
    show 0 ≤ (0 : Int) ∧ (0 : Int) ≤ 1100000
    omega
  · have := (h.two.sizes (h.sub _ (List.getElem_mem (show P.length - 1 < P.length by omega))).1).2.2
    rw [lastA_at (P.length - 1) (by omega)]
    unfold adr
    omega

/-- Where the chain is when all else has gone. -/
structure Left (sz : Nat) (t : St) (P : List Nat) : Prop where
  wf : WF t
  n : t.n = 48
  at' : ∀ j (hj : j < P.length) (i : Int), 0 ≤ i → i < 8 * sz → t.at (adr (P[j]) + i) = some (P[j])
  lt : ∀ j (hj : j < P.length), P[j] + 2 ≤ 1536
  w0 : ∀ j (hj : j < P.length), t.word (P[j]) = lastA (P.take j)
  w1 : ∀ j (hj : j < P.length), t.word (P[j] + 1) = j
theorem Links.left {sz : Nat} {s t : St} {P Q : List Nat} (h : Links sz s P Q) (z1 : 2 ≤ sz) (hP : 0 < P.length) (hr : s.roots = [lastA P + 8]) (hlen : P.length ≤ 1000) (c : Cleaned s t) : Left sz t P ∧ cntF t.beg (t.n * 32) = P.length ∧ t.unsw = 0 := by
  have hreach := fun k => h.reach z1 hP hr hlen k
  have hn : t.n = 48 := c.n.trans h.two.n
  have hfit : ∀ j (hj : j < P.length), P[j] + 2 ≤ 1536 := fun j hj => by
    have hm := (h.sub _ (List.getElem_mem hj)).1
    have := h.two.wf.fit ((h.two.beg _).2 hm)
    unfold St.Fit at this
    rw [(h.two.sizes hm).1, h.two.n] at this
    have := this.2.2.2
    simp at this
    omega
  refine ⟨⟨c.wf, hn, fun j hj i i1 i2 => ?_, hfit, fun j hj => by rw [c.word]; exact h.w0 j hj, fun j hj => by rw [c.word]; exact h.w1 j hj⟩, ?_, ?_⟩
  · exact (c.at' _ _).2 ⟨h.two.at (h.sub _ (List.getElem_mem hj)).1 _ (by omega) (by omega), (hreach _).2 (List.getElem_mem hj)⟩
  · rw [hn, show 48 * 32 = 1536 from rfl]
    exact cntF_list h.nd (fun k hk => (h.two.sizes (h.sub k hk).1).2.2) fun k => (c.beg k).trans (hreach k)
  · exact cntF_zero fun p hp => c.uns p hp

set_option maxHeartbeats 3200000 in
theorem chain_any (n words r : Nat) (w : World) (hT : Tab w) (n1 : 1 ≤ n) (n2 : n ≤ 100) (w1 : 2 ≤ words) (w2 : words ≤ 4) (r1 : 1 ≤ r) (r2 : r ≤ 16) :
    Calls Tryd.prog 17 #[.int .i64 n, .int .i64 words, .int .i64 r] w fun e w' => e = .returned (.bool true) ∧ Below w.heap.size w w' := by
  have T := hide hT
  have Q0 := hide (quiet_any 48 r w (by omega) (by omega) r1 r2)
  have Z1 : Hid (sizeOf' words = words) := hide (by unfold sizeOf'; omega)
  clear hT
  go_enter Tryd.func17, Tryd.ntmps17
  go_wp2_with fail
  refine (unhide Q0).mono ?_
  rintro e wn ⟨hb, rfl, hnew⟩
  obtain ⟨L0, h0⟩ := Hd.new (unhide T) (Below.refl _ _) hnew
  have C0 := hPush_ok L0 _ 0 wn h0.r (by show ([] : List Int).length < 24; simp)
  rw [h0.e] at C0
  have CC0 := hide C0
  have H0 := hide h0
  clear hnew h0 C0
  go_wp2_with fail
  refine (unhide CC0).mono ?_
  rintro e wp ⟨rfl, kp⟩
  obtain ⟨L1, h1, _, _⟩ := (unhide H0).hst kp ((unhide H0).wf.roots _)
  have H1 := hide h1
  have LK0 : Hid (Links words { St.init 48 r with roots := (St.init 48 r).roots ++ [0] } [] []) := hide ((Links.init words r (by omega)).roots _)
  clear kp h1
  go_wp2
  go_loopw [8, 9] (fun hd i wr => ∃ (k : Nat) (P Q : List Nat) (L : HL) (s : St) (x : Int), k ≤ n ∧ i = .int .i64 k ∧ hd = .int .i64 (lastA P) ∧ Hid (P.length = k) ∧ Hid (Q.length = 2 * k) ∧ Hid (Links words s P Q) ∧ Hid (s.roots = [x]) ∧ Hid (0 < k → x = lastA P + 8) ∧ Hid (Hd w wr hb L s)) (fun _ i _ => 200 - (intOf i).toNat)
  case atStart => exact ⟨0, [], [], L1, _, 0, by omega, rfl, rfl, hide rfl, hide rfl, LK0, hide rfl, hide (fun h => absurd h (by omega)), H1⟩
  case round =>
    clear H1 LK0
    obtain ⟨k, P, Q, L, s, x, hk, rfl, rfl, HP, HQ, LK, RT, RX, HD⟩ := hrel
    by_cases hlt : k < n
    · obtain ⟨a, ha⟩ := (unhide LK).two.room (by omega) w2 (by rw [unhide HQ]; omega) false
      have C1 := hide (hd_alloc (unhide HD) words words a false (by omega) (by rw [(unhide LK).two.n]; omega) (unhide Z1) ha)
      have HA := hide ha
      clear ha
      go_wp2_with fail
      refine (unhide C1).mono ?_
      rintro e w3 ⟨rfl, h3, l1, _⟩
      generalize hs3 : s.laid a words false = t1 at *
      have T1 := hide ((unhide LK).two.lay (by omega) w2 (unhide HA) l1)
      have L1' := hide l1
      have H3 := hide h3
      clear hs3 h3 l1
      go_wp2_with fail
      generalize (bits BinOp.and IntKind.i64 (k : Int) 1 == 1) = kd
      obtain ⟨g, hg⟩ := (unhide T1).room (by omega) w2 (by rw [List.length_append, unhide HQ]; simp; omega) kd
      refine (hd_alloc (unhide H3) words words g kd (by omega) (by rw [(unhide T1).n]; omega) (unhide Z1) hg).mono ?_
      rintro e w4 ⟨rfl, h4, l2, _⟩
      generalize hs4 : t1.laid g words kd = t2 at *
      obtain ⟨lk2, T2⟩ := (unhide LK).step w1 w2 (unhide HA) (unhide L1') hg l2
      have hma : a ∈ Q ++ [a] ++ [g] := by simp
      have hmg : g ∈ Q ++ [a] ++ [g] := by simp
      have ba := (T2.sizes hma).2.2
      have bg := (T2.sizes hmg).2.2
      have fita := T2.wf.fit ((T2.beg a).2 hma)
      have hfa : a + 2 ≤ 1536 := by
        unfold St.Fit at fita
        rw [(T2.sizes hma).1, T2.n] at fita
        have := fita.2.2.2
        simp at this
        omega
      obtain ⟨lb1, lb2⟩ := lastA_bd (unhide LK)
      have LK2 := hide lk2
      have at1 := T2.at hma (1048576 + (a : Int) * 8) (by unfold adr; omega) (by unfold adr; omega)
      have at2 := T2.at hma (1048576 + (a : Int) * 8 + 8) (by unfold adr; omega) (by unfold adr; omega)
      have at3 := T2.at hmg (1048576 + (g : Int) * 8) (by unfold adr; omega) (by unfold adr; omega)
      have AT2 := hide at2
      have AT3 := hide at3
      have TN := hide T2.n
      have hrt : t2.roots = [x] := by rw [l2.roots, (unhide L1').roots]; exact unhide RT
      have HRT := hide hrt
      have C5 := hStore_ok L t2 (1048576 + (a : Int) * 8) (lastA P) a a w4 h4.r h4.wf.ok (by omega) at1 (by omega) (by omega) (by rw [T2.n]; omega)
      rw [h4.e] at C5
      have CC5 := hide C5
      have H4 := hide h4
      clear hs4 h4 l2 lk2 T2 hma hmg fita at1 at2 at3 hrt C5 hg
      go_wp2_with fail
      refine (unhide CC5).mono ?_
      rintro e w5 ⟨rfl, r5, t5⟩
      have h5 := (unhide H4).touch r5 ((unhide H4).wf.setWd _ _) t5
      have C6 := hStore_ok L _ (1048576 + (a : Int) * 8 + 8) (k : Int) (a + 1) a w5 h5.r h5.wf.ok (by omega) (unhide AT2) (by omega) (by omega) (by show a + 1 < t2.n * 32; rw [unhide TN]; omega)
      rw [h5.e] at C6
      have CC6 := hide C6
      have H5 := hide h5
      clear r5 t5 h5 C6
      go_wp2_with fail
      refine (unhide CC6).mono ?_
      rintro e w6 ⟨rfl, r6, t6⟩
      have h6 := (unhide H5).touch r6 ((unhide H5).wf.setWd _ _) t6
      have C7 := hStore_ok L _ (1048576 + (g : Int) * 8) (1048576 + (a : Int) * 8) g g w6 h6.r h6.wf.ok (by omega) (unhide AT3) (by omega) (by omega) (by show g < t2.n * 32; rw [unhide TN]; omega)
      rw [h6.e] at C7
      have CC7 := hide C7
      have H6 := hide h6
      clear r6 t6 h6 C7
      go_wp2_with fail
      refine (unhide CC7).mono ?_
      rintro e w7 ⟨rfl, r7, t7⟩
      have h7 := (unhide H6).touch r7 ((unhide H6).wf.setWd _ _) t7
      have e7 : ((t2.setWd a (lastA P)).setWd (a + 1) (k : Int)).setWd g (1048576 + (a : Int) * 8) = ((t2.setWd a (lastA P)).setWd (a + 1) P.length).setWd g (adr a) := by rw [unhide HP]; rfl
      rw [e7] at h7
      generalize hs7 : ((t2.setWd a (lastA P)).setWd (a + 1) P.length).setWd g (adr a) = s7 at *
      have hrt7 : s7.roots = [x] := by rw [← hs7]; exact unhide HRT
      have C8 := hSet_ok L s7 0 (1048576 + (a : Int) * 8 + 8) w7 h7.r (by rw [hrt7]; simp)
      rw [h7.e, hrt7] at C8
      have CC8 := hide C8
      have H7 := hide h7
      clear r7 t7 h7 e7 hs7 hrt7 C8
      go_wp2_with fail
      refine (unhide CC8).mono ?_
      rintro e w8 ⟨rfl, k8⟩
      obtain ⟨L8, h8, _, _⟩ := (unhide H7).hst k8 ((unhide H7).wf.roots _)
      have H8 := hide h8
      have LK8 := hide ((unhide LK2).roots (List.set [x] 0 (1048576 + (a : Int) * 8 + 8)))
      clear k8 h8
      go_wp2
      go_roundw
      case rel => exact ⟨k + 1, P ++ [a], Q ++ [a] ++ [g], L8, _, 1048576 + (a : Int) * 8 + 8, by omega, by go_num, by rw [lastA_append]; rfl, hide (by rw [List.length_append, unhide HP]; rfl), hide (by rw [List.length_append, List.length_append, unhide HQ]; simp; omega), LK8, hide rfl, hide (fun _ => by rw [lastA_append]; rfl), H8⟩
      case measure => simp [intOf]; omega
    · obtain rfl : k = n := by omega
      have hpos : 0 < P.length := by rw [unhide HP]; omega
      have hx := unhide RX (by omega)
      have hrt : s.roots = [lastA P + 8] := by rw [unhide RT, hx]
      have C5 := clean_any L s _ (unhide HD).r (unhide HD).wf (by rw [(unhide LK).colls]; exact Nat.zero_le _)
      rw [(unhide HD).e] at C5
      have CC5 := hide C5
      have HRT := hide hrt
      clear C5 hx hrt
      go_wp2_with fail
      refine (unhide CC5).mono ?_
      rintro e w6 ⟨t, rfl, cl, k6⟩
      obtain ⟨L6, h6, _, _⟩ := (unhide HD).hst k6 cl.wf cl.trig
      obtain ⟨lf, hcnt, huns⟩ := (unhide LK).left w1 hpos (unhide HRT) (by rw [unhide HP]; omega) cl
      have htr : t.roots = [lastA P + 8] := cl.roots.trans (unhide HRT)
      have htc : t.colls = 1 := by rw [cl.colls, (unhide LK).colls]
      unfold St.counts
      rw [hcnt, huns, unhide HP]
      obtain ⟨W7, hW7, b7, g7⟩ : ∃ W7, w6.alloc (ctObj (k : Int) (sumW t (t.n * 32)) t.colls t.again t.used ((0 : Nat) : Int)) = W7 ∧ Below w6.heap.size w6 W7 ∧ W7.heap[w6.heap.size]? = some (ctObj (k : Int) (sumW t (t.n * 32)) t.colls t.again t.used ((0 : Nat) : Int)) := ⟨_, rfl, (Below.refl _ _).alloc (Nat.le_refl _) _, heap_alloc_new w6 _⟩
      have h7 := h6.below b7
      have hnot : w6.heap.size ∉ L6.blocks := fun e => by have := h6.r.lt _ e; omega
      have HSZ := hide h6.b.size
      have HW7 := hide hW7
      unfold ctObj at HW7
      have H7 := hide h7
      have G7 := hide g7
      obtain ⟨f0, _, _, _, _, f5, _⟩ := ctObj_cells g7
      have NT := hide hnot
      have HTR := hide htr
      have HTC := hide htc
      have LF := hide lf
      have hla := lastA_bd (unhide LK)
      have LEN := hide (unhide HP)
      clear k6 cl h6 lf hcnt huns htr htc h7 g7 hnot b7 hW7
      have E7 : Hid ((w6.alloc (.cells #[.int .i64 (k : Int), .int .i64 (sumW t (t.n * 32)), .int .i64 t.colls, .int .i64 t.again, .int .i64 t.used, .int .i64 0] 42)) = W7) := unhide HW7
      have TK : Hid (lastA (P.take k) = lastA P) := hide (by rw [← unhide HP, List.take_length])
      go_wp2
      go_loopw [15, 16] (fun av i wr => ∃ j : Nat, j ≤ k ∧ i = .int .i64 ((j : Int) - 1) ∧ av = .int .i64 (lastA (P.take j)) ∧ Hid (Hd w wr hb L6 t) ∧ Hid (wr.heap[w6.heap.size]? = some (ctObj (k : Int) (sumW t (t.n * 32)) t.colls t.again t.used ((0 : Nat) : Int)))) (fun _ i _ => ((intOf i) + 1).toNat)
      case atStart => exact ⟨k, Nat.le_refl _, rfl, by rw [unhide TK], by rw [unhide E7]; exact H7, by rw [unhide E7]; exact G7⟩
      case round =>
        obtain ⟨j, hj, rfl, rfl, HL2, GL2⟩ := hrel
        cases j with
        | zero =>
          have h2 := unhide HL2
          have C8 := hSet_ok L6 t 0 0 _ h2.r (by rw [unhide HTR]; simp)
          rw [h2.e, unhide HTR] at C8
          have CC8 := hide C8
          have e0 : lastA (P.take 0) = 0 := rfl
          rw [e0]
          clear h2 C8 e0 f0 f5
          go_wp2_with fail
          refine (unhide CC8).mono ?_
          rintro e w8 ⟨rfl, k8⟩
          obtain ⟨L8, h8, i8, t8⟩ := (unhide HL2).hst k8 ((unhide HL2).wf.roots _)
          have z7 := heap_lt (unhide GL2)
          have g8 := (t8.block _ z7 (unhide NT)).trans (unhide GL2)
          have n8 : w6.heap.size ∉ L8.blocks := fun e => (i8 _ e).elim (unhide NT) (fun x => by omega)
          have C9 := clean_any L8 _ w8 h8.r h8.wf (by show t.colls ≤ _; rw [unhide HTC]; omega)
          rw [h8.e] at C9
          have CC9 := hide C9
          have H8 := hide h8
          have G8 := hide g8
          have N8 := hide n8
          clear k8 h8 i8 t8 g8 n8 C9 z7
          go_wp2_with fail
          refine (unhide CC9).mono ?_
          rintro e w9 ⟨u9, rfl, cl9, k9⟩
          obtain ⟨L9, h9, i9, t9⟩ := (unhide H8).hst k9 cl9.wf cl9.trig
          have g9 := (t9.block _ (heap_lt (unhide G8)) (unhide N8)).trans (unhide G8)
          obtain ⟨o1, o2, o3⟩ := none_left rfl cl9
          unfold St.counts
          rw [o1, o2, o3]
          obtain ⟨p0, p1, p2, p3, p4, p5, pz⟩ := ctObj_cells g9
          have HB := hide h9.b
          clear k9 cl9 h9 i9 t9 g9 o1 o2 o3
          go_wp2
          go_ret
          have hs := unhide HSZ
          exact ⟨rfl, (((((((unhide HB).trans (below_setB _ _ _ 0 _ hs)).trans (below_setB _ _ _ 1 _ hs)).trans (below_setB _ _ _ 2 _ hs)).trans (below_setB _ _ _ 3 _ hs)).trans (below_setB _ _ _ 4 _ hs)).trans (below_setB _ _ _ 5 _ hs))⟩
        | succ j =>
          have hjP : j < P.length := by rw [unhide HP]; omega
          have e1 : lastA (P.take (j + 1)) = adr (P[j]) := lastA_take j hjP
          have ej : ((j + 1 : Nat) : Int) - 1 = (j : Int) := by omega
          rw [e1, ej]
          have lt2 := (unhide LF).lt j hjP
          obtain ⟨q, hq⟩ : ∃ q, P[j] = q := ⟨_, rfl⟩
          have at1 := (unhide LF).at' j hjP 8 (by omega) (by omega)
          have at0 := (unhide LF).at' j hjP 0 (by omega) (by omega)
          have v1 := (unhide LF).w1 j hjP
          have v0 := (unhide LF).w0 j hjP
          rw [hq] at lt2 at1 at0 v1 v0 ⊢
          have ea : adr q = 1048576 + (q : Int) * 8 := rfl
          rw [ea, Int.add_zero] at at0
          rw [ea] at at1 ⊢
          have h2 := unhide HL2
          have C8 := hLoad_ok L6 t (1048576 + (q : Int) * 8 + 8) (q + 1) q _ h2.r h2.wf.ok (by omega) at1 (by omega) (by omega) (by rw [(unhide LF).n]; omega)
          rw [h2.e, v1] at C8
          have CC8 := hide C8
          have AT0 := hide at0
          have V0 := hide v0
          clear at1 at0 v1 v0 h2 C8 hq e1 ej ea f0 f5
          go_wp2_with fail
          refine (unhide CC8).mono ?_
          rintro e w8 ⟨rfl, b8⟩
          have h8 := (unhide HL2).below b8
          have g8 := (b8.block _ (heap_lt (unhide GL2))).trans (unhide GL2)
          have C9 := hLoad_ok L6 t (1048576 + (q : Int) * 8) q q w8 h8.r h8.wf.ok (by omega) (unhide AT0) (by omega) (by omega) (by rw [(unhide LF).n]; omega)
          rw [h8.e, unhide V0] at C9
          have CC9 := hide C9
          have H8 := hide h8
          have G8 := hide g8
          clear b8 h8 g8 C9
          go_wp2_with fail
          refine (unhide CC9).mono ?_
          rintro e w9 ⟨rfl, b9⟩
          have H9 := hide ((unhide H8).below b9)
          have G9 := hide ((b9.block _ (heap_lt (unhide G8))).trans (unhide G8))
          clear b9
          go_wp2
          go_roundw
          case rel => exact ⟨j, by omega, by go_num, rfl, H9, G9⟩
          case measure => simp [intOf]

set_option maxHeartbeats 400000 in
theorem Chain_any (a b c : Int) (w : World) (hT : Tab w) (a1 : -9223372036854775808 ≤ a) (a2 : a ≤ 9223372036854775807) (b1 : -9223372036854775808 ≤ b) (b2 : b ≤ 9223372036854775807) (c1 : -9223372036854775808 ≤ c) (c2 : c ≤ 9223372036854775807) :
    Calls Tryd.prog 7 #[.int .i64 a, .int .i64 b, .int .i64 c] w fun e w' => e = .returned (.bool true) ∧ Below w.heap.size w w' := by
  have CP := hide (saysPick_any a 100 w a1 a2 (by omega) (by omega))
  have CP2 := hide (saysPick_any b 3 w b1 b2 (by omega) (by omega))
  have CP3 := hide (saysPick_any c 16 w c1 c2 (by omega) (by omega))
  have hp := pickN_lt a 100 (by omega)
  have hq := pickN_lt b 3 (by omega)
  have hr := pickN_lt c 16 (by omega)
  generalize pickN a 100 = p at *
  generalize pickN b 3 = q at *
  generalize pickN c 16 = r at *
  have C : Hid (Calls Tryd.prog 17 #[.int .i64 (1 + (p : Int)), .int .i64 (2 + (q : Int)), .int .i64 (1 + (r : Int))] w fun e w' => e = .returned (.bool true) ∧ Below w.heap.size w w') := hide (by
    have := chain_any (1 + p) (2 + q) (1 + r) w hT (by omega) (by omega) (by omega) (by omega) (by omega) (by omega)
    rw [show ((1 + p : Nat) : Int) = 1 + (p : Int) by omega, show ((2 + q : Nat) : Int) = 2 + (q : Int) by omega, show ((1 + r : Nat) : Int) = 1 + (r : Int) by omega] at this
    exact this)
  clear hT
  go_enter Tryd.func7, Tryd.ntmps7
  go_wp2_with fail
  refine (unhide CP).mono ?_
  rintro e w1 ⟨rfl, rfl⟩
  go_wp2_with fail
  refine (unhide CP2).mono ?_
  rintro e w1 ⟨rfl, rfl⟩
  go_wp2_with fail
  refine (unhide CP3).mono ?_
  rintro e w1 ⟨rfl, rfl⟩
  go_wp2_with (go_at_call 17; refine (unhide C).mono ?_; rintro e w1 ⟨rfl, hb⟩)
  go_ret
  exact ⟨rfl, by assumption⟩
end Go.Proofs.YtgegkcjllliifaaDoor
