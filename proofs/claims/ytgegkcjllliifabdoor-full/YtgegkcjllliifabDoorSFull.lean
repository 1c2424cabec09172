/-
  The walks of full and Full.
-/
import Derived.Test.YtgegkcjllliifabDoorSFill
namespace Go.Proofs.YtgegkcjllliifabDoor
open Go.RowKit

/-- What the filling keeps to. -/
structure Fill (pages sz : Nat) (s : St) (P : List Nat) : Prop where
  stk : Stk pages sz s P
  blk : ∀ p, s.blk p = false
  roots : s.roots = [lastA P]
  side : 16 < sz → Side (sz / 32) P ∧ P.length * (sz / 32) ≤ pages
theorem Fill.named {pages sz : Nat} {s : St} {P : List Nat} (h : Fill pages sz s P) (z1 : 1 ≤ sz) (q : Nat) : s.Named q ↔ s.blk q = true := by
  rw [h.blk q]
  refine ⟨fun hn => ?_, fun hn => by cases hn⟩
  exfalso
  obtain ⟨y, hy, hin, ha, hp⟩ := h.stk.named hn
  rw [h.roots] at hy
  have hy' := List.mem_singleton.1 hy
  subst hy'
  rcases Nat.eq_zero_or_pos P.length with e | e
  · have : P = [] := List.eq_nil_of_length_eq_zero e
    subst this
    have : (1048576 : Int) ≤ 0 := hin.1
    omega
  · rw [lastA_at (P.length - 1) (by omega)] at ha
    have := h.stk.at (List.getElem_mem (show P.length - 1 < P.length by omega)) 0 (by omega) (by omega)
    rw [Int.add_zero, ha] at this
    cases this
theorem Fill.lay {pages sz k : Nat} {s t : St} {P : List Nat} (h : Fill pages sz s P) (z1 : 1 ≤ sz) (zg : 16 < sz → sz % 32 = 0) (hp : s.place sz false = some k) (l : LaidTo s k sz false t) : Fill pages sz { t.setWd k (lastA P) with roots := [adr k] } (P ++ [k]) ∧ t.at (adr k) = some k := by
  obtain ⟨a, b⟩ := h.stk.lay z1 l
  refine ⟨⟨a.roots _, fun p => by show t.blk p = false; rw [l.blk]; exact h.blk p, by rw [lastA_append], fun g => ?_⟩, b⟩
  obtain ⟨s1, s2⟩ := h.side g
  obtain ⟨e1, e2⟩ := h.stk.next (c := sz / 32) (by have := zg g; omega) (by omega) s1 h.blk hp
  refine ⟨by rw [e1]; exact s1.add, ?_⟩
  rw [List.length_append]
  exact e2

/-- What is so when there is no room any more: how many there are, and where one lies that comes when the last has gone. -/
structure FullAt (pages sz : Nat) (s : St) (P : List Nat) (one : Bool) : Prop where
  pos : 0 < P.length
  small : sz ≤ 16 → P.length = 32 / sz * pages ∧ one = true
  page : sz = 32 → P.length = pages ∧ one = true
  great : 32 < sz → P.length = pages / (sz / 32) ∧ one = decide (pages % (sz / 32) = 0)
  room : ∀ j (hj : j + 1 = P.length) t, DropTo s (P[j]) t → ∃ k', t.place sz false = some k' ∧ (one = true → k' = P[j])
theorem Fill.full {pages sz n : Nat} {s : St} {P : List Nat} (h : Fill pages sz s P) (hz : sizeOf' n = sz) (z1 : 1 ≤ sz) (zg : 16 < sz → sz % 32 = 0) (zn : (sz + 31) / 32 ≤ pages) (hp : s.place sz false = none) : ∃ one, FullAt pages sz s P one := by
  have pos : 0 < P.length := by
    rcases Nat.eq_zero_or_pos P.length with e | e
    · exfalso
      have : P = [] := List.eq_nil_of_length_eq_zero e
      subst this
      refine empty_place (fun k => ?_) h.blk z1 (by rw [h.stk.sn]; exact zn) hp
      cases hb : s.beg k with
      | false => rfl
      | true => have := (h.stk.beg k).1 hb; cases this
    · exact e
  have hroom : ∀ j (hj : j + 1 = P.length) t, DropTo s (P[j]) t → ∃ k', t.place sz false = some k' := fun j hj t d => by
    have := drop_room h.stk z1 zg h.blk (List.getElem_mem (by omega)) d
    cases hh : t.place sz false with
    | none => exact absurd hh this
    | some k' => exact ⟨k', rfl⟩
  by_cases c : sz ≤ 16
  · obtain ⟨a, b⟩ := h.stk.small (size_set hz c) h.blk hp
    refine ⟨true, pos, fun _ => ⟨by rw [b, Nat.mul_comm], rfl⟩, fun e => by omega, fun e => by omega, fun j hj t d => ?_⟩
    obtain ⟨k', hk⟩ := hroom j hj t d
    exact ⟨k', hk, fun _ => drop_small h.stk (size_set hz c) a d hk⟩
  · obtain ⟨s1, s2⟩ := h.side (by omega)
    have hc : sz = sz / 32 * 32 := by have := zg (by omega); omega
    have hl := h.stk.great hc (by omega) s1 s2 h.blk hp
    by_cases m : pages % (sz / 32) = 0
    · have hfull : P.length * (sz / 32) = pages := by
        rw [hl]
        have := Nat.div_add_mod pages (sz / 32)
        rw [m, Nat.add_zero, Nat.mul_comm] at this
        exact this
      refine ⟨true, pos, fun e => by omega, fun e => ⟨?_, rfl⟩, fun e => ⟨hl, by simp [m]⟩, fun j hj t d => ?_⟩
      · rw [hl, e]; simp
      · obtain ⟨k', hk⟩ := hroom j hj t d
        exact ⟨k', hk, fun _ => drop_great h.stk hc (by omega) s1 hfull (by omega) d hk⟩
    · refine ⟨false, pos, fun e => by omega, fun e => ?_, fun e => ⟨hl, by simp [m]⟩, fun j hj t d => ?_⟩
      · exfalso
        rw [e] at m
        simp at m
        omega
      · obtain ⟨k', hk⟩ := hroom j hj t d
        exact ⟨k', hk, fun e => by cases e⟩

set_option maxRecDepth 10000 in
set_option maxHeartbeats 6400000 in
theorem full_any (pages n : Nat) (w : World) (hT : Tab w) (p1 : 1 ≤ pages) (p2 : pages ≤ 12) (n1 : 1 ≤ n) (n2 : n ≤ pages * 32) :
    Calls Tryd.prog 11 #[.int .i64 pages, .int .i64 n] w fun e w' => e = .returned (.bool true) ∧ Below w.heap.size w w' := by
  have T := hide hT
  have Q0 := hide (quiet_any pages 3 w p1 (by omega) (by omega) (by omega))
  obtain ⟨sz, z1, z2, z3, z4, z5⟩ := size_bd n n1
  have zb : sz ≤ 384 := by
    by_cases c : 16 < sz
    · have := (z4 c).1; omega
    · omega
  have zn : (sz + 31) / 32 ≤ pages := by
    by_cases c : 16 < sz
    · have := (z4 c).1; omega
    · omega
  have ZN := hide zn
  have Z1 := hide z1
  have Z4 : Hid (16 < sz → sz % 32 = 0) := hide fun h => (z4 h).1
  clear hT z1 z3 z4 z5 zn
  go_enter Tryd.func11, Tryd.ntmps11
  go_wp2_with fail
  refine (unhide Q0).mono ?_
  rintro e wn ⟨hb, rfl, hnew⟩
  obtain ⟨L0, h0⟩ := Hd.new (unhide T) (Below.refl _ _) hnew
  have C1 := hPush_ok L0 _ 0 wn h0.r (by show ([] : List Int).length < 24; simp)
  rw [h0.e] at C1
  have CC1 := hide C1
  have H0 := hide h0
  clear hnew h0 C1
  go_wp2_with fail
  refine (unhide CC1).mono ?_
  rintro e w1 ⟨rfl, k1⟩
  have k1' : HSt wn L0 { St.init pages 3 with roots := [0] } w1 := k1
  obtain ⟨L1, h1, _, _⟩ := (unhide H0).hst k1' ((unhide H0).wf.roots _)
  have H1 := hide h1
  have F1 : Hid (Fill pages sz { St.init pages 3 with roots := [0] } []) := hide ⟨(Stk.init pages sz 3).roots _, fun _ => rfl, rfl, fun _ => ⟨⟨fun j hj => absurd hj (by simp)⟩, by simp⟩⟩
  clear k1 k1' h1
  go_wp2
  go_loopw [6, 7, 8] (fun hv cv sv wr => ∃ (c : Nat) (z : Int) (P : List Nat) (L : HL) (s : St), hv = .int .i64 (lastA P) ∧ cv = .int .i64 c ∧ sv = .int .i64 z ∧ c ≤ pages * 32 ∧ Hid (P.length = c) ∧ Hid (0 < P.length → z = sz) ∧ Hid (Fill pages sz s P) ∧ Hid (s.colls = 0) ∧ Hid (Hd w wr hb L s)) (fun _ cv _ _ => 400 - (intOf cv).toNat)
  case atStart => exact ⟨0, 0, [], L1, _, rfl, rfl, rfl, Nat.zero_le _, hide rfl, hide (fun h => absurd h (by simp)), F1, hide rfl, H1⟩
  case round =>
    clear H1 F1 H0
    obtain ⟨c, z, P, L, s, rfl, rfl, rfl, hc, PL, ZS, FI, CO, HD⟩ := hrel
    cases hpl : s.place sz false with
    | none =>
      have C6 := hide (hd_full (unhide HD) (unhide FI).stk (by rw [(unhide FI).roots]; simp) ((unhide FI).named (by omega)) (by rw [unhide CO]; omega) n1 (by rw [(unhide FI).stk.sn]; exact n2) (unhide Z1) hpl)
      have HPL := hide hpl
      clear hpl
      go_wp2_with fail
      refine (unhide C6).mono ?_
      rintro e w6 ⟨rfl, L6, t6, h6, st6, tr6, tk6, tb6, tc6, ts6, tba6, tp6⟩
      have F6 : Fill pages sz t6 P := ⟨st6, fun p => by rw [tk6]; exact (unhide FI).blk p, tr6.trans (unhide FI).roots, (unhide FI).side⟩
      obtain ⟨one, fa⟩ := F6.full (unhide Z1) (by omega) (unhide Z4) (unhide ZN) tp6
      obtain rfl : z = (sz : Int) := unhide ZS fa.pos
      obtain ⟨j, hj⟩ : ∃ j, j + 1 = P.length := ⟨P.length - 1, by have := fa.pos; omega⟩
      have hm : P[j] ∈ P := List.getElem_mem (by omega)
      have hla := lastA_at j hj
      have hbeg := (st6.beg (P[j])).2 hm
      have hlt := (st6.wf.bg _ hbeg).1
      rw [st6.sn] at hlt
      have hat := st6.at hm 0 (by omega) (by omega)
      rw [Int.add_zero] at hat
      have hdt := dropped_to st6.wf hbeg
      obtain ⟨k', hk', hone⟩ := fa.room j hj _ hdt
      have CF := hFree_ok L6 t6 (P[j]) w6 h6.r h6.wf.ok hat (h6.wf.rb (by rw [st6.sn]; omega))
      rw [h6.e] at CF
      have hpj : c = P.length := (unhide PL).symm
      have ea : adr (P[j]) = 1048576 + (P[j] : Int) * 8 := rfl
      rw [ea] at hla
      generalize P[j] = kh at *
      rw [hla]
      have CCF := hide CF
      have FA := hide fa
      have DT := hide hdt
      have H6 := hide h6
      have HK := hide hk'
      have HO := hide hone
      have TC6 := hide (tc6.trans (by rw [unhide CO]))
      have SN6 := hide st6.sn
      have HPJ := hide hpj
      clear hat hbeg hm hj hla hpj fa hdt h6 hk' hone CF st6 tr6 tk6 tb6 tc6 ts6 tba6 tp6 F6 ea
      -- behind the search
      have CR : Hid (∀ w7, Rep w7 L6 (t6.dropped kh) → Touch L6.blocks w6 w7 → Calls Tryd.prog 20 #[.pointer (some ⟨hb, 0, none⟩), .int .i64 n, .bool false] w7 fun e w' => e = .returned (.tuple #[.int .i64 (1048576 + (k' : Int) * 8), .int .i64 0]) ∧ Below w.heap.size w w') := by
        intro w7 r7 t7
        have h7 := (unhide H6).touch r7 (unhide DT).wf t7 (unhide DT).trig
        refine (hd_alloc h7 n sz k' false n1 (by rw [(unhide DT).n, unhide SN6]; exact n2) (unhide Z1) (unhide HK)).mono ?_
        rintro e w' ⟨he, h8, _, _⟩
        exact ⟨he, h8.b⟩
      by_cases c16 : sz ≤ 16
      · obtain ⟨f1, f2⟩ := (unhide FA).small c16
        have hk := unhide HO f2
        subst hk
        obtain ⟨q, hq⟩ : ∃ q, 32 / sz = q := ⟨_, rfl⟩
        rw [hq] at f1
        have hq' : (32 : Int) / (sz : Int) = (q : Int) := by rw [← hq]; push_cast; rfl
        have hw : wrap64 ((q : Int) * (pages : Int)) = (c : Int) := by
          have : (q : Int) * (pages : Int) = (c : Int) := by rw [unhide HPJ, f1]; push_cast; rfl
          rw [this]
          exact IntWalk.wrap64_in _ ⟨by omega, by omega⟩
        clear hq f1 f2
        go_wp2_with fail
        refine (unhide CCF).mono ?_
        rintro e w7 ⟨rfl, r7, t7⟩
        have CC7 := hide (unhide CR w7 r7 t7)
        clear r7 t7 CR
        go_wp2_with fail
        refine (unhide CC7).mono ?_
        rintro e w8 ⟨rfl, b8⟩
        have HB := hide b8
        clear b8
        go_wp2
        go_ret
        exact ⟨rfl, unhide HB⟩
      · by_cases c32 : sz = 32
        · obtain ⟨f1, f2⟩ := (unhide FA).page c32
          have hk := unhide HO f2
          subst hk
          have hpc : (c : Int) = (pages : Int) := by have := unhide HPJ; omega
          have hsz : (sz : Int) = 32 := by omega
          rw [hsz]
          have hw : wrap64 ((pages : Int)) = (pages : Int) := IntWalk.wrap64_in _ ⟨by omega, by omega⟩
          rw [hpc]
          clear f1 f2 hpc hsz c32 c16
          go_wp2_with fail
          refine (unhide CCF).mono ?_
          rintro e w7 ⟨rfl, r7, t7⟩
          have CC7 := hide (unhide CR w7 r7 t7)
          clear r7 t7 CR
          go_wp2_with fail
          refine (unhide CC7).mono ?_
          rintro e w8 ⟨rfl, b8⟩
          have HB := hide b8
          clear b8
          go_wp2
          go_ret
          exact ⟨rfl, unhide HB⟩
        · have g32 : 32 < sz := by have := unhide Z4 (by omega); omega
          obtain ⟨f1, f2⟩ := (unhide FA).great g32
          obtain ⟨cc, hcc⟩ : ∃ cc, sz / 32 = cc := ⟨_, rfl⟩
          rw [hcc] at f1 f2
          have hcc' : (sz : Int) / 32 = (cc : Int) := by rw [← hcc]; omega
          have c1 : 1 ≤ cc := by omega
          have h0 : (32 : Int) / (sz : Int) = 0 := Int.ediv_eq_zero_of_lt (by omega) (by omega)
          have hdiv : (pages : Int) / (cc : Int) = (c : Int) := by rw [unhide HPJ, f1]; push_cast; rfl
          have hne : ((cc : Int) == 0) = false := by simp; omega
          clear hcc c16 c32 f1
          cases one
          · have hmod : ((pages : Int) % (cc : Int) == 0) = false := by
              have : ¬ pages % cc = 0 := by simpa using f2
              simp only [beq_eq_false_iff_ne, ne_eq]
              intro e
              apply this
              have e2 : ((pages % cc : Nat) : Int) = 0 := by push_cast; exact e
              omega
            have hs32 : decide ((sz : Int) ≤ 32) = false := by simp; omega
            clear f2
            go_wp2_with fail
            refine (unhide CCF).mono ?_
            rintro e w7 ⟨rfl, r7, t7⟩
            have CC7 := hide (unhide CR w7 r7 t7)
            clear r7 t7 CR
            go_wp2_with fail
            refine (unhide CC7).mono ?_
            rintro e w8 ⟨rfl, b8⟩
            have HB := hide b8
            clear b8
            go_wp2
            all_goals go_ret
            all_goals exact ⟨rfl, unhide HB⟩
          · have hk := unhide HO rfl
            subst hk
            have hmod : ((pages : Int) % (cc : Int) == 0) = true := by
              have : pages % cc = 0 := by simpa using f2
              simp only [beq_iff_eq]
              have e2 : ((pages % cc : Nat) : Int) = 0 := by omega
              push_cast at e2
              exact e2
            have hs32 : decide ((sz : Int) ≤ 32) = false := by simp; omega
            clear f2
            go_wp2_with fail
            refine (unhide CCF).mono ?_
            rintro e w7 ⟨rfl, r7, t7⟩
            have CC7 := hide (unhide CR w7 r7 t7)
            clear r7 t7 CR
            go_wp2_with fail
            refine (unhide CC7).mono ?_
            rintro e w8 ⟨rfl, b8⟩
            have HB := hide b8
            clear b8
            go_wp2
            go_ret
            exact ⟨rfl, unhide HB⟩
    | some k =>
      have C6 := hide (hd_alloc (unhide HD) n sz k false n1 (by rw [(unhide FI).stk.sn]; exact n2) (unhide Z1) hpl)
      have HPL := hide hpl
      clear hpl
      go_wp2_with fail
      refine (unhide C6).mono ?_
      rintro e w6 ⟨rfl, h6, l6, _⟩
      generalize hs6 : s.laid k sz false = t at *
      obtain ⟨f6, at6⟩ := (unhide FI).lay (by omega) (unhide Z4) (unhide HPL) l6
      have hat : t.at (1048576 + (k : Int) * 8) = some k := at6
      have hlt6 := l6.lt
      rw [(unhide FI).stk.sn] at hlt6
      have hcb : c + 1 ≤ pages * 32 := by
        have a := f6.stk.cnt
        rw [List.length_append, unhide PL] at a
        simp only [List.length_singleton] at a
        exact Nat.le_trans (Nat.le_of_eq a.symm) (cntF_le _ _)
      have CS := hSize_some L t _ w6 h6.r h6.wf.ok k hat
      rw [h6.e, (l6.sizeNew (by omega)).1] at CS
      have CCS := hide CS
      have HAT := hide hat
      have H6 := hide h6
      have F6 := hide f6
      have RT6 : Hid (t.roots = [lastA P]) := l6.roots.trans (unhide FI).roots
      have TN : Hid (t.n = pages) := l6.n.trans (unhide FI).stk.sn
      have CO6 : Hid (t.colls = 0) := l6.colls.trans (unhide CO)
      have LA : Hid (lastA (P ++ [k]) = 1048576 + (k : Int) * 8) := hide (lastA_append P k)
      have hc3 : decide ((3000 : Int) < (c : Int)) = false := by simp; omega
      clear hs6 h6 l6 hat CS f6 at6
      go_wp2_with fail
      refine (unhide CCS).mono ?_
      rintro e w7 ⟨rfl, b7⟩
      have h7 := (unhide H6).below b7
      have C8 := hStore_ok L t (1048576 + (k : Int) * 8) (lastA P) k k w7 h7.r h7.wf.ok (by omega) (unhide HAT) (by omega) (by omega) (by rw [unhide TN]; omega)
      rw [h7.e] at C8
      have CC8 := hide C8
      have H7 := hide h7
      clear b7 h7 C8
      go_wp2_with fail
      refine (unhide CC8).mono ?_
      rintro e w8 ⟨rfl, r8, t8⟩
      have h8 := (unhide H7).touch r8 ((unhide H7).wf.setWd _ _) t8
      have hrt : (t.setWd k (lastA P)).roots = [lastA P] := unhide RT6
      have C9 := hSet_ok L _ 0 (1048576 + (k : Int) * 8) w8 h8.r (by rw [hrt]; simp)
      rw [h8.e, hrt] at C9
      have CC9 := hide C9
      have H8 := hide h8
      clear r8 t8 h8 hrt C9
      go_wp2_with fail
      refine (unhide CC9).mono ?_
      rintro e w9 ⟨rfl, k9⟩
      obtain ⟨L9, h9, _, _⟩ := (unhide H8).hst k9 ((unhide H8).wf.roots _)
      have H9 := hide h9
      clear k9 h9
      go_wp2
      go_roundw
      case rel => exact ⟨c + 1, (sz : Int), P ++ [k], L9, _, by rw [unhide LA], by go_num, rfl, hcb, hide (by rw [List.length_append, unhide PL]; rfl), hide (fun _ => rfl), F6, CO6, H9⟩
      case measure => simp [intOf]; omega

set_option maxHeartbeats 800000 in
theorem Full_any (a b c : Int) (w : World) (hT : Tab w) (a1 : -9223372036854775808 ≤ a) (a2 : a ≤ 9223372036854775807) (b1 : -9223372036854775808 ≤ b) (b2 : b ≤ 9223372036854775807) :
    Calls Tryd.prog 3 #[.int .i64 a, .int .i64 b, .int .i64 c] w fun e w' => e = .returned (.bool true) ∧ Below w.heap.size w w' := by
  have CP := hide (saysPick_any a 12 w a1 a2 (by omega) (by omega))
  have hp := pickN_lt a 12 (by omega)
  generalize pickN a 12 = p at *
  have CP2 := saysPick_any b ((1 + p) * 32) w b1 b2 (by omega) (by omega)
  rw [show (((1 + p) * 32 : Nat) : Int) = (1 + (p : Int)) * 32 by omega] at CP2
  have CCP2 := hide CP2
  have hq := pickN_lt b ((1 + p) * 32) (by omega)
  generalize pickN b ((1 + p) * 32) = q at *
  have C := full_any (1 + p) (1 + q) w hT (by omega) (by omega) (by omega) (by omega)
  rw [show ((1 + p : Nat) : Int) = 1 + (p : Int) by omega, show ((1 + q : Nat) : Int) = 1 + (q : Int) by omega] at C
  have CC := hide C
  clear hT CP2 C
  go_enter Tryd.func3, Tryd.ntmps3
  go_wp2_with fail
  refine (unhide CP).mono ?_
  rintro e w1 ⟨rfl, rfl⟩
  go_wp2_with fail
  refine (unhide CCP2).mono ?_
  rintro e w1 ⟨rfl, rfl⟩
  go_wp2_with (go_at_call 11; refine (unhide CC).mono ?_; rintro e w1 ⟨rfl, hb⟩)
  go_ret
  exact ⟨rfl, by assumption⟩
end Go.Proofs.YtgegkcjllliifabDoor
