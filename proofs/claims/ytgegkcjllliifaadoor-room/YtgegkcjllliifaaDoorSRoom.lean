/-
  The walks of room and Room.
-/
import Derived.Test.YtgegkcjllliifaaDoorSTwice
import Derived.Test.YtgegkcjllliifaaDoorSWrong
namespace Go.Proofs.YtgegkcjllliifaaDoor
open Go.RowKit

set_option maxHeartbeats 400000 in
theorem nextN_any (x : Nat) (w : World) (hx : x < 1073741824) :
    Calls Tryd.prog 38 #[.int .i64 x] w fun e w' => ∃ y : Nat, e = .returned (.int .i64 y) ∧ y < 1073741824 ∧ w' = w := by
  go_enter Tryd.func38, Tryd.ntmps38
  go_wp2
  go_ret
  exact ⟨((x * 1103515 + 12345) % 1073741824), ret_int (by omega), by omega, rfl⟩
theorem and_one (a : Nat) (ha : a < 4611686018427387904) : ∃ b : Nat, b ≤ 1 ∧ bits BinOp.and IntKind.i64 (a : Int) 1 = (b : Int) := by
  refine ⟨a &&& 1, Nat.and_le_right, ?_⟩
  have h1 : (BitVec.ofInt 64 (a : Int)).toNat = a := by
    rw [BitVec.ofInt_natCast, BitVec.toNat_ofNat]; exact Nat.mod_eq_of_lt (by omega)
  have h2 : (BitVec.ofInt 64 (1 : Int)).toNat = 1 := by decide
  have h3 : a &&& 1 ≤ 1 := Nat.and_le_right
  show IntKind.i64.wrap ((BitVec.ofInt 64 (a : Int) &&& BitVec.ofInt 64 (1 : Int)).toNat : Int) = _
  rw [BitVec.toNat_and, h1, h2, IntKind.wrap_i64]
  omega

/-- Addresses that Alloc may have answered. -/
def Adrs (A : List Int) : Prop := ∀ y, y ∈ A → y % 8 = 0 ∧ 1048576 ≤ y ∧ y < 1051648
/-- A row of numbers beside two heaps. -/
structure RowB (b0 : Nat) (w : World) (L1 L2 : HL) (v : Value) (A : List Int) : Prop where
  e : w.ownsRow 0 3 1 v A.length (ints A)
  nb : ∀ q, v.ownBlock = some q → q ∉ L1.blocks ∧ q ∉ L2.blocks ∧ b0 ≤ q
theorem RowB.fre {b0 : Nat} {w w' : World} {L1 L2 L1' L2' : HL} {v : Value} {A : List Int} (h : RowB b0 w L1 L2 v A) (F : Fre w L1 L2 w' L1' L2') : RowB b0 w' L1' L2' v A := by
  refine ⟨ownsRow_agree h.e fun k hk => F.t.block k (h.e.lt k hk).2 (fun e => ?_), fun q hq => ⟨fun e => ?_, fun e => ?_, (h.nb q hq).2.2⟩⟩
  · rcases List.mem_append.1 e with x | x
    · exact (h.nb k hk).1 x
    · exact (h.nb k hk).2.1 x
  · rcases F.i1 q e with x | x
    · exact (h.nb q hq).1 x
    · have := (h.e.lt q hq).2; omega
  · rcases F.i2 q e with x | x
    · exact (h.nb q hq).2.1 x
    · have := (h.e.lt q hq).2; omega
theorem Duo.grown {w0 w w' : World} {h1 h2 : Nat} {L1 L2 : HL} {s1 s2 : St} {x : Obj} {v v' : Value} {A A' : List Int} (D : Duo w0 w h1 h2 L1 L2 s1 s2) (R : RowB w0.heap.size w L1 L2 v A) (ho : w'.ownsRow 0 3 1 v' A'.length (ints A')) (hg : (w.alloc x).grownBy w' v.ownBlock) (hloc : v'.ownBlock = v.ownBlock ∨ ∃ g, v'.ownBlock = some g ∧ (w.alloc x).heap.size ≤ g) : Duo w0 w' h1 h2 L1 L2 s1 s2 ∧ RowB w0.heap.size w' L1 L2 v' A' := by
  have t : Touch v.ownBlock.toList w w' := by
    refine ⟨hg.os, hg.tape, hg.output, by have := hg.size; simp at this; omega, fun k hk hn => ?_⟩
    rw [hg.block k (by simp; omega) (fun e => hn (by simpa using e.symm)), heap_alloc_old w _ hk]
  have hm : ∀ k, k ∈ v.ownBlock.toList → v.ownBlock = some k := fun k hk => by simpa using hk
  have hs := D.g.b.size
  refine ⟨⟨D.g.other t (fun k hk => (R.nb k (hm k hk)).2.2) (fun k hk => (R.nb k (hm k hk)).1), D.h.other t (fun k hk => (R.nb k (hm k hk)).2.2) (fun k hk => (R.nb k (hm k hk)).2.1), D.d⟩, ho, fun q hq => ?_⟩
  rcases hloc with e | ⟨g, e1, e2⟩
  · rw [e] at hq; exact R.nb q hq
  · rw [e1] at hq; cases hq
    simp at e2
    exact ⟨fun e => by have := D.g.r.lt _ e; omega, fun e => by have := D.h.r.lt _ e; omega, by omega⟩

/-- Which heap lies ahead of a new object. -/
def Ahd (s : St) (sz : Nat) (at' : Bool) (t : St) : Prop := (¬ s.due sz ∧ s.place sz at' ≠ none ∧ t = s) ∨ ((s.due sz ∨ s.place sz at' = none) ∧ AheadC s t)
theorem ahd_rm {s t t' : St} {r a sz : Nat} {at' : Bool} (h1 : Ahd s sz at' t) (h2 : Ahd (s.rm r a) sz at' t') : ∃ a', t' = t.rm r a' := by
  have hd : (s.rm r a).due sz ↔ s.due sz := Iff.rfl
  rcases h1 with ⟨a1, a2, rfl⟩ | ⟨a1, a2⟩
  · rcases h2 with ⟨_, _, rfl⟩ | ⟨b1, _⟩
    · exact ⟨a, rfl⟩
    · exfalso
      rw [place_rm] at b1
      rcases b1 with x | x
      · exact a1 (hd.1 x)
      · exact a2 x
  · rcases h2 with ⟨b1, b2, _⟩ | ⟨_, b2⟩
    · exfalso
      rw [place_rm] at b2
      rcases a1 with x | x
      · exact b1 (hd.2 x)
      · exact b2 x
    · exact ahead_rm a2 b2
theorem ahd_n {s t : St} {sz : Nat} {at' : Bool} (h : Ahd s sz at' t) : t.n = s.n ∧ t.colls ≤ s.colls + 1 := by
  rcases h with ⟨_, _, rfl⟩ | ⟨_, a⟩
  · exact ⟨rfl, by omega⟩
  · have := ahead_n a; omega
theorem ahd_wf {s t : St} {sz : Nat} {at' : Bool} (h : Ahd s sz at' t) (wf : WF s) : WF t := by
  rcases h with ⟨_, _, rfl⟩ | ⟨_, a⟩
  · exact wf
  · exact a.wf

/-- Fresh: the first object finds room, and no collection comes. -/
structure Fresh (s : St) : Prop where
  beg : ∀ k, s.beg k = false
  blk : ∀ p, s.blk p = false
  since : s.since = 0
  trig : s.trig = 0 ∨ s.trig = 60
theorem Fresh.some {s t : St} {sz : Nat} {at' : Bool} (h : Fresh s) (z1 : 1 ≤ sz) (z2 : sz ≤ 32) (sn : s.n = 12) (ha : Ahd s sz at' t) : t.place sz at' ≠ none := by
  have hp : s.place sz at' ≠ none := empty_place h.beg h.blk z1 (by rw [sn]; omega)
  have hd : ¬ s.due sz := fun ⟨d1, d2⟩ => by
    have := h.since
    rcases h.trig with e | e <;> omega
  rcases ha with ⟨_, q, rfl⟩ | ⟨q, _⟩
  · exact q
  · rcases q with x | x
    · exact absurd x hd
    · exact absurd x hp

set_option maxRecDepth 10000 in
set_option maxHeartbeats 12800000 in
theorem room_any (seed : Int) (r1 r2 : Nat) (w : World) (hT : Tab w) (s1 : -9223372036854775808 ≤ seed) (s2 : seed ≤ 9223372036854775807) (a1 : 1 ≤ r1) (a2 : r1 ≤ 16) (b1 : 1 ≤ r2) (b2 : r2 ≤ 16) :
    Calls Tryd.prog 22 #[.int .i64 seed, .int .i64 r1, .int .i64 r2] w fun e w' => e = .returned (.bool true) ∧ Below w.heap.size w w' := by
  obtain ⟨i0, hi, hz0, hz1, hz2⟩ := info_parts Tryd.infoInt
  have T := hide hT
  have CP := hide (saysPick_any seed 1073741824 w s1 s2 (by omega) (by omega))
  have hx0 := pickN_lt seed 1073741824 (by omega)
  generalize pickN seed 1073741824 = x0 at *
  obtain ⟨tb, tb1, tb2⟩ := and_one (x0 / 8) (by omega)
  have tb3 : bits BinOp.and IntKind.i64 ((x0 : Int) / 8) 1 = (tb : Int) := by rw [← tb2]; congr 1
  have N1 := new_any 12 r1 (60 * tb) w (by omega) (by omega) a1 a2 (by omega)
  rw [show ((60 * tb : Nat) : Int) = 60 * (tb : Int) by omega] at N1
  have CN1 := hide N1
  have CN2 : Hid (∀ w1, Calls Tryd.prog 33 #[.int .i64 12, .int .i64 r2, .int .i64 (60 * (tb : Int))] w1 fun e w' => ∃ h, e = .returned (.tuple #[.pointer (some ⟨h, 0, none⟩), .int .i64 0]) ∧ IsNew w1 (St.init 12 r2 (60 * tb)) w' h) := fun w1 => by
    have := new_any 12 r2 (60 * tb) w1 (by omega) (by omega) b1 b2 (by omega)
    rw [show ((60 * tb : Nat) : Int) = 60 * (tb : Int) by omega] at this
    exact this
  clear hT tb2 N1
  go_enter Tryd.func22, Tryd.ntmps22
  go_wp2_with fail
  refine (unhide CP).mono ?_
  rintro e w1 ⟨rfl, hw⟩
  rw [hw]
  clear hw CP
  go_wp2_with fail
  refine (unhide CN1).mono ?_
  rintro e w2 ⟨h1, rfl, n1⟩
  have CC2 := hide (unhide CN2 w2)
  have NN1 := hide n1
  clear n1 CN1 CN2
  go_wp2_with fail
  refine (unhide CC2).mono ?_
  rintro e w3 ⟨h2, rfl, n2⟩
  have D0 : Hid (∃ L1 L2, Duo w w3 h1 h2 L1 L2 (St.init 12 r1 (60 * tb)) ((St.init 12 r1 (60 * tb)).rm r2 0)) := hide (by
    obtain ⟨L1, g1⟩ := Hg.new (unhide T) (Below.refl _ _) (unhide NN1)
    obtain ⟨L2, e2, q2, o2, c2⟩ := n2
    have hs := g1.b.size
    refine ⟨L1, L2, ⟨g1.below c2, ⟨e2, q2, WF.init _ _ _, fun k hk => Nat.le_trans hs (o2 k hk), g1.b.trans (c2.mono hs), unhide T⟩, fun k h1 h2 => ?_⟩⟩
    have := g1.r.lt k h1
    have := o2 k h2
    omega)
  clear n2 NN1 CC2
  obtain ⟨L10, L20, D00⟩ := unhide D0
  have DD := hide D00
  have R0 : Hid (RowB w.heap.size w3 L10 L20 (.slice none ([] : List Int).length 0) []) := hide ⟨World.ownsRow_nil _ _ _ _, fun q hq => (by cases hq)⟩
  have F0 : Hid (Fresh (St.init 12 r1 (60 * tb))) := hide ⟨fun _ => rfl, fun _ => rfl, rfl, by show 60 * tb = 0 ∨ 60 * tb = 60; omega⟩
  clear D00 D0 tb3
  go_wp2
  go_loopw [7, 13, 14] (fun xv av kv wr => ∃ (k x : Nat) (A : List Int) (ao : Option Addr) (cap : Nat) (L1 L2 : HL) (s : St) (a : Nat), xv = .int .i64 x ∧ kv = .int .i64 k ∧ av = .slice ao A.length cap ∧ k ≤ 120 ∧ x < 1073741824 ∧ A.length ≤ k ∧ cap ≤ maxLen ∧ (0 < k → 0 < A.length) ∧ Hid (Adrs A) ∧ Hid (RowB w.heap.size wr L1 L2 (.slice ao A.length cap) A) ∧ Hid (Duo w wr h1 h2 L1 L2 s (s.rm r2 a)) ∧ Hid (s.n = 12) ∧ Hid (s.colls ≤ 2 * k) ∧ Hid (k = 0 → Fresh s)) (fun _ _ kv _ => 1000 - (intOf kv).toNat)
  case atStart => exact ⟨0, x0, [], none, 0, L10, L20, _, 0, rfl, rfl, rfl, by omega, hx0, by simp, Nat.zero_le _, fun h => (by omega), hide (fun y hy => (by cases hy)), R0, DD, hide rfl, hide (Nat.le_refl _), hide (fun _ => unhide F0)⟩
  case round =>
    clear DD R0 F0
    obtain ⟨k, x, A, ao, cap, L1, L2, s, a, rfl, rfl, rfl, hk, hx, hA, hcap, hA0, AD, RR, DD, SN, CO, FR⟩ := hrel
    by_cases hlt : k < 120
    · have CX := hide (nextN_any x wr hx)
      go_wp2_with fail
      refine (unhide CX).mono ?_
      rintro e w4 ⟨y, rfl, hy, hw⟩
      rw [hw]
      clear hw CX
      obtain ⟨nw, hnw, q1, q2⟩ : ∃ nw : Nat, 1 + (y : Int) / 128 % 20 = (nw : Int) ∧ 1 ≤ nw ∧ nw ≤ 20 := ⟨1 + y / 128 % 20, by omega, by omega, by omega⟩
      obtain ⟨sz, z1, z2, z3, z4, z5⟩ := size_bd nw q1
      have z6 : sz ≤ 32 := by
        by_cases c : 16 < sz
        · have := (z4 c).1; omega
        · omega
      have C1 : Hid (∀ at', Calls Tryd.prog 28 #[.pointer (some ⟨h1, 0, none⟩), .int .i64 nw, .bool at'] wr fun e w' => ∃ t, Ahd s sz at' t ∧ AllocTo sz at' t wr L1 e w') := fun at' => hg_alloc (unhide DD).g (by have := unhide CO; omega) nw sz at' q1 (by rw [unhide SN]; omega) z1
      have C2 : Hid (∀ at' w1 L1' L2' s1, Duo w w1 h1 h2 L1' L2' s1 (s.rm r2 a) → Calls Tryd.prog 28 #[.pointer (some ⟨h2, 0, none⟩), .int .i64 nw, .bool at'] w1 fun e w' => ∃ t, Ahd (s.rm r2 a) sz at' t ∧ AllocTo sz at' t w1 L2' e w') := fun at' w1 L1' L2' s1 E => hg_alloc E.h (by show s.colls ≤ _; have := unhide CO; omega) nw sz at' q1 (by show nw ≤ s.n * 32; rw [unhide SN]; omega) z1
      have Z4 := hide z4
      clear z1 z3 z4 z5
      go_wp2_with fail
      refine (unhide C1 _).mono ?_
      rintro e w5 ⟨t, ha, hto⟩
      generalize hbk : (bits BinOp.and IntKind.i64 ((y : Int) / 4096) 3 == 3) = bk at *
      cases hto with
      | full hp he hs =>
        subst he
        obtain ⟨L1', L2', E, F⟩ := (unhide DD).one (Fre.refl _ _ _) hs (ahd_wf ha (unhide DD).g.wf)
        have hk0 : k ≠ 0 := fun e => (unhide FR e).some (by omega) z6 (unhide SN) ha hp
        have hk1 : ((k : Int) == 0) = false := by simp; omega
        have hA1 : 0 < A.length := hA0 (by omega)
        have CB := hide (unhide C2 bk w5 L1' L2' t E)
        have EE := hide E
        have FF := hide F
        have HA' := hide ha
        have HP' := hide hp
        clear E F hs ha hp C1 C2 hk0
        go_wp2_with fail
        refine (unhide CB).mono ?_
        rintro e w6 ⟨t2, ha2, hto2⟩
        obtain ⟨a', rfl⟩ := ahd_rm (unhide HA') ha2
        have hp2 : (t.rm r2 a').place sz bk = none := by rw [place_rm]; exact unhide HP'
        cases hto2 with
        | ok k2 q => rw [hp2] at q; cases q
        | full _ he2 hs2 =>
          subst he2
          obtain ⟨L1c, L2c, Ec, Fc⟩ := (unhide EE).two (unhide FF) hs2 (ahd_wf ha2 (unhide EE).h.wf)
          have RRc := hide ((unhide RR).fre Fc)
          have DDc := hide Ec
          have ADc := AD
          have SNc : Hid (t.n = 12) := hide ((ahd_n (unhide HA')).1.trans (unhide SN))
          have COc : Hid (t.colls ≤ 2 * k + 1) := hide (by have := (ahd_n (unhide HA')).2; have := unhide CO; omega)
          have hAc : A.length ≤ k + 1 := by omega
          have hcapc := hcap
          clear Ec Fc hs2 ha2 hp2 CB EE FF HA' HP' RR DD AD CO
          have CX := hide (nextN_any y w6 hy)
          go_wp2_with fail
          refine (unhide CX).mono ?_
          rintro e w8 ⟨y2, rfl, hy2, hw⟩
          rw [hw]
          clear hw CX
          obtain ⟨g, cp, hv, hq1, hq2, hq3⟩ := ownsRow_some (unhide RRc).e hA1
          simp only [Value.slice.injEq, true_and] at hv
          obtain ⟨rfl, rfl⟩ := hv
          obtain ⟨j1, hj1, l1⟩ : ∃ j1 : Nat, (y2 : Int) / 32 % (A.length : Int) = (j1 : Int) ∧ j1 < A.length := ⟨y2 / 32 % A.length, by push_cast; rfl, Nat.mod_lt _ hA1⟩
          obtain ⟨j2, hj2, l2⟩ : ∃ j2 : Nat, (y2 : Int) / 2048 % (A.length : Int) = (j2 : Int) ∧ j2 < A.length := ⟨y2 / 2048 % A.length, by push_cast; rfl, Nat.mod_lt _ hA1⟩
          have d1 := (unhide RRc).e.cellAt j1 (by omega)
          have d2 := (unhide RRc).e.cellAt j2 (by omega)
          obtain ⟨to, hto⟩ : ∃ to, A[j1] = to := ⟨_, rfl⟩
          obtain ⟨fr, hfr⟩ : ∃ fr, A[j2] = fr := ⟨_, rfl⟩
          rw [show (ints A)[j1]? = some (.int .i64 to) by simp [ints, l1, hto]] at d1
          rw [show (ints A)[j2]? = some (.int .i64 fr) by simp [ints, l2, hfr]] at d2
          have bt := unhide ADc to (by rw [← hto]; exact List.getElem_mem l1)
          have bf := unhide ADc fr (by rw [← hfr]; exact List.getElem_mem l2)
          have CT := hide (twice_any y2 fr to h1 h2 L1c L2c t r2 a' w w6 (unhide DDc) (unhide SNc) hy2 bf.1 bf.2.1 bf.2.2 bt.2.1 bt.2.2 (by have := unhide COc; omega))
          have hlz : ((A.length : Int) == 0) = false := beq_eq_false_iff_ne.2 (by omega)
          clear hto hfr hy hnw
          go_wp2_with fail
          refine (unhide CT).mono ?_
          rintro e w9 ⟨rfl, s9, a9, ⟨L19, L29, E9, F9⟩, n9, c9⟩
          have RR9 := hide ((unhide RRc).fre F9)
          have DD9 := hide E9
          have CO9 : Hid (s9.colls ≤ 2 * (k + 1)) := hide (by have := unhide COc; omega)
          have SN9 := hide n9
          clear E9 F9 n9 c9 CT d1 d2 hj1 hj2 hlz
          go_wp2
          go_roundw
          case rel => exact ⟨k + 1, y2, A, some ⟨g, 0, none⟩, _, L19, L29, s9, a9, rfl, by go_num, rfl, by omega, hy2, hAc, hcapc, fun _ => hA1, ADc, RR9, DD9, SN9, CO9, hide (fun h => by omega)⟩
          case measure => simp [intOf]; omega
      | ok kk hp he hl hs =>
        subst he
        obtain ⟨L1', L2', E, F⟩ := (unhide DD).one (Fre.refl _ _ _) hs hl.wf
        have CB := hide (unhide C2 bk w5 L1' L2' _ E)
        have EE := hide E
        have FF := hide F
        have HA' := hide ha
        have HP' := hide hp
        have HLT := hide hl
        have hkk := hl.lt
        rw [(ahd_n ha).1, unhide SN] at hkk
        have wt := hide (ahd_wf ha (unhide DD).g.wf)
        clear E F hs ha hp C1 C2 hl
        go_wp2_with fail
        refine (unhide CB).mono ?_
        rintro e w6 ⟨t2, ha2, hto2⟩
        obtain ⟨a', rfl⟩ := ahd_rm (unhide HA') ha2
        have hp2 : (t.rm r2 a').place sz bk = some kk := by rw [place_rm]; exact unhide HP'
        cases hto2 with
        | full q => rw [hp2] at q; cases q
        | ok k2 q he2 hl2 hs2 =>
          rw [hp2] at q
          cases q
          subst he2
          have wl2 := hl2.wf
          rw [laid_rm] at hs2 wl2
          obtain ⟨L1c, L2c, Ec, Fc⟩ := (unhide EE).two (unhide FF) hs2 wl2
          have rr := (unhide RR).fre Fc
          have hat : (t.laid kk sz bk).at (1048576 + (kk : Int) * 8) = some kk := by rw [(unhide HLT).at (unhide wt) (by omega), if_pos (by omega)]
          have CS := hSize_some L2c _ (1048576 + (kk : Int) * 8) w6 Ec.h.r Ec.h.wf.ok kk hat
          rw [Ec.h.e, show ((t.laid kk sz bk).rm r2 a').size (kk / 32) = (sz : Int) from ((unhide HLT).sizeNew (by omega)).1] at CS
          obtain ⟨zi, hzi⟩ : ∃ zi : Int, zi = (sz : Int) := ⟨_, rfl⟩
          rw [← hzi] at CS
          have hsn : decide (zi < (nw : Int)) = false := by simp; omega
          have CCS := hide CS
          have Dc := hide Ec
          have Rc := hide rr
          have SNc : Hid ((t.laid kk sz bk).n = 12) := hide ((unhide HLT).n.trans ((ahd_n (unhide HA')).1.trans (unhide SN)))
          have COc : Hid ((t.laid kk sz bk).colls ≤ 2 * k + 1) := hide (by rw [(unhide HLT).colls]; have := (ahd_n (unhide HA')).2; have := unhide CO; omega)
          clear Ec Fc hs2 ha2 hp2 hl2 wl2 CB EE FF HA' HP' RR DD CO rr CS hzi HLT wt hat
          generalize t.laid kk sz bk = u at *
          have key : ((k : Int) == 0) = true ∨ ((k : Int) == 0) = false := by cases ((k : Int) == 0) <;> simp
          rcases key with hkb | hkb
          all_goals
            go_wp2_with fail
            refine (unhide CCS).mono ?_
            rintro e w7 ⟨rfl, b7⟩
            obtain ⟨L1d, L2d, Ed, Fd⟩ := (unhide Dc).quiet (Fre.refl _ _ _) b7
            have Rd := hide ((unhide Rc).fre Fd)
            have Dd := hide Ed
            clear Ed Fd b7 CCS Dc Rc
            go_wp2_with (at_builtin; refine stop ?_)
            refine hide (wpList_append_at _ rfl _ _ 47 rfl 3 i0 (.int .i64 0) 1 8 Tryd.underlying47 hi hz0 hz1 hz2 rfl (by decide) (.slice ao A.length cap) A.length (ints A) rfl ((unhide Rd).e.alloc _) ⟨w7.heap.size, 0, none⟩ 1 1 [.int .i64 (1048576 + (kk : Int) * 8)] rfl rfl ?c1 ?c2 (by decide) (by unfold maxLen; omega) (by omega) ?_)
            case c1 =>
              intro j u hj
              match j, hj with
              | 0, hj => simp at hj; subst hj; exact cell_of_row (w7.alloc (.cells #[.int .i64 (1048576 + (kk : Int) * 8)] 3)) w7.heap.size 0 _ _ _ (heap_alloc_new w7 _)
            case c2 => intro u hu; simp at hu; subst hu; rfl
            intro v8 w10 ho hg hloc
            obtain ⟨ao', cap', hv', hd1, hd2⟩ := ownsRow_shape ho
            obtain ⟨A', hA'⟩ : ∃ A', A ++ [1048576 + (kk : Int) * 8] = A' := ⟨_, rfl⟩
            have hl2 : A'.length = A.length + 1 := by rw [← hA']; simp
            rw [ints_append, hA', ← hl2] at ho
            obtain ⟨Dg, Rg⟩ := (unhide Dd).grown (unhide Rd) ho hg hloc
            rw [← hl2] at hv'
            rw [hv'] at Rg ⊢
            have RRc := hide Rg
            have DDc := hide Dg
            have ADc : Hid (Adrs A') := hide (by
              rw [← hA']
              intro y hy
              rcases List.mem_append.1 hy with q | q
              · exact unhide AD y q
              · rw [List.mem_singleton.1 q]; omega)
            have hA1 : 0 < A'.length := by omega
            have hAc : A'.length ≤ k + 1 := by omega
            have hcapc := hd2
            have HL2 := hide hl2
            clear Rg Dg ho hg hloc hv' hA' hl2 AD Dd Rd
            have CX := hide (nextN_any y w10 hy)
            go_wp2_with fail
            refine (unhide CX).mono ?_
            rintro e w8 ⟨y2, rfl, hy2, hw⟩
            rw [hw]
            clear hw CX
            obtain ⟨g, cp, hv, hq1, hq2, hq3⟩ := ownsRow_some (unhide RRc).e hA1
            simp only [Value.slice.injEq, true_and] at hv
            obtain ⟨rfl, rfl⟩ := hv
            obtain ⟨j1, hj1, l1⟩ : ∃ j1 : Nat, (y2 : Int) / 32 % (A'.length : Int) = (j1 : Int) ∧ j1 < A'.length := ⟨y2 / 32 % A'.length, by push_cast; rfl, Nat.mod_lt _ hA1⟩
            obtain ⟨j2, hj2, l2⟩ : ∃ j2 : Nat, (y2 : Int) / 2048 % (A'.length : Int) = (j2 : Int) ∧ j2 < A'.length := ⟨y2 / 2048 % A'.length, by push_cast; rfl, Nat.mod_lt _ hA1⟩
            have d1 := (unhide RRc).e.cellAt j1 (by omega)
            have d2 := (unhide RRc).e.cellAt j2 (by omega)
            obtain ⟨to, hto⟩ : ∃ to, A'[j1] = to := ⟨_, rfl⟩
            obtain ⟨fr, hfr⟩ : ∃ fr, A'[j2] = fr := ⟨_, rfl⟩
            rw [show (ints A')[j1]? = some (.int .i64 to) by simp [ints, l1, hto]] at d1
            rw [show (ints A')[j2]? = some (.int .i64 fr) by simp [ints, l2, hfr]] at d2
            have bt := unhide ADc to (by rw [← hto]; exact List.getElem_mem l1)
            have bf := unhide ADc fr (by rw [← hfr]; exact List.getElem_mem l2)
            have CT := hide (twice_any y2 fr to h1 h2 L1d L2d u r2 a' w w10 (unhide DDc) (unhide SNc) hy2 bf.1 bf.2.1 bf.2.2 bt.2.1 bt.2.2 (by have := unhide COc; omega))
            have hlz : ((A'.length : Int) == 0) = false := beq_eq_false_iff_ne.2 (by omega)
            clear hto hfr hy hnw
            go_wp2_with fail
            refine (unhide CT).mono ?_
            rintro e w9 ⟨rfl, s9, a9, ⟨L19, L29, E9, F9⟩, n9, c9⟩
            have RR9 := hide ((unhide RRc).fre F9)
            have DD9 := hide E9
            have CO9 : Hid (s9.colls ≤ 2 * (k + 1)) := hide (by have := unhide COc; omega)
            have SN9 := hide n9
            clear E9 F9 n9 c9 CT d1 d2 hj1 hj2 hlz
            go_wp2
            go_roundw
            case rel => exact ⟨k + 1, y2, A', some ⟨g, 0, none⟩, _, L19, L29, s9, a9, rfl, by go_num, rfl, by omega, hy2, hAc, hcapc, fun _ => hA1, ADc, RR9, DD9, SN9, CO9, hide (fun h => by omega)⟩
            case measure => simp [intOf]; omega
    · clear FR hA0 AD RR
      obtain ⟨D1⟩ : Nonempty (PLift (Duo w wr h1 h2 L1 L2 s (s.rm r2 a))) := ⟨⟨unhide DD⟩⟩
      have E := D1.down
      have CX := collect_duo L1 s wr E.g.r E.g.wf (by have := unhide CO; omega)
      rw [E.g.e] at CX
      have CCX := hide CX
      have EE := hide E
      clear CX E D1
      go_wp2_with fail
      refine (unhide CCX).mono ?_
      rintro e w5 ⟨rfl, t, ha, k5⟩
      obtain ⟨N1, N2, E2, F2⟩ := (unhide EE).one (Fre.refl _ _ _) k5 ha.wf
      have CY := collect_duo N2 (s.rm r2 a) w5 E2.h.r E2.h.wf (by show s.colls ≤ _; have := unhide CO; omega)
      rw [E2.h.e] at CY
      have CCY := hide CY
      have HA := hide ha
      have EE2 := hide E2
      have FF2 := hide F2
      clear CY E2 F2 ha k5 CCX EE
      go_wp2_with fail
      refine (unhide CCY).mono ?_
      rintro e w6 ⟨rfl, t', ha', k6⟩
      obtain ⟨a', et⟩ := ahead_rm (unhide HA) ha'
      subst et
      obtain ⟨M1, M2, D, _⟩ := (unhide EE2).two (unhide FF2) k6 ha'.wf
      have tn : t.n = 12 := (ahead_n (unhide HA)).1.trans (unhide SN)
      obtain ⟨li, hli⟩ : ∃ li : List Int, (trues t.beg (t.n * 32)).map adr = li := ⟨_, rfl⟩
      have hll : li.length ≤ 2000 := by
        rw [← hli, List.length_map, trues_length]
        have := cntF_le t.beg (t.n * 32)
        rw [tn] at this ⊢
        omega
      obtain ⟨lb, hlb⟩ : ∃ lb : List Int, (trues t.blk t.n).map (fun (k : Nat) => (k : Int)) = lb := ⟨_, rfl⟩
      have hlbl : lb.length ≤ 2000 := by
        rw [← hlb, List.length_map, trues_length]
        have := cntF_le t.blk t.n
        rw [tn] at this ⊢
        omega
      have W1 : Hid (∀ w1, Below w6.heap.size w6 w1 → Calls Tryd.prog 40 #[.pointer (some ⟨h1, 0, none⟩)] w1 fun e w' => ∃ g, e = .returned (.slice (some ⟨g, 0, none⟩) li.length li.length) ∧ w'.heap[g]? = some (.cells (ints li).toArray 3 (0, 0)) ∧ Below w1.heap.size w1 w') := fun w1 b => by
        have h := D.g.below b
        have := hWalk_any M1 t w1 h.r
        rw [h.e] at this
        refine this.mono ?_
        rintro e w' ⟨g, he, _, h3, h4⟩
        refine ⟨g, ?_, ?_, h4⟩
        · rw [← hli, List.length_map]; exact he
        · rw [← hli, ints, List.map_map]; exact h3
      have W2 : Hid (∀ w1, Below w6.heap.size w6 w1 → Calls Tryd.prog 40 #[.pointer (some ⟨h2, 0, none⟩)] w1 fun e w' => ∃ g, e = .returned (.slice (some ⟨g, 0, none⟩) li.length li.length) ∧ w'.heap[g]? = some (.cells (ints li).toArray 3 (0, 0)) ∧ Below w1.heap.size w1 w') := fun w1 b => by
        have h := D.h.below b
        have := hWalk_any M2 (t.rm r2 a') w1 h.r
        rw [h.e] at this
        refine this.mono ?_
        rintro e w' ⟨g, he, _, h3, h4⟩
        refine ⟨g, ?_, ?_, h4⟩
        · rw [← hli, List.length_map]; exact he
        · rw [← hli, ints, List.map_map]; exact h3
      have K1 : Hid (∀ w1, Below w6.heap.size w6 w1 → Calls Tryd.prog 37 #[.pointer (some ⟨h1, 0, none⟩)] w1 fun e w' => ∃ g, e = .returned (.slice (some ⟨g, 0, none⟩) lb.length lb.length) ∧ w'.heap[g]? = some (.cells (ints lb).toArray 3 (0, 0)) ∧ Below w1.heap.size w1 w') := fun w1 b => by
        have h := D.g.below b
        have := hBlack_any M1 t w1 h.r
        rw [h.e] at this
        refine this.mono ?_
        rintro e w' ⟨g, he, _, h3, h4⟩
        refine ⟨g, ?_, ?_, h4⟩
        · rw [← hlb, List.length_map]; exact he
        · rw [← hlb, ints, List.map_map]; exact h3
      have K2 : Hid (∀ w1, Below w6.heap.size w6 w1 → Calls Tryd.prog 37 #[.pointer (some ⟨h2, 0, none⟩)] w1 fun e w' => ∃ g, e = .returned (.slice (some ⟨g, 0, none⟩) lb.length lb.length) ∧ w'.heap[g]? = some (.cells (ints lb).toArray 3 (0, 0)) ∧ Below w1.heap.size w1 w') := fun w1 b => by
        have h := D.h.below b
        have := hBlack_any M2 (t.rm r2 a') w1 h.r
        rw [h.e] at this
        refine this.mono ?_
        rintro e w' ⟨g, he, _, h3, h4⟩
        refine ⟨g, ?_, ?_, h4⟩
        · rw [← hlb, List.length_map]; exact he
        · rw [← hlb, ints, List.map_map]; exact h3
      obtain ⟨c1, hc1⟩ : ∃ c : Int, ((cntF t.beg (t.n * 32) : Nat) : Int) = c := ⟨_, rfl⟩
      obtain ⟨c2, hc2⟩ : ∃ c : Int, sumW t (t.n * 32) = c := ⟨_, rfl⟩
      obtain ⟨c3, hc3⟩ : ∃ c : Int, (t.colls : Int) = c := ⟨_, rfl⟩
      obtain ⟨c4, hc4⟩ : ∃ c : Int, (t.again : Int) = c := ⟨_, rfl⟩
      obtain ⟨c5, hc5⟩ : ∃ c : Int, ((cntF (fun p => t.size p != 0) t.n : Nat) : Int) = c := ⟨_, rfl⟩
      obtain ⟨c6, hc6⟩ : ∃ c : Int, ((cntF t.uns t.n : Nat) : Int) = c := ⟨_, rfl⟩
      obtain ⟨c7, hc7⟩ : ∃ c : Int, ((a' : Nat) : Int) = c := ⟨_, rfl⟩
      have Q1 : Hid (∀ w1, Below w6.heap.size w6 w1 → Calls Tryd.prog 42 #[.pointer (some ⟨h1, 0, none⟩)] w1 fun e w' => e = .returned (.agg #[.int .i64 c1, .int .i64 c2, .int .i64 c3, .int .i64 c4, .int .i64 c5, .int .i64 c6]) ∧ Below w1.heap.size w1 w') := fun w1 b => by
        have h := D.g.below b
        have := counts_any M1 t w1 h.r (fun p hp => ⟨h.wf.z0 p hp, h.wf.z1 p hp⟩)
        rw [h.e] at this
        rw [← hc1, ← hc2, ← hc3, ← hc4, ← hc5, ← hc6]
        exact this
      have Q2 : Hid (∀ w1, Below w6.heap.size w6 w1 → Calls Tryd.prog 42 #[.pointer (some ⟨h2, 0, none⟩)] w1 fun e w' => e = .returned (.agg #[.int .i64 c1, .int .i64 c2, .int .i64 c3, .int .i64 c7, .int .i64 c5, .int .i64 c6]) ∧ Below w1.heap.size w1 w') := fun w1 b => by
        have h := D.h.below b
        have := counts_any M2 (t.rm r2 a') w1 h.r (fun p hp => ⟨h.wf.z0 p hp, h.wf.z1 p hp⟩)
        rw [h.e, sumW_rm] at this
        rw [← hc1, ← hc2, ← hc3, ← hc5, ← hc6, ← hc7]
        exact this
      have HB := hide D.g.b
      clear D k6 ha' HA EE2 FF2 CCY hli hlb hc1 hc2 hc3 hc4 hc5 hc6 hc7 tn
      go_wp2_with fail
      refine (unhide W1 w6 (Below.refl _ _)).mono ?_
      rintro e x1 ⟨ga, rfl, ra, d1⟩
      have B1 := hide d1
      have RA := hide ra
      clear d1 ra W1
      go_wp2_with fail
      refine (unhide W2 x1 (unhide B1)).mono ?_
      rintro e x2 ⟨gb, rfl, rb, d2⟩
      have B2 := hide ((unhide B1).trans (d2.mono (unhide B1).size))
      have RA2 := hide ((d2.block _ (heap_lt (unhide RA))).trans (unhide RA))
      have RB2 := hide rb
      clear d2 rb RA W2 B1
      go_wp2_with fail
      refine (unhide K1 x2 (unhide B2)).mono ?_
      rintro e x3 ⟨gc, rfl, rc, d3⟩
      have B3 := hide ((unhide B2).trans (d3.mono (unhide B2).size))
      have RA3 := hide ((d3.block _ (heap_lt (unhide RA2))).trans (unhide RA2))
      have RB3 := hide ((d3.block _ (heap_lt (unhide RB2))).trans (unhide RB2))
      have RC3 := hide rc
      clear d3 rc RA2 RB2 K1 B2
      go_wp2_with fail
      refine (unhide K2 x3 (unhide B3)).mono ?_
      rintro e x4 ⟨gd, rfl, rd, d4⟩
      have B4 := hide ((unhide B3).trans (d4.mono (unhide B3).size))
      have RC4 := hide ((d4.block _ (heap_lt (unhide RC3))).trans (unhide RC3))
      have CS1 := hide (same_any li ga gb x4 ((d4.block _ (heap_lt (unhide RA3))).trans (unhide RA3)) ((d4.block _ (heap_lt (unhide RB3))).trans (unhide RB3)) hll)
      have RD4 := hide rd
      clear d4 rd RA3 RB3 RC3 K2 B3
      go_wp2_with fail
      refine (unhide CS1).mono ?_
      rintro e x5 ⟨rfl, d5⟩
      have B5 := hide ((unhide B4).trans (d5.mono (unhide B4).size))
      have CS2 := hide (same_any lb gc gd x5 ((d5.block _ (heap_lt (unhide RC4))).trans (unhide RC4)) ((d5.block _ (heap_lt (unhide RD4))).trans (unhide RD4)) hlbl)
      clear d5 RC4 RD4 CS1 B4
      go_wp2_with fail
      refine (unhide CS2).mono ?_
      rintro e x6 ⟨rfl, d6⟩
      have B6 := hide ((unhide B5).trans (d6.mono (unhide B5).size))
      clear d6 CS2 B5
      go_wp2_with fail
      refine (unhide Q1 x6 (unhide B6)).mono ?_
      rintro e x7 ⟨rfl, d7⟩
      obtain ⟨W5, e5, g5, bb5⟩ : ∃ W5, x7.alloc (.cells #[.int .i64 c1, .int .i64 c2, .int .i64 c3, .int .i64 c4, .int .i64 c5, .int .i64 c6] 42) = W5 ∧ W5.heap[x7.heap.size]? = some (ctObj c1 c2 c3 c4 c5 c6) ∧ Below w6.heap.size w6 W5 := ⟨_, rfl, heap_alloc_new x7 _, ((unhide B6).trans (d7.mono (unhide B6).size)).alloc (Nat.le_trans (unhide B6).size d7.size) _⟩
      have z5 : w6.heap.size ≤ x7.heap.size := Nat.le_trans (unhide B6).size d7.size
      have E5 := hide e5
      have G5 := hide g5
      have BB5 := hide bb5
      have CCK2 := hide (unhide Q2 W5 bb5)
      clear d7 e5 g5 bb5 Q1 Q2
      go_wp2_with fail
      rw [unhide E5]
      refine (unhide CCK2).mono ?_
      rintro e x8 ⟨rfl, d8⟩
      have g6 := (d8.block _ (heap_lt (unhide G5))).trans (unhide G5)
      have hlt6 := heap_lt g6
      obtain ⟨p0, p1, p2, p3, p4, p5, pz⟩ := ctObj_cells g6
      have BB6 : Hid (Below w6.heap.size w6 x8) := hide ((unhide BB5).trans (d8.mono (unhide BB5).size))
      clear d8 g6 CCK2 E5
      go_wp2
      go_ret
      refine ⟨rfl, ?_⟩
      have hz := (unhide BB6).size
      have fin := ((unhide BB6).trans (below_setB _ _ _ 3 (.int .i64 0) z5)).alloc (by simpa using hz) (.cells #[.int .i64 c1, .int .i64 c2, .int .i64 c3, .int .i64 0, .int .i64 c5, .int .i64 c6] 42)
      exact (unhide HB).trans (fin.mono (unhide HB).size)

set_option maxHeartbeats 400000 in
theorem Room_any (a b c : Int) (w : World) (hT : Tab w) (a1 : -9223372036854775808 ≤ a) (a2 : a ≤ 9223372036854775807) (b1 : -9223372036854775808 ≤ b) (b2 : b ≤ 9223372036854775807) (c1 : -9223372036854775808 ≤ c) (c2 : c ≤ 9223372036854775807) :
    Calls Tryd.prog 12 #[.int .i64 a, .int .i64 b, .int .i64 c] w fun e w' => e = .returned (.bool true) ∧ Below w.heap.size w w' := by
  have CP := hide (saysPick_any b 16 w b1 b2 (by omega) (by omega))
  have CP2 := hide (saysPick_any c 16 w c1 c2 (by omega) (by omega))
  have hp := pickN_lt b 16 (by omega)
  have hq := pickN_lt c 16 (by omega)
  generalize pickN b 16 = p at *
  generalize pickN c 16 = q at *
  have C := room_any a (1 + p) (1 + q) w hT a1 a2 (by omega) (by omega) (by omega) (by omega)
  rw [show ((1 + p : Nat) : Int) = 1 + (p : Int) by omega, show ((1 + q : Nat) : Int) = 1 + (q : Int) by omega] at C
  have CC := hide C
  clear hT C
  go_enter Tryd.func12, Tryd.ntmps12
  go_wp2_with fail
  refine (unhide CP).mono ?_
  rintro e w1 ⟨rfl, rfl⟩
  go_wp2_with fail
  refine (unhide CP2).mono ?_
  rintro e w1 ⟨rfl, rfl⟩
  go_wp2_with (go_at_call 22; refine (unhide CC).mono ?_; rintro e w1 ⟨rfl, hb⟩)
  go_ret
  exact ⟨rfl, by assumption⟩
end Go.Proofs.YtgegkcjllliifaaDoor
