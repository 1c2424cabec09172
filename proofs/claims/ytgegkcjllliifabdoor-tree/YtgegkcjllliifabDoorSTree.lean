/-
  The walks of tree and Tree.
-/
import Derived.Test.YtgegkcjllliifabDoorSGrove
namespace Go.Proofs.YtgegkcjllliifabDoor
open Go.RowKit

def adrs (R : List Nat) : List Value := ints (R.map adr)
theorem adrs_length (R : List Nat) : (adrs R).length = R.length := by simp [adrs, ints]
theorem adrs_at (R : List Nat) (k : Nat) (h : k < R.length) : (adrs R)[k]? = some (.int .i64 (adr (R[k]))) := by simp [adrs, ints, h]
theorem adrs_append (R : List Nat) (k : Nat) : adrs R ++ [Value.int .i64 (adr k)] = adrs (R ++ [k]) := by simp [adrs, ints]

/-- A heap and a row of addresses beside it. -/
structure Tr (B0 : Nat) (w0 w : World) (hb : Nat) (L : HL) (s : St) (v : Value) (R : List Nat) : Prop where
  hd : Hd w0 w hb L s
  le : B0 ≤ w.heap.size
  lb : ∀ k, k ∈ L.blocks → k < B0
  l0 : w0.heap.size ≤ B0
  er : w.ownsRow 0 3 1 v R.length (adrs R)
  eb : ∀ q, v.ownBlock = some q → B0 ≤ q
theorem Tr.touch {B0 : Nat} {w0 w w' : World} {hb : Nat} {L : HL} {s s' : St} {v : Value} {R : List Nat} (h : Tr B0 w0 w hb L s v R) (hd : Hd w0 w' hb L s') (t : Touch L.blocks w w') : Tr B0 w0 w' hb L s' v R :=
  ⟨hd, Nat.le_trans h.le t.size, h.lb, h.l0, ownsRow_agree h.er fun k hk => t.block k (h.er.lt k hk).2 (fun e => by have := h.lb k e; have := h.eb k hk; omega), h.eb⟩
/-- A second row beside it. -/
structure Row2 (B0 : Nat) (w : World) (v v' : Value) (U : List Nat) : Prop where
  er : w.ownsRow 0 3 1 v' U.length (adrs U)
  eb : ∀ q, v'.ownBlock = some q → B0 ≤ q
  ne : ∀ q, v'.ownBlock = some q → v.ownBlock ≠ some q
theorem Row2.touch {B0 : Nat} {w w' : World} {L : HL} {v v' : Value} {U : List Nat} (h : Row2 B0 w v v' U) (lb : ∀ k, k ∈ L.blocks → k < B0) (t : Touch L.blocks w w') : Row2 B0 w' v v' U :=
  ⟨ownsRow_agree h.er fun k hk => t.block k (h.er.lt k hk).2 (fun e => by have := lb k e; have := h.eb k hk; omega), h.eb, h.ne⟩
theorem Tr.keep {B0 : Nat} {w0 w w' : World} {hb : Nat} {L : HL} {s : St} {v v' : Value} {R R' : List Nat} (h : Tr B0 w0 w hb L s v R) (hB : Below B0 w w') (er : w'.ownsRow 0 3 1 v' R'.length (adrs R')) (eb : ∀ q, v'.ownBlock = some q → B0 ≤ q) : Tr B0 w0 w' hb L s v' R' :=
  ⟨⟨⟨h.hd.e, h.hd.r.agree fun k hk => hB.block k (h.lb k hk), h.hd.wf, h.hd.own, h.hd.b.trans (hB.mono h.l0), h.hd.t⟩, h.hd.tz⟩, Nat.le_trans h.le hB.size, h.lb, h.l0, er, eb⟩
theorem Tr.app {B0 : Nat} {w0 w w' : World} {hb : Nat} {L : HL} {s : St} {v v' : Value} {R : List Nat} {k : Nat} (x : Obj) (h : Tr B0 w0 w hb L s v R) (ho : w'.ownsRow 0 3 1 v' (R.length + 1) (adrs R ++ [.int .i64 (adr k)])) (hg : (w.alloc x).grownBy w' v.ownBlock) (hloc : v'.ownBlock = v.ownBlock ∨ ∃ g, v'.ownBlock = some g ∧ (w.alloc x).heap.size ≤ g) : Tr B0 w0 w' hb L s v' (R ++ [k]) := by
  have hle := h.le
  refine h.keep ⟨hg.os, hg.tape, hg.output, by have := hg.size; simp at this; omega, fun q hq => ?_⟩ ?_ ?_
  · rw [hg.block q (by simp; omega) (fun e => by have := h.eb q e.symm; omega), heap_alloc_old w _ (by omega)]
  · rw [List.length_append, ← adrs_append]
    exact ho
  · intro q hq
    rcases hloc with e | ⟨g, e1, e2⟩
    · rw [e] at hq; exact h.eb q hq
    · rw [e1] at hq; cases hq; simp at e2; omega
theorem Tr.app2 {B0 : Nat} {w0 w w' : World} {hb : Nat} {L : HL} {s : St} {v v1 v2 : Value} {R U : List Nat} {k : Nat} (x : Obj) (h : Tr B0 w0 w hb L s v R) (h2 : Row2 B0 w v v1 U) (ho : w'.ownsRow 0 3 1 v2 (U.length + 1) (adrs U ++ [.int .i64 (adr k)])) (hg : (w.alloc x).grownBy w' v1.ownBlock) (hloc : v2.ownBlock = v1.ownBlock ∨ ∃ g, v2.ownBlock = some g ∧ (w.alloc x).heap.size ≤ g) : Tr B0 w0 w' hb L s v R ∧ Row2 B0 w' v v2 (U ++ [k]) := by
  have hle := h.le
  have hB : Below B0 w w' := ⟨hg.os, hg.tape, hg.output, by have := hg.size; simp at this; omega, fun q hq => by rw [hg.block q (by simp; omega) (fun e => by have := h2.eb q e.symm; omega), heap_alloc_old w _ (by omega)]⟩
  refine ⟨h.keep hB (ownsRow_agree h.er fun q hq => ?_) h.eb, ?_, ?_, ?_⟩
  · have hlt := (h.er.lt q hq).2
    rw [hg.block q (by simp; omega) (fun e => h2.ne q e.symm hq), heap_alloc_old w _ hlt]
  · rw [List.length_append, ← adrs_append]
    exact ho
  · intro q hq
    rcases hloc with e | ⟨g, e1, e2⟩
    · rw [e] at hq; exact h2.eb q hq
    · rw [e1] at hq; cases hq; simp at e2; omega
  · intro q hq hv
    rcases hloc with e | ⟨g, e1, e2⟩
    · rw [e] at hq; exact h2.ne q hq hv
    · rw [e1] at hq; cases hq
      have := (h.er.lt _ hv).2
      simp at e2
      omega

def lenV : Value → Nat
  | .slice _ n _ => n
  | _ => 0
theorem Grove.lay0 {s t : St} {m k : Nat} {R : List Nat} (h : Grove s m R) (l : LaidTo s k 2 false t) : Grove t (m + 1) (R ++ [k]) := by
  obtain ⟨u, e, g, _⟩ := h.lay l (t.word k) (t.word (k + 1))
  have : u = t := by
    rw [e]
    have e1 : t.setWd k (t.word k) = t := by unfold St.setWd; rw [upd_id]
    rw [e1]
    unfold St.setWd
    rw [upd_id]
  rw [this] at g
  exact g
/-- What stays as it is while the tree is built. -/
structure Still (r : Nat) (s : St) : Prop where
  room : s.room = r
  roots : s.roots = []
  colls : s.colls = 0
theorem Still.lay {r k : Nat} {s t : St} (h : Still r s) (l : LaidTo s k 2 false t) : Still r t := ⟨l.room.trans h.room, l.roots.trans h.roots, l.colls.trans h.colls⟩
theorem drop_two {R : List Nat} {i : Nat} (h : 2 * i + 1 < R.length) : R.drop (2 * i) = R[2 * i] :: R[2 * i + 1] :: R.drop (2 * (i + 1)) := by
  rw [List.drop_eq_getElem_cons (by omega : 2 * i < R.length), List.drop_eq_getElem_cons (by omega : 2 * i + 1 < R.length), show 2 * (i + 1) = 2 * i + 1 + 1 by omega]
theorem Grove.two {s t : St} {m k i : Nat} {R U : List Nat} (h : Grove s m (R.drop (2 * i) ++ U)) (hi : 2 * i + 1 < R.length) (l : LaidTo s k 2 false t) : Grove ((t.setWd k (adr (R[2 * i]))).setWd (k + 1) (adr (R[2 * i + 1]))) (m + 1) (R.drop (2 * (i + 1)) ++ (U ++ [k])) := by
  obtain ⟨u, e, g, _, hk, ha, w0, w1⟩ := h.lay l (adr (R[2 * i])) (adr (R[2 * i + 1]))
  rw [← e]
  rw [drop_two hi] at g
  have m1 : s.beg (R[2 * i]) = true := h.ro _ (by rw [drop_two hi]; simp)
  have m2 : s.beg (R[2 * i + 1]) = true := h.ro _ (by rw [drop_two hi]; simp)
  have a1 := h.at m1 0 (by omega) (by omega)
  have a2 := h.at m2 0 (by omega) (by omega)
  rw [Int.add_zero] at a1 a2
  have g' : Grove u (m + 1) (R[2 * i] :: R[2 * i + 1] :: (R.drop (2 * (i + 1)) ++ (U ++ [k]))) := g.perm fun q => by simp
  exact g'.tie (k := k) (by simp) ((at_iff g.wf).1 hk).1 (by rw [w0]; exact ha _ _ a1) (by rw [w1]; exact ha _ _ a2)
theorem Still.two {r k : Nat} {s t : St} (h : Still r s) (l : LaidTo s k 2 false t) (x y : Int) : Still r ((t.setWd k x).setWd (k + 1) y) := ⟨l.room.trans h.room, l.roots.trans h.roots, l.colls.trans h.colls⟩

theorem gone_left {s t : St} (hr : ∀ x, x ∈ s.roots → s.at x = none) (c : Cleaned s t) : cntF t.beg (t.n * 32) = 0 ∧ t.again = 0 := by
  have key : ∀ q, s.Reach q → False := by
    intro q hq
    induction hq with
    | root h1 h2 => rw [hr _ h1] at h2; cases h2
    | word _ _ _ _ ih => exact ih
  have h0 : cntF t.beg (t.n * 32) = 0 := cntF_zero fun k _ => by
    cases h : t.beg k with
    | false => rfl
    | true => exact (key k ((c.beg k).1 h)).elim
  have := c.a1
  exact ⟨h0, by omega⟩

set_option maxRecDepth 10000 in
set_option maxHeartbeats 6400000 in
theorem tree_any (lv r : Nat) (w : World) (hT : Tab w) (l1 : 1 ≤ lv) (l2 : lv ≤ 7) (r1 : 1 ≤ r) (r2 : r ≤ 16) :
    Calls Tryd.prog 15 #[.int .i64 lv, .int .i64 r] w fun e w' => e = .returned (.bool true) ∧ Below w.heap.size w w' := by
  obtain ⟨i0, hi, hz0, hz1, hz2⟩ := info_parts Tryd.infoInt
  have T := hide hT
  have Q0 := hide (quiet_any 48 r w (by omega) (by omega) r1 r2)
  obtain ⟨j0, hj0⟩ : ∃ j, lv = j + 1 := ⟨lv - 1, by omega⟩
  subst hj0
  obtain ⟨nn, hnn⟩ : ∃ nn, 2 ^ j0 = nn := ⟨_, rfl⟩
  have N1 : 1 ≤ nn ∧ nn ≤ 64 := by
    have : j0 = 0 ∨ j0 = 1 ∨ j0 = 2 ∨ j0 = 3 ∨ j0 = 4 ∨ j0 = 5 ∨ j0 = 6 := by omega
    rw [← hnn]
    rcases this with rfl | rfl | rfl | rfl | rfl | rfl | rfl <;> simp
  have hw : wrap64 ((2 : Int) ^ j0) = (nn : Int) := by
    have : (2 : Int) ^ j0 = (nn : Int) := by rw [← hnn]; push_cast; rfl
    rw [this]
    exact IntWalk.wrap64_in _ ⟨by omega, by omega⟩
  have HNN := hide hnn
  clear hT hnn
  go_enter Tryd.func15, Tryd.ntmps15
  go_wp2_with fail
  refine (unhide Q0).mono ?_
  rintro e wn ⟨hb, rfl, hnew⟩
  obtain ⟨L, h0⟩ := Hd.new (unhide T) (Below.refl _ _) hnew
  have T0 : Hid (Tr wn.heap.size w wn hb L (St.init 48 r) (.slice none ([] : List Nat).length 0) []) := hide ⟨h0, Nat.le_refl _, fun k hk => h0.r.lt k hk, h0.b.size, World.ownsRow_nil _ _ _ _, fun q hq => by cases hq⟩
  obtain ⟨B0, hB0⟩ : ∃ B0, wn.heap.size = B0 := ⟨_, rfl⟩
  rw [hB0] at T0
  clear hnew h0 hB0
  go_wp2
  rw [hw]
  clear hw
  go_loopw [6, 8] (fun rv av wr => ∃ (R : List Nat) (ao : Option Addr) (cap : Nat) (s : St), rv = .slice ao R.length cap ∧ av = .int .i64 R.length ∧ R.length ≤ nn ∧ cap ≤ maxLen ∧ Hid (Tr B0 w wr hb L s (.slice ao R.length cap) R) ∧ Hid (Grove s R.length R) ∧ Hid (Still r s)) (fun rv _ _ => 100 - lenV rv)
  case atStart => exact ⟨[], none, 0, _, rfl, rfl, Nat.zero_le _, Nat.zero_le _, T0, hide (Grove.init r), hide ⟨rfl, rfl, rfl⟩⟩
  case round =>
    clear T0
    obtain ⟨R, ao, cap, s, rfl, rfl, hR, hcap, TR, GR, ST⟩ := hrel
    by_cases hlt : R.length < nn
    · obtain ⟨k, hk⟩ := (unhide GR).room (by omega)
      have C1 := hide (hd_alloc (unhide TR).hd 2 2 k false (by omega) (by rw [(unhide GR).n]; omega) (by decide) hk)
      clear hk
      have hbl : decide ((R.length : Int) < (nn : Int)) = true := by simp; omega
      go_wp2_with fail
      clear hbl
      refine (unhide C1).mono ?_
      rintro e w1 ⟨rfl, h1, l1', t1⟩
      have T1 := hide ((unhide TR).touch h1 t1)
      have G1 := hide ((unhide GR).lay0 l1')
      have S1 := hide ((unhide ST).lay l1')
      clear h1 l1' t1 C1
      go_wp2_with (at_builtin; refine stop ?_)
      refine hide (wpList_append_at _ rfl _ _ 41 rfl 3 i0 (.int .i64 0) 1 8 Tryd.underlying41 hi hz0 hz1 hz2 rfl (by decide) (.slice ao R.length cap) R.length (adrs R) rfl ((unhide T1).er.alloc _) ⟨w1.heap.size, 0, none⟩ 1 1 [.int .i64 (1048576 + (k : Int) * 8)] rfl rfl ?c1 ?c2 (by decide) (by unfold maxLen; omega) (by omega) ?_)
      case c1 =>
        intro j u hj
        match j, hj with
        | 0, hj => simp at hj; subst hj; exact cell_of_row (w1.alloc (.cells #[.int .i64 (1048576 + (k : Int) * 8)] 3)) w1.heap.size 0 _ _ _ (heap_alloc_new w1 _)
      case c2 => intro u hu; simp at hu; subst hu; rfl
      intro v' w2 ho hg hloc
      have HX := (unhide T1).app (k := k) _ ho hg hloc
      obtain ⟨ao', cap', hv', hd1, hd2⟩ := ownsRow_shape ho
      have hl2 : (R ++ [k]).length = R.length + 1 := by simp
      rw [← hl2] at hv'
      rw [hv'] at HX ⊢
      have T2 := hide HX
      have HL2 := hide hl2
      rw [← hl2] at G1
      clear HX ho hg hloc hv' hl2
      go_wp2
      go_roundw
      case rel => exact ⟨R ++ [k], ao', cap', _, by rw [unhide HL2], by rw [unhide HL2]; go_num, by rw [unhide HL2]; omega, hd2, T2, G1, S1⟩
      case measure => simp [lenV]; omega
    · have P0 : Hid (∃ j, R.length = 2 ^ j) := hide ⟨j0, by have := unhide HNN; omega⟩
      have hR1 : 1 ≤ R.length := by omega
      have hR2 : R.length + R.length ≤ 128 := by omega
      have M0 : Hid (R.length ≤ 128) := hide (by omega)
      have hbl : decide ((R.length : Int) < (nn : Int)) = false := by simp; omega
      go_wp2
      clear hlt hR hbl
      go_loopw [6, 8] (fun rv av wr => ∃ (m : Nat) (R : List Nat) (ao : Option Addr) (cap : Nat) (s : St), rv = .slice ao R.length cap ∧ av = .int .i64 m ∧ 1 ≤ R.length ∧ m + R.length ≤ 128 ∧ cap ≤ maxLen ∧ Hid (∃ j, R.length = 2 ^ j) ∧ Hid (Tr B0 w wr hb L s (.slice ao R.length cap) R) ∧ Hid (Grove s m R) ∧ Hid (Still r s)) (fun rv _ _ => lenV rv)
      case atStart => exact ⟨R.length, R, ao, cap, s, rfl, rfl, hR1, hR2, hcap, P0, TR, GR, ST⟩
      case round =>
        clear TR GR ST P0 M0 hR1 hR2 hcap
        obtain ⟨m, R, ao, cap, s, rfl, rfl, hR1, hR2, hcap, P0, TR, GR, ST⟩ := hrel
        by_cases hlt : 1 < R.length
        · have RW : Hid (Row2 B0 wr (.slice ao R.length cap) (.slice none ([] : List Nat).length 0) []) := hide ⟨World.ownsRow_nil _ _ _ _, fun q hq => (by cases hq), fun q hq => (by cases hq)⟩
          have G0 : Hid (Grove s m (R.drop (2 * 0) ++ [])) := hide (by have := unhide GR; simpa using this)
          have hbl : decide (1 < (R.length : Int)) = true := by simp; omega
          go_wp2
          clear hbl
          go_loopw [11, 12, 8] (fun uv kv av wr => ∃ (i ki : Nat) (U : List Nat) (ao' : Option Addr) (cap' : Nat) (s : St), uv = .slice ao' U.length cap' ∧ kv = .int .i64 (ki : Int) ∧ av = .int .i64 ((m : Int) + (i : Int)) ∧ ki ≤ R.length ∧ i ≤ 64 ∧ Hid (ki = 2 * i) ∧ Hid (U.length = i) ∧ cap' ≤ maxLen ∧ Hid (Tr B0 w wr hb L s (.slice ao R.length cap) R) ∧ Hid (Row2 B0 wr (.slice ao R.length cap) (.slice ao' U.length cap') U) ∧ Hid (Grove s (m + i) (R.drop (2 * i) ++ U)) ∧ Hid (Still r s)) (fun _ kv _ _ => 200 - (intOf kv).toNat)
          case atStart => exact ⟨0, 0, [], none, 0, s, rfl, rfl, by go_num, by omega, by omega, hide rfl, hide rfl, Nat.zero_le _, TR, RW, G0, ST⟩
          case round =>
            clear RW G0 TR GR ST
            obtain ⟨i, ki, U, ao', cap', s, rfl, rfl, rfl, hi2, hi64, KI, HU, hcap', TR, RW, GR, ST⟩ := hrel
            by_cases hin : ki + 1 < R.length
            · have hul : U.length ≤ 64 := by have := unhide HU; omega
              obtain ⟨k, hk⟩ := (unhide GR).room (by omega)
              have C1 := hide (hd_alloc (unhide TR).hd 2 2 k false (by omega) (by rw [(unhide GR).n]; omega) (by decide) hk)
              clear hk
              go_wp2_with fail
              refine (unhide C1).mono ?_
              rintro e w1 ⟨rfl, h1, l1', t1⟩
              have tr1 := (unhide TR).touch h1 t1
              have rw1 := (unhide RW).touch (unhide TR).lb t1
              obtain ⟨g, cp, hv, hq1, hq2, hq3⟩ := ownsRow_some tr1.er (by omega)
              simp only [Value.slice.injEq, true_and] at hv
              obtain ⟨rfl, rfl⟩ := hv
              have ek := unhide KI
              have hin' : 2 * i + 1 < R.length := by omega
              have g2 := (unhide GR).two hin' l1'
              obtain ⟨x0, hx0⟩ : ∃ x, adr (R[2 * i]) = x := ⟨_, rfl⟩
              obtain ⟨x1, hx1⟩ : ∃ x, adr (R[2 * i + 1]) = x := ⟨_, rfl⟩
              have cx0 : ∀ w' : World, w'.ownsRow 0 3 1 (.slice (some ⟨g, 0, none⟩) R.length cap) R.length (adrs R) → w'.cell? ⟨g, ki, none⟩ = some (.int .i64 x0) := fun w' h => by
                rw [h.cellAt ki (by omega), ek, adrs_at R (2 * i) (by omega), hx0]
              have cx1 : ∀ w' : World, w'.ownsRow 0 3 1 (.slice (some ⟨g, 0, none⟩) R.length cap) R.length (adrs R) → w'.cell? ⟨g, ki + 1, none⟩ = some (.int .i64 x1) := fun w' h => by
                rw [h.cellAt (ki + 1) (by omega), ek, adrs_at R (2 * i + 1) (by omega), hx1]
              rw [hx0, hx1] at g2
              have s2 := (unhide ST).two l1' x0 x1
              have hat : (s.laid k 2 false).at (1048576 + (k : Int) * 8) = some k := by rw [l1'.at (unhide GR).wf (by omega), if_pos (by omega)]
              have hat8 : (s.laid k 2 false).at (1048576 + (k : Int) * 8 + 8) = some k := by rw [l1'.at (unhide GR).wf (by omega), if_pos (by omega)]
              have hlt1 := l1'.lt
              rw [(unhide GR).n] at hlt1
              have hn1 : Hid ((s.laid k 2 false).n = 48) := hide (l1'.n.trans (unhide GR).n)
              generalize hst : s.laid k 2 false = t at *
              have d0 := cx0 w1 tr1.er
              have CT := hStore_ok L t (1048576 + (k : Int) * 8) x0 k k w1 tr1.hd.r tr1.hd.wf.ok (by omega) hat (by omega) (by omega) (by rw [unhide hn1]; omega)
              rw [tr1.hd.e] at CT
              have CCT := hide CT
              have T1 := hide tr1
              have R1 := hide rw1
              have G2 := hide g2
              have S2 := hide s2
              have CX1 := hide cx1
              have HAT8 := hide hat8
              clear h1 l1' t1 C1 tr1 rw1 g2 s2 cx0 cx1 hx0 hx1 hat hat8 hst CT ek hin'
              go_wp2_with fail
              refine (unhide CCT).mono ?_
              rintro e w2 ⟨rfl, r2', t2⟩
              have tr2 := (unhide T1).touch ((unhide T1).hd.touch r2' ((unhide T1).hd.wf.setWd _ _) t2) t2
              have rw2 := (unhide R1).touch (unhide T1).lb t2
              have d1 := unhide CX1 w2 tr2.er
              have CT := hStore_ok L (t.setWd k x0) (1048576 + (k : Int) * 8 + 8) x1 (k + 1) k w2 tr2.hd.r tr2.hd.wf.ok (by omega) (unhide HAT8) (by omega) (by omega) (by show k + 1 < t.n * 32; rw [unhide hn1]; omega)
              rw [tr2.hd.e] at CT
              have CCT2 := hide CT
              have T2 := hide tr2
              have R2 := hide rw2
              clear r2' t2 tr2 rw2 CT d0 CX1 CCT
              go_wp2_with fail
              refine (unhide CCT2).mono ?_
              rintro e w3 ⟨rfl, r3, t3⟩
              have tr3 := (unhide T2).touch ((unhide T2).hd.touch r3 ((unhide T2).hd.wf.setWd _ _) t3) t3
              have rw3 := (unhide R2).touch (unhide T2).lb t3
              have T3 := hide tr3
              have R3 := hide rw3
              clear r3 t3 tr3 rw3 d1 CCT2
              go_wp2_with (at_builtin; refine stop ?_)
              refine hide (wpList_append_at _ rfl _ _ 41 rfl 3 i0 (.int .i64 0) 1 8 Tryd.underlying41 hi hz0 hz1 hz2 rfl (by decide) (.slice ao' U.length cap') U.length (adrs U) rfl ((unhide R3).er.alloc _) ⟨w3.heap.size, 0, none⟩ 1 1 [.int .i64 (1048576 + (k : Int) * 8)] rfl rfl ?c1 ?c2 (by decide) (by unfold maxLen; omega) (by omega) ?_)
              case c1 =>
                intro j u hj
                match j, hj with
                | 0, hj => simp at hj; subst hj; exact cell_of_row (w3.alloc (.cells #[.int .i64 (1048576 + (k : Int) * 8)] 3)) w3.heap.size 0 _ _ _ (heap_alloc_new w3 _)
              case c2 => intro u hu; simp at hu; subst hu; rfl
              intro v' w4 ho hg hloc
              obtain ⟨HX, HY⟩ := (unhide T3).app2 (k := k) _ (unhide R3) ho hg hloc
              obtain ⟨ao2, cap2, hv', hd1, hd2⟩ := ownsRow_shape ho
              have hl2 : (U ++ [k]).length = U.length + 1 := by simp
              rw [← hl2] at hv'
              rw [hv'] at HY ⊢
              have T4 := hide HX
              have R4 := hide HY
              have HL2 := hide hl2
              clear HX HY ho hg hloc hv' hl2
              go_wp2
              go_roundw
              case rel => exact ⟨i + 1, ki + 2, U ++ [k], ao2, cap2, _, by rw [unhide HL2], by go_num, by go_num, by omega, by have := unhide KI; omega, hide (by have := unhide KI; omega), hide (by rw [unhide HL2, unhide HU]), hd2, T4, R4, G2, S2⟩
              case measure => simp [intOf]; omega
            · obtain ⟨j, hj⟩ := unhide P0
              have ek := unhide KI
              have hev : ∃ j', R.length = 2 * 2 ^ j' := by
                cases j with
                | zero => rw [hj] at hlt; simp at hlt
                | succ j => exact ⟨j, by rw [hj, Nat.pow_succ, Nat.mul_comm]⟩
              obtain ⟨j', hj'⟩ := hev
              have hul : U.length = 2 ^ j' := by have := unhide HU; omega
              have hpos : 1 ≤ 2 ^ j' := Nat.one_le_two_pow
              have g2 : Grove s (m + i) U := by
                have := unhide GR
                rw [List.drop_eq_nil_of_le (by omega)] at this
                exact this
              have t2 : Tr B0 w wr hb L s (.slice ao' U.length cap') U := (unhide TR).keep (Below.refl _ _) (unhide RW).er (unhide RW).eb
              have P1 : Hid (∃ j, U.length = 2 ^ j) := hide ⟨j', hul⟩
              have G2 := hide g2
              have T2 := hide t2
              have hu1 : 1 ≤ U.length := by omega
              have hu2 : m + i + U.length ≤ 128 := by have := unhide HU; omega
              have hu3 : U.length < R.length := by omega
              clear hj hj' hul hpos g2 t2 GR TR RW ek P0 KI HU
              go_wp2
              go_roundw
              case rel => exact ⟨m + i, U, ao', cap', s, rfl, by go_num, hu1, hu2, hcap', P1, T2, G2, ST⟩
              case measure => simp [lenV]; omega
        · obtain ⟨a, rfl⟩ : ∃ a, R = [a] := by
            match R, hR1, hlt with
            | [a], _, _ => exact ⟨a, rfl⟩
            | a :: b :: l, _, h => simp at h
          clear hlt P0 hR1
          have tr := unhide TR
          obtain ⟨g, cp, hv, hq1, hq2, hq3⟩ := ownsRow_some tr.er (by simp)
          simp only [Value.slice.injEq, true_and] at hv
          obtain ⟨rfl, rfl⟩ := hv
          have d0 : wr.cell? ⟨g, 0, none⟩ = some (.int .i64 (1048576 + (a : Int) * 8)) := by
            rw [tr.er.cellAt 0 (by simp), adrs_at [a] 0 (by simp)]; rfl
          have ha : (a : Int) ≤ 1536 := by
            have := ((unhide GR).wf.bg a ((unhide GR).ro a (by simp))).1
            rw [(unhide GR).n] at this
            omega
          have CP := hPush_ok L s (1048576 + (a : Int) * 8 + 9) wr tr.hd.r (by rw [(unhide ST).roots]; simp)
          rw [tr.hd.e, (unhide ST).roots] at CP
          have CCP := hide CP
          have l1' : ([a] : List Nat).length = 1 := rfl
          rw [l1']
          clear tr CP l1' hq1 hq2
          go_wp2_with fail
          refine (unhide CCP).mono ?_
          rintro e w1 ⟨rfl, k1⟩
          have k1' : HSt wr L { s with roots := [1048576 + (a : Int) * 8 + 9] } w1 := k1
          obtain ⟨L1, h1, _, _⟩ := (unhide TR).hd.hst k1' ((unhide TR).hd.wf.roots _)
          have g1 := (unhide GR).roots [1048576 + (a : Int) * 8 + 9]
          have hrc := g1.reach (a := a) rfl
          have C2 := clean_any L1 _ w1 h1.r h1.wf (by show s.colls ≤ _; rw [(unhide ST).colls]; omega)
          rw [h1.e] at C2
          have CC2 := hide C2
          have H1 := hide h1
          have HRC := hide hrc
          have CN : Hid (cntF s.beg 1536 = m) := (unhide GR).cnt
          have SN : Hid (s.n = 48) := (unhide GR).n
          clear k1 k1' h1 g1 hrc C2 d0
          go_wp2_with fail
          refine (unhide CC2).mono ?_
          rintro e w2 ⟨t, rfl, cl, k2⟩
          obtain ⟨L2, h2, _, _⟩ := (unhide H1).hst k2 cl.wf cl.trig
          have htn : t.n = 48 := cl.n.trans (unhide SN)
          have hcnt : cntF t.beg (t.n * 32) = m := by
            rw [htn, show 48 * 32 = 1536 from rfl, ← unhide CN]
            refine cntF_congr fun k _ => ?_
            have := (cl.beg k).trans (unhide HRC k)
            have e : St.beg { s with roots := [1048576 + (a : Int) * 8 + 9] } k = s.beg k := rfl
            rw [e] at this
            cases h1 : t.beg k <;> cases h2 : s.beg k <;> simp_all
          have ha1 := cl.a1
          have ha2 := cl.a2
          rw [hcnt] at ha1 ha2
          have ha2' : 0 < t.again → r + 1 ≤ m := fun h => by
            have := ha2 h
            have e : St.room { s with roots := [1048576 + (a : Int) * 8 + 9] } = r := (unhide ST).room
            rw [e] at this
            exact this
          have hr2 : t.roots = [1048576 + (a : Int) * 8 + 9] := cl.roots
          have hc2 : t.colls = 1 := by rw [cl.colls]; show s.colls + 1 = 1; rw [(unhide ST).colls]
          unfold St.counts
          rw [hcnt]
          obtain ⟨W7, hW7, b7, g7⟩ : ∃ W7, w2.alloc (ctObj (m : Int) (sumW t (t.n * 32)) t.colls t.again t.used t.unsw) = W7 ∧ Below w2.heap.size w2 W7 ∧ W7.heap[w2.heap.size]? = some (ctObj (m : Int) (sumW t (t.n * 32)) t.colls t.again t.used t.unsw) := ⟨_, rfl, (Below.refl _ _).alloc (Nat.le_refl _) _, heap_alloc_new w2 _⟩
          have h7 := h2.below b7
          have hnot : w2.heap.size ∉ L2.blocks := fun e => by have := h2.r.lt _ e; omega
          have C8 := hSet_ok L2 t 0 1 W7 h7.r (by rw [hr2]; simp)
          rw [h7.e, hr2] at C8
          have CC8 := hide C8
          have H7 := hide h7
          have G7 := hide g7
          have NT := hide hnot
          have HW7 := hide hW7
          have HC2 := hide hc2
          have Z2 := hide h2.b.size
          unfold ctObj at HW7
          obtain ⟨f0, f1, f2, f3, f4, f5, _⟩ := ctObj_cells g7
          clear g7 hW7
          generalize sumW t (t.n * 32) = sw at *
          generalize t.used = tu at *
          generalize t.unsw = tw at *
          generalize t.again = ag at ha1 ha2' f3 HW7 G7 ⊢
          have HA2 := hide ha2'
          clear C8 h7 hnot hc2 h2 b7 k2 cl hcnt htn ha2 ha2' hr2 HRC CN
          by_cases cm : m ≤ r
          · have e0 : ag = 0 := by
              rcases Nat.eq_zero_or_pos ag with e | e
              · exact e
              · have := unhide HA2 e; omega
            subst e0
            have q1 : ((m : Int) != (m : Int)) = false := by simp
            have q2 : decide ((m : Int) + 1 < ((0 : Nat) : Int)) = false := by simp; omega
            have q3 : decide ((m : Int) ≤ (r : Int)) = true := by simp; omega
            have cm' : ((m : Int) ≤ (r : Int)) := by omega
            have cm2 : ¬ ((m : Int) + 1 < 0) := by omega
            have E7 : Hid ((w2.alloc (.cells #[.int .i64 (m : Int), .int .i64 sw, .int .i64 t.colls, .int .i64 0, .int .i64 tu, .int .i64 tw] 38)) = W7) := unhide HW7
            go_wp2_with fail
            rw [unhide E7]
            refine (unhide CC8).mono ?_
            rintro e w8 ⟨rfl, k8⟩
            have k8' : HSt W7 L2 { t with roots := [1] } w8 := k8
            obtain ⟨L8, h8, i8, t8⟩ := (unhide H7).hst k8' ((unhide H7).wf.roots [1])
            have g8 := (t8.block _ (heap_lt (unhide G7)) (unhide NT)).trans (unhide G7)
            have n8 : w2.heap.size ∉ L8.blocks := fun e => (i8 _ e).elim (unhide NT) (fun x => by have := heap_lt (unhide G7); omega)
            have C9 := clean_any L8 _ w8 h8.r h8.wf (by show t.colls ≤ _; rw [unhide HC2]; omega)
            rw [h8.e] at C9
            have CC9 := hide C9
            have H8 := hide h8
            have G8 := hide g8
            have N8 := hide n8
            clear k8 k8' h8 i8 t8 g8 n8 C9
            go_wp2_with fail
            refine (unhide CC9).mono ?_
            rintro e w9 ⟨u9, rfl, cl9, k9⟩
            obtain ⟨L9, h9, i9, t9⟩ := (unhide H8).hst k9 cl9.wf cl9.trig
            have g9 := (t9.block _ (heap_lt (unhide G8)) (unhide N8)).trans (unhide G8)
            obtain ⟨o1, o2⟩ := gone_left (fun x hx => by
              have hx' : x ∈ [(1 : Int)] := hx
              rw [List.mem_singleton.1 hx']
              show t.at 1 = none
              unfold St.at
              rw [if_neg (by omega)]) cl9
            unfold St.counts
            rw [o1, o2]
            obtain ⟨p0, p1, p2, p3, p4, p5, pz⟩ := ctObj_cells g9
            have HB := hide h9.b
            clear k9 cl9 h9 i9 t9 g9 o1 o2
            go_wp2
            go_ret
            have hs := unhide Z2
            exact ⟨rfl, (((((((unhide HB).trans (below_setB _ _ _ 0 _ hs)).trans (below_setB _ _ _ 1 _ hs)).trans (below_setB _ _ _ 2 _ hs)).trans (below_setB _ _ _ 3 _ hs)).trans (below_setB _ _ _ 4 _ hs)).trans (below_setB _ _ _ 5 _ hs))⟩
          · have q1 : ((m : Int) != (m : Int)) = false := by simp
            have q2 : decide ((m : Int) + 1 < (ag : Int)) = false := by simp; omega
            have q3 : decide ((m : Int) ≤ (r : Int)) = false := by simp; omega
            have cm' : ¬ ((m : Int) ≤ (r : Int)) := by omega
            have cm2 : ¬ ((m : Int) + 1 < (ag : Int)) := by omega
            have E7 : Hid ((w2.alloc (.cells #[.int .i64 (m : Int), .int .i64 sw, .int .i64 t.colls, .int .i64 ag, .int .i64 tu, .int .i64 tw] 38)) = W7) := unhide HW7
            go_wp2_with fail
            rw [unhide E7]
            refine (unhide CC8).mono ?_
            rintro e w8 ⟨rfl, k8⟩
            have k8' : HSt W7 L2 { t with roots := [1] } w8 := k8
            obtain ⟨L8, h8, i8, t8⟩ := (unhide H7).hst k8' ((unhide H7).wf.roots [1])
            have g8 := (t8.block _ (heap_lt (unhide G7)) (unhide NT)).trans (unhide G7)
            have n8 : w2.heap.size ∉ L8.blocks := fun e => (i8 _ e).elim (unhide NT) (fun x => by have := heap_lt (unhide G7); omega)
            have C9 := clean_any L8 _ w8 h8.r h8.wf (by show t.colls ≤ _; rw [unhide HC2]; omega)
            rw [h8.e] at C9
            have CC9 := hide C9
            have H8 := hide h8
            have G8 := hide g8
            have N8 := hide n8
            clear k8 k8' h8 i8 t8 g8 n8 C9
            go_wp2_with fail
            refine (unhide CC9).mono ?_
            rintro e w9 ⟨u9, rfl, cl9, k9⟩
            obtain ⟨L9, h9, i9, t9⟩ := (unhide H8).hst k9 cl9.wf cl9.trig
            have g9 := (t9.block _ (heap_lt (unhide G8)) (unhide N8)).trans (unhide G8)
            obtain ⟨o1, o2⟩ := gone_left (fun x hx => by
              have hx' : x ∈ [(1 : Int)] := hx
              rw [List.mem_singleton.1 hx']
              show t.at 1 = none
              unfold St.at
              rw [if_neg (by omega)]) cl9
            unfold St.counts
            rw [o1, o2]
            obtain ⟨p0, p1, p2, p3, p4, p5, pz⟩ := ctObj_cells g9
            have HB := hide h9.b
            clear k9 cl9 h9 i9 t9 g9 o1 o2
            go_wp2
            go_ret
            have hs := unhide Z2
            exact ⟨rfl, (((((((unhide HB).trans (below_setB _ _ _ 0 _ hs)).trans (below_setB _ _ _ 1 _ hs)).trans (below_setB _ _ _ 2 _ hs)).trans (below_setB _ _ _ 3 _ hs)).trans (below_setB _ _ _ 4 _ hs)).trans (below_setB _ _ _ 5 _ hs))⟩

set_option maxHeartbeats 400000 in
theorem Tree_any (a b c : Int) (w : World) (hT : Tab w) (a1 : -9223372036854775808 ≤ a) (a2 : a ≤ 9223372036854775807) (b1 : -9223372036854775808 ≤ b) (b2 : b ≤ 9223372036854775807) :
    Calls Tryd.prog 7 #[.int .i64 a, .int .i64 b, .int .i64 c] w fun e w' => e = .returned (.bool true) ∧ Below w.heap.size w w' := by
  have CP := hide (saysPick_any a 7 w a1 a2 (by omega) (by omega))
  have CP2 := hide (saysPick_any b 16 w b1 b2 (by omega) (by omega))
  have hp := pickN_lt a 7 (by omega)
  have hq := pickN_lt b 16 (by omega)
  generalize pickN a 7 = p at *
  generalize pickN b 16 = q at *
  have C := tree_any (1 + p) (1 + q) w hT (by omega) (by omega) (by omega) (by omega)
  rw [show ((1 + p : Nat) : Int) = 1 + (p : Int) by omega, show ((1 + q : Nat) : Int) = 1 + (q : Int) by omega] at C
  have CC := hide C
  clear hT C
  go_enter Tryd.func7, Tryd.ntmps7
  go_wp2_with fail
  refine (unhide CP).mono ?_
  rintro e w1 ⟨rfl, rfl⟩
  go_wp2_with fail
  refine (unhide CP2).mono ?_
  rintro e w1 ⟨rfl, rfl⟩
  go_wp2_with (go_at_call 15; refine (unhide CC).mono ?_; rintro e w1 ⟨rfl, hb⟩)
  go_ret
  exact ⟨rfl, by assumption⟩
end Go.Proofs.YtgegkcjllliifabDoor
