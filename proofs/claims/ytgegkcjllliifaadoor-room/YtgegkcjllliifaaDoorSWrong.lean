/-
  The walks of same, wrong and Wrong.
-/
import Derived.Test.YtgegkcjllliifaaDoorHWalk
import Derived.Test.YtgegkcjllliifaaDoorHLoad
namespace Go.Proofs.YtgegkcjllliifaaDoor
open Go.RowKit

theorem Tryd.infoErrno : (Tryd.prog.info? 36).map (fun i => (i.zero, i.size, i.bytes)) = some (some (.int .i64 0), 1, 8) := by kernel_rfl

set_option maxHeartbeats 800000 in
theorem same_any (l : List Int) (g1 g2 : Nat) (w : World) (h1 : w.heap[g1]? = some (.cells (ints l).toArray 3 (0, 0))) (h2 : w.heap[g2]? = some (.cells (ints l).toArray 3 (0, 0))) (hn : l.length ≤ 2000) :
    Calls Tryd.prog 41 #[.slice (some ⟨g1, 0, none⟩) l.length l.length, .slice (some ⟨g2, 0, none⟩) l.length l.length] w fun e w' => e = .returned (.bool true) ∧ Below w.heap.size w w' := by
  have c1 : ∀ k (hk : k < l.length), w.cell? ⟨g1, k, none⟩ = some (.int .i64 (l[k])) := fun k hk => by rw [cell_of_row w g1 k _ _ _ h1]; simp [ints, hk]
  have c2 : ∀ k (hk : k < l.length), w.cell? ⟨g2, k, none⟩ = some (.int .i64 (l[k])) := fun k hk => by rw [cell_of_row w g2 k _ _ _ h2]; simp [ints, hk]
  have C1 := hide c1
  have C2 := hide c2
  clear h1 h2 c1 c2
  have hne : ((l.length : Int) == (l.length : Int)) = true := by simp
  go_enter Tryd.func41, Tryd.ntmps41
  go_wp2
  clear hne
  go_loopw [5] (fun i wr => ∃ k q : Nat, k ≤ l.length ∧ i = .int .i64 k ∧ wr = w.drewN q) (fun i _ => 3000 - (intOf i).toNat)
  case atStart => exact ⟨0, 0, by omega, rfl, rfl⟩
  case round =>
    obtain ⟨k, q, hk, rfl, rfl⟩ := hrel
    by_cases hlt : k < l.length
    · have d1 := unhide C1 k hlt
      have d2 := unhide C2 k hlt
      generalize l[k] = x at d1 d2
      go_wp2_with fail
      go_quiet (fail)
      go_wp2
      go_roundw
      case rel => first | exact ⟨k + 1, _, by omega, by go_num, by rfl⟩ | ((repeat apply Exists.intro); exact ⟨⟨k + 1, _, by omega, by go_num, by rfl⟩, rfl⟩)
      case measure => simp [intOf]; omega
    · go_wp2
      go_ret
      exact ⟨rfl, belowDrewN _ _ _⟩

/-- One object of sz words, at the heap's beginning, and a root that names it. -/
structure One (sz : Nat) (s : St) : Prop where
  n : s.n = 6
  roots : s.roots = [1048576]
  w0 : s.word 0 = 7
  at' : ∀ x, s.at x = if 1048576 ≤ x ∧ x < 1048576 + 8 * (sz : Int) then some 0 else none
  size : s.size 0 = sz

/-- What stands while calls are refused. -/
structure Wr (B0 : Nat) (w0 w : World) (hb : Nat) (L : HL) (s : St) (g1 : Nat) (l : List Value) (cb : Nat) (o : Obj) (v : Value) (n : Nat) : Prop where
  hd : Hd w0 w hb L s
  row : w.heap[g1]? = some (.cells l.toArray 3 (0, 0))
  cn : w.heap[cb]? = some o
  le : B0 ≤ w.heap.size
  lb : ∀ k, k ∈ L.blocks → k < B0
  lg : g1 < B0
  lc : cb < B0
  l0 : w0.heap.size ≤ B0
  er : w.ownsRow 0 36 1 v n (List.replicate n (.int .i64 5))
  eb : ∀ q, v.ownBlock = some q → B0 ≤ q
theorem Wr.keep {B0 : Nat} {w0 w w' : World} {hb : Nat} {L : HL} {s : St} {g1 : Nat} {l : List Value} {cb : Nat} {o : Obj} {v v' : Value} {n n' : Nat} (h : Wr B0 w0 w hb L s g1 l cb o v n) (hB : Below B0 w w') (er : w'.ownsRow 0 36 1 v' n' (List.replicate n' (.int .i64 5))) (eb : ∀ q, v'.ownBlock = some q → B0 ≤ q) : Wr B0 w0 w' hb L s g1 l cb o v' n' :=
  ⟨⟨⟨h.hd.e, h.hd.r.agree fun k hk => hB.block k (h.lb k hk), h.hd.wf, h.hd.own, h.hd.b.trans (hB.mono h.l0), h.hd.t⟩, h.hd.tz⟩, (hB.block _ h.lg).trans h.row, (hB.block _ h.lc).trans h.cn, Nat.le_trans h.le hB.size, h.lb, h.lg, h.lc, h.l0, er, eb⟩
theorem Wr.quiet {B0 : Nat} {w0 w w' : World} {hb : Nat} {L : HL} {s : St} {g1 : Nat} {l : List Value} {cb : Nat} {o : Obj} {v : Value} {n : Nat} (h : Wr B0 w0 w hb L s g1 l cb o v n) (hB : Below w.heap.size w w') : Wr B0 w0 w' hb L s g1 l cb o v n :=
  h.keep (hB.mono h.le) (ownsRow_agree h.er fun k hk => hB.block k (h.er.lt k hk).2) h.eb
theorem Wr.app {B0 : Nat} {w0 w w' : World} {hb : Nat} {L : HL} {s : St} {g1 : Nat} {l : List Value} {cb : Nat} {o : Obj} {v v' : Value} {n : Nat} (x : Obj) (h : Wr B0 w0 w hb L s g1 l cb o v n) (ho : w'.ownsRow 0 36 1 v' (n + 1) (List.replicate n (.int .i64 5) ++ [.int .i64 5])) (hg : (w.alloc x).grownBy w' v.ownBlock) (hloc : v'.ownBlock = v.ownBlock ∨ ∃ g, v'.ownBlock = some g ∧ (w.alloc x).heap.size ≤ g) : Wr B0 w0 w' hb L s g1 l cb o v' (n + 1) := by
  have hle := h.le
  refine h.keep ⟨hg.os, hg.tape, hg.output, by have := hg.size; simp at this; omega, fun q hq => ?_⟩ ?_ ?_
  · rw [hg.block q (by simp; omega) (fun e => by have := h.eb q e.symm; omega), heap_alloc_old w _ (by omega)]
  · rw [← List.replicate_succ'] at ho
    exact ho
  · intro q hq
    rcases hloc with e | ⟨g, e1, e2⟩
    · rw [e] at hq; exact h.eb q hq
    · rw [e1] at hq; cases hq; simp at e2; omega

set_option maxRecDepth 10000 in
set_option maxHeartbeats 6400000 in
theorem wrong_any (n : Nat) (x : Int) (w : World) (hT : Tab w) (n1 : 1 ≤ n) (n2 : n ≤ 160) (k1 : -9223372036854775808 ≤ x) (k2 : x ≤ 9223372036854775807) :
    Calls Tryd.prog 24 #[.int .i64 n, .int .i64 x] w fun e w' => e = .returned (.bool true) ∧ Below w.heap.size w w' := by
  obtain ⟨i0, hi, hz0, hz1, hz2⟩ := info_parts Tryd.infoErrno
  have T := hide hT
  have Q := hide (quiet_any 6 2 w (by omega) (by omega) (by omega) (by omega))
  obtain ⟨sz, z1, z2, z3, z4, z5⟩ := size_bd n n1
  have z6 : sz ≤ 160 := by
    by_cases c : 16 < sz
    · have := (z4 c).1; omega
    · omega
  have Z1 := hide z1
  clear hT z1 z3 z4 z5
  go_enter Tryd.func24, Tryd.ntmps24
  go_wp2_with fail
  refine (unhide Q).mono ?_
  rintro e w1 ⟨hb, rfl, hnew⟩
  obtain ⟨L, h1⟩ := Hd.new (unhide T) (Below.refl _ _) hnew
  have C1 := hide (hd_alloc h1 n sz 0 false n1 (by show n ≤ 6 * 32; omega) (unhide Z1) (place_init 6 2 sz false (by omega) (by omega)))
  clear hnew h1
  go_wp2_with fail
  refine (unhide C1).mono ?_
  rintro e w2 ⟨rfl, h2, l1, _⟩
  generalize hs : (St.init 6 2).laid 0 sz false = s at *
  have hat := l1.at (WF.init 6 2) (by omega)
  have hr : s.roots = [] := l1.roots
  have C3 := hPush_ok L s 1048576 w2 h2.r (by rw [hr]; simp)
  rw [hr, h2.e] at C3
  have CC3 := hide C3
  have H2 := hide h2
  have L1 := hide l1
  have HAT := hide hat
  clear h2 l1 hat C3 hs hr
  go_wp2_with fail
  refine (unhide CC3).mono ?_
  rintro e w3 ⟨rfl, k3⟩
  obtain ⟨L3, h3, _, _⟩ := (unhide H2).hst k3 ((unhide L1).wf.roots _)
  have hat3 : ∀ y, St.at { s with roots := [] ++ [1048576] } y = if 1048576 ≤ y ∧ y < 1048576 + 8 * (sz : Int) then some 0 else none := fun y => by
    have := unhide HAT y
    rw [init_at] at this
    have e : St.at { s with roots := [] ++ [1048576] } y = s.at y := rfl
    rw [e, this]
    simp
  have hn3 : s.n = 6 := (unhide L1).n
  have C4 := hStore_ok L3 _ 1048576 7 0 0 w3 h3.r h3.wf.ok (by omega) (by rw [hat3, if_pos (by omega)]) (by omega) (by omega) (by show 0 < s.n * 32; omega)
  rw [h3.e] at C4
  have CC4 := hide C4
  have H3 := hide h3
  have ON : Hid (One sz (St.setWd { s with roots := [] ++ [1048576] } 0 7)) := hide ⟨hn3, rfl, (upd_same s.word 0 7 : upd s.word 0 7 0 = 7), fun y => by have := hat3 y; exact this, ((unhide L1).sizeNew (by omega)).1⟩
  have CO4 : Hid ((St.setWd { s with roots := [] ++ [1048576] } 0 7).colls = 0) := hide (unhide L1).colls
  clear k3 h3 C4 hat3 hn3
  go_wp2_with fail
  refine (unhide CC4).mono ?_
  rintro e w4 ⟨rfl, r4, t4⟩
  have h4 := (unhide H3).touch r4 ((unhide H3).wf.setWd _ _) t4
  generalize hs4 : St.setWd { s with roots := [] ++ [1048576] } 0 7 = t at *
  have H4 := hide h4
  clear r4 t4 h4 hs4 H2 L1 HAT H3 C1 CC3 CC4
  -- what each call answers
  obtain ⟨li, hli⟩ : ∃ li : List Int, (trues t.beg (t.n * 32)).map adr = li := ⟨_, rfl⟩
  have hll : li.length ≤ 2000 := by
    rw [← hli, List.length_map, trues_length]
    have := cntF_le t.beg (t.n * 32)
    rw [(unhide ON).n] at this ⊢
    omega
  have CW : Hid (∀ w1, Hd w w1 hb L3 t → Calls Tryd.prog 40 #[.pointer (some ⟨hb, 0, none⟩)] w1 fun e w' => ∃ g, e = .returned (.slice (some ⟨g, 0, none⟩) li.length li.length) ∧ w1.heap.size ≤ g ∧ w'.heap[g]? = some (.cells (ints li).toArray 3 (0, 0)) ∧ Below w1.heap.size w1 w') := by
    intro w1 h
    have := hWalk_any L3 t w1 h.r
    rw [h.e] at this
    refine this.mono ?_
    rintro e w' ⟨g, he, h2, h3, h4⟩
    refine ⟨g, ?_, h2, ?_, h4⟩
    · rw [← hli, List.length_map]; exact he
    · rw [← hli, ints, List.map_map]; exact h3
  obtain ⟨c1, hc1⟩ : ∃ c : Int, ((cntF t.beg (t.n * 32) : Nat) : Int) = c := ⟨_, rfl⟩
  obtain ⟨c2, hc2⟩ : ∃ c : Int, sumW t (t.n * 32) = c := ⟨_, rfl⟩
  obtain ⟨c3, hc3⟩ : ∃ c : Int, (t.colls : Int) = c := ⟨_, rfl⟩
  obtain ⟨c4, hc4⟩ : ∃ c : Int, (t.again : Int) = c := ⟨_, rfl⟩
  obtain ⟨c5, hc5⟩ : ∃ c : Int, ((cntF (fun p => t.size p != 0) t.n : Nat) : Int) = c := ⟨_, rfl⟩
  obtain ⟨c6, hc6⟩ : ∃ c : Int, ((cntF t.uns t.n : Nat) : Int) = c := ⟨_, rfl⟩
  have CK : Hid (∀ w1, Hd w w1 hb L3 t → Calls Tryd.prog 42 #[.pointer (some ⟨hb, 0, none⟩)] w1 fun e w' => e = .returned (.agg #[.int .i64 c1, .int .i64 c2, .int .i64 c3, .int .i64 c4, .int .i64 c5, .int .i64 c6]) ∧ Below w1.heap.size w1 w') := by
    intro w1 h
    have := counts_any L3 t w1 h.r (fun p hp => ⟨h.wf.z0 p hp, h.wf.z1 p hp⟩)
    rw [h.e, hc1, hc2, hc3, hc4, hc5, hc6] at this
    exact this
  clear hc1 hc2 hc3 hc4 hc5 hc6 hli
  have hno : ∀ y : Int, (y < 1048576 ∨ 1048576 + 8 * (sz : Int) ≤ y) → t.at y = none := fun y hy => by rw [(unhide ON).at', if_neg (by omega)]
  have hin : ∀ y : Int, 1048576 ≤ y → y < 1048576 + 8 * (sz : Int) → t.at y = some 0 := fun y h1 h2 => by rw [(unhide ON).at', if_pos ⟨h1, h2⟩]
  have CS : Hid (∀ w1, Hd w w1 hb L3 t → Calls Tryd.prog 34 #[.pointer (some ⟨hb, 0, none⟩), .int .i64 1048576] w1 fun e w' => e = .returned (.tuple #[.int .i64 sz, .int .i64 0]) ∧ Below w1.heap.size w1 w') := fun w1 h => by
    have := hSize_some L3 t 1048576 w1 h.r h.wf.ok 0 (hin _ (by omega) (by omega))
    rw [h.e, show (0 / 32 : Nat) = 0 from rfl, (unhide ON).size] at this
    exact this
  have CF1 : Hid (∀ w1, Hd w w1 hb L3 t → Calls Tryd.prog 43 #[.pointer (some ⟨hb, 0, none⟩), .int .i64 (1048576 + 8 * (sz : Int))] w1 fun e w' => e = .returned (.int .i64 5) ∧ Below w1.heap.size w1 w') := fun w1 h => by
    have := hFree_none L3 t (1048576 + 8 * (sz : Int)) w1 h.r h.wf.ok (hno _ (by omega))
    rw [h.e] at this
    exact this
  have CL1 : Hid (∀ w1, Hd w w1 hb L3 t → Calls Tryd.prog 32 #[.pointer (some ⟨hb, 0, none⟩), .int .i64 (1048576 + 8 * (sz : Int))] w1 fun e w' => e = .returned (.tuple #[.int .i64 0, .int .i64 5]) ∧ Below w1.heap.size w1 w') := fun w1 h => by
    have := hLoad_err0 L3 t (1048576 + 8 * (sz : Int)) 5 w1 (if_neg (by omega)) h.r h.wf.ok (.inr (hno _ (by omega)))
    rw [h.e] at this
    exact this
  have CT1 : Hid (∀ w1, Hd w w1 hb L3 t → Calls Tryd.prog 29 #[.pointer (some ⟨hb, 0, none⟩), .int .i64 1048568, .int .i64 x] w1 fun e w' => e = .returned (.int .i64 5) ∧ Below w1.heap.size w1 w') := fun w1 h => by
    have := hStore_err0 L3 t 1048568 x 5 w1 (if_neg (by omega)) h.r h.wf.ok (.inr (hno _ (by omega)))
    rw [h.e] at this
    exact this
  have CB1 : Hid (∀ w1, Hd w w1 hb L3 t → Calls Tryd.prog 35 #[.pointer (some ⟨hb, 0, none⟩), .int .i64 1050112] w1 fun e w' => e = .returned (.tuple #[.int .i64 0, .int .i64 5]) ∧ Below w1.heap.size w1 w') := fun w1 h => by
    have := hBase_none L3 t 1050112 w1 h.r h.wf.ok (hno _ (by omega))
    rw [h.e] at this
    exact this
  have CS1 : Hid (∀ w1, Hd w w1 hb L3 t → Calls Tryd.prog 34 #[.pointer (some ⟨hb, 0, none⟩), .int .i64 0] w1 fun e w' => e = .returned (.tuple #[.int .i64 0, .int .i64 5]) ∧ Below w1.heap.size w1 w') := fun w1 h => by
    have := hSize_none L3 t 0 w1 h.r h.wf.ok (hno _ (by omega))
    rw [h.e] at this
    exact this
  have CF2 : Hid (∀ (q : Nat) w1, q < 8 * sz - 1 → Hd w w1 hb L3 t → Calls Tryd.prog 43 #[.pointer (some ⟨hb, 0, none⟩), .int .i64 (1048576 + (1 + (q : Int)))] w1 fun e w' => e = .returned (.int .i64 6) ∧ Below w1.heap.size w1 w') := fun q w1 hq h => by
    have := hFree_base L3 t (1048576 + (1 + (q : Int))) 0 w1 h.r h.wf.ok (hin _ (by omega) (by omega)) (by omega)
    rw [h.e] at this
    exact this
  have CL2 : Hid (∀ (q : Nat) w1, q < 7 → Hd w w1 hb L3 t → Calls Tryd.prog 32 #[.pointer (some ⟨hb, 0, none⟩), .int .i64 (1048576 + (1 + (q : Int)))] w1 fun e w' => e = .returned (.tuple #[.int .i64 0, .int .i64 4]) ∧ Below w1.heap.size w1 w') := fun q w1 hq h => by
    have := hLoad_err0 L3 t (1048576 + (1 + (q : Int))) 4 w1 (if_pos (by omega)) h.r h.wf.ok (.inl (by omega))
    rw [h.e] at this
    exact this
  have CT2 : Hid (∀ (q : Nat) w1, q < 7 → Hd w w1 hb L3 t → Calls Tryd.prog 29 #[.pointer (some ⟨hb, 0, none⟩), .int .i64 (1048576 + (1 + (q : Int))), .int .i64 5] w1 fun e w' => e = .returned (.int .i64 4) ∧ Below w1.heap.size w1 w') := fun q w1 hq h => by
    have := hStore_err0 L3 t (1048576 + (1 + (q : Int))) 5 4 w1 (if_pos (by omega)) h.r h.wf.ok (.inl (by omega))
    rw [h.e] at this
    exact this
  have CA : Hid (∀ (m : Int) (b : Bool) w1, (m < 1 ∨ 192 < m) → Hd w w1 hb L3 t → Calls Tryd.prog 28 #[.pointer (some ⟨hb, 0, none⟩), .int .i64 m, .bool b] w1 fun e w' => e = .returned (.tuple #[.int .i64 0, .int .i64 2]) ∧ w' = w1) := fun m b w1 hm h => by
    have := hAlloc_size L3 t m b w1 h.r (by rw [(unhide ON).n]; omega)
    rw [h.e] at this
    exact this
  have CE : Hid (∀ (i : Int) w1, (i < 0 ∨ 1 ≤ i) → Hd w w1 hb L3 t → Calls Tryd.prog 30 #[.pointer (some ⟨hb, 0, none⟩), .int .i64 i, .int .i64 x] w1 fun e w' => e = .returned (.int .i64 9) ∧ w' = w1) := fun i w1 hm h => by
    have := hSet_none L3 t i x w1 h.r (by rw [(unhide ON).roots]; simpa using hm)
    rw [h.e] at this
    exact this
  have CL3 : Hid (∀ w1, Hd w w1 hb L3 t → Calls Tryd.prog 32 #[.pointer (some ⟨hb, 0, none⟩), .int .i64 1048576] w1 fun e w' => e = .returned (.tuple #[.int .i64 7, .int .i64 0]) ∧ Below w1.heap.size w1 w') := fun w1 h => by
    have := hLoad_ok L3 t 1048576 0 0 w1 h.r h.wf.ok (by omega) (hin _ (by omega) (by omega)) (by omega) (by omega) (by rw [(unhide ON).n]; omega)
    rw [h.e, (unhide ON).w0] at this
    exact this
  clear hno hin
  go_wp2_with fail
  refine (unhide CW _ (unhide H4)).mono ?_
  rintro e w5 ⟨g1, rfl, hg1, hr1, b5⟩
  have H5 := hide ((unhide H4).below b5)
  have HR5 := hide hr1
  clear hg1 hr1 b5
  go_wp2_with fail
  refine (unhide CK _ (unhide H5)).mono ?_
  rintro e w6 ⟨rfl, b6⟩
  obtain ⟨W7, e7, HW⟩ : ∃ W7, (w6.alloc (.cells #[.int .i64 c1, .int .i64 c2, .int .i64 c3, .int .i64 c4, .int .i64 c5, .int .i64 c6] 42)).alloc (.cells #[] 36) = W7 ∧ Hid (Wr (w6.heap.size + 1) w W7 hb L3 t g1 (ints li) w6.heap.size (ctObj c1 c2 c3 c4 c5 c6) (.slice (some ⟨w6.heap.size + 1, 0, none⟩) 0 0) 0) := by
    refine ⟨_, rfl, hide ?_⟩
    have h6 := (unhide H5).below b6
    have b7 : Below w6.heap.size w6 ((w6.alloc (.cells #[.int .i64 c1, .int .i64 c2, .int .i64 c3, .int .i64 c4, .int .i64 c5, .int .i64 c6] 42)).alloc (.cells #[] 36)) := ((Below.refl _ _).alloc (Nat.le_refl _) _).alloc (by simp) _
    have r6 := (b6.block _ (heap_lt (unhide HR5))).trans (unhide HR5)
    refine ⟨h6.below b7, (b7.block _ (heap_lt r6)).trans r6, ?_, by simp, fun k hk => Nat.lt_succ_of_lt (h6.r.lt k hk), Nat.lt_succ_of_lt (heap_lt r6), Nat.lt_succ_self _, Nat.le_trans h6.b.size (Nat.le_succ _), ⟨rfl, .inr ⟨w6.heap.size + 1, 0, #[], rfl, Nat.zero_le _, ?_, Nat.le_refl _, Nat.zero_le _, rfl, rfl⟩⟩, fun q hq => ?_⟩
    · rw [heap_alloc_old _ _ (by simp)]; exact heap_alloc_new w6 _
    · have := heap_alloc_new (w6.alloc (.cells #[.int .i64 c1, .int .i64 c2, .int .i64 c3, .int .i64 c4, .int .i64 c5, .int .i64 c6] 42)) (.cells #[] 36)
      simp at this
      simpa using this
    · cases hq; exact Nat.le_refl _
  have HN6 : Hid (w6.heap.size ∉ L3.blocks) := hide (fun hm => by have := ((unhide H5).below b6).r.lt _ hm; omega)
  have E7 := hide e7
  clear e7 b6 H5 HR5 H4
  go_wp2_with fail
  rw [unhide E7]
  clear E7
  refine (unhide CS _ (unhide HW).hd).mono ?_
  rintro e w8 ⟨rfl, b8⟩
  replace HW := hide ((unhide HW).quiet b8)
  clear b8 CS
  go_wp2_with fail
  refine (unhide CF1 _ (unhide HW).hd).mono ?_
  rintro e v0 ⟨rfl, b0⟩
  replace HW := hide ((unhide HW).quiet b0)
  clear b0 CF1
  go_wp2_with (at_builtin; refine stop ?_)
  refine hide (wpList_append_at _ rfl _ _ 54 rfl 36 i0 (.int .i64 0) 1 8 Tryd.underlying54 hi hz0 hz1 hz2 rfl (by decide) (.slice (some ⟨w6.heap.size + 1, 0, none⟩) 0 0) 0 (List.replicate 0 (.int .i64 5)) rfl ((unhide HW).er.alloc _) ⟨v0.heap.size, 0, none⟩ 1 1 [.int .i64 5] rfl rfl ?c1 ?c2 (by decide) (by unfold maxLen; omega) (by omega) ?_)
  case c1 =>
    intro j u hj
    match j, hj with
    | 0, hj => simp at hj; subst hj; exact cell_of_row (v0.alloc (.cells #[.int .i64 5] 36)) v0.heap.size 0 _ _ _ (heap_alloc_new v0 _)
  case c2 => intro u hu; simp at hu; subst hu; rfl
  intro a0 u0 ho hg hloc
  have HX := (unhide HW).app _ ho hg hloc
  obtain ⟨ao0, cap0, hv, _, _⟩ := ownsRow_shape ho
  rw [hv] at HX ⊢
  replace HW := hide HX
  clear HX ho hg hloc hv
  go_wp2_with fail
  refine (unhide CL1 _ (unhide HW).hd).mono ?_
  rintro e v1 ⟨rfl, b1⟩
  replace HW := hide ((unhide HW).quiet b1)
  clear b1 CL1
  go_wp2_with (at_builtin; refine stop ?_)
  refine hide (wpList_append_at _ rfl _ _ 54 rfl 36 i0 (.int .i64 0) 1 8 Tryd.underlying54 hi hz0 hz1 hz2 rfl (by decide) (.slice ao0 1 cap0) 1 (List.replicate 1 (.int .i64 5)) rfl ((unhide HW).er.alloc _) ⟨v1.heap.size, 0, none⟩ 1 1 [.int .i64 5] rfl rfl ?c1 ?c2 (by decide) (by unfold maxLen; omega) (by omega) ?_)
  case c1 =>
    intro j u hj
    match j, hj with
    | 0, hj => simp at hj; subst hj; exact cell_of_row (v1.alloc (.cells #[.int .i64 5] 36)) v1.heap.size 0 _ _ _ (heap_alloc_new v1 _)
  case c2 => intro u hu; simp at hu; subst hu; rfl
  intro a1 u1 ho hg hloc
  have HX := (unhide HW).app _ ho hg hloc
  obtain ⟨ao1, cap1, hv, _, _⟩ := ownsRow_shape ho
  rw [hv] at HX ⊢
  replace HW := hide HX
  clear HX ho hg hloc hv
  go_wp2_with fail
  refine (unhide CT1 _ (unhide HW).hd).mono ?_
  rintro e v2 ⟨rfl, b2⟩
  replace HW := hide ((unhide HW).quiet b2)
  clear b2 CT1
  go_wp2_with (at_builtin; refine stop ?_)
  refine hide (wpList_append_at _ rfl _ _ 54 rfl 36 i0 (.int .i64 0) 1 8 Tryd.underlying54 hi hz0 hz1 hz2 rfl (by decide) (.slice ao1 2 cap1) 2 (List.replicate 2 (.int .i64 5)) rfl ((unhide HW).er.alloc _) ⟨v2.heap.size, 0, none⟩ 1 1 [.int .i64 5] rfl rfl ?c1 ?c2 (by decide) (by unfold maxLen; omega) (by omega) ?_)
  case c1 =>
    intro j u hj
    match j, hj with
    | 0, hj => simp at hj; subst hj; exact cell_of_row (v2.alloc (.cells #[.int .i64 5] 36)) v2.heap.size 0 _ _ _ (heap_alloc_new v2 _)
  case c2 => intro u hu; simp at hu; subst hu; rfl
  intro a2 u2 ho hg hloc
  have HX := (unhide HW).app _ ho hg hloc
  obtain ⟨ao2, cap2, hv, _, _⟩ := ownsRow_shape ho
  rw [hv] at HX ⊢
  replace HW := hide HX
  clear HX ho hg hloc hv
  go_wp2_with fail
  refine (unhide CB1 _ (unhide HW).hd).mono ?_
  rintro e v3 ⟨rfl, b3⟩
  replace HW := hide ((unhide HW).quiet b3)
  clear b3 CB1
  go_wp2_with (at_builtin; refine stop ?_)
  refine hide (wpList_append_at _ rfl _ _ 54 rfl 36 i0 (.int .i64 0) 1 8 Tryd.underlying54 hi hz0 hz1 hz2 rfl (by decide) (.slice ao2 3 cap2) 3 (List.replicate 3 (.int .i64 5)) rfl ((unhide HW).er.alloc _) ⟨v3.heap.size, 0, none⟩ 1 1 [.int .i64 5] rfl rfl ?c1 ?c2 (by decide) (by unfold maxLen; omega) (by omega) ?_)
  case c1 =>
    intro j u hj
    match j, hj with
    | 0, hj => simp at hj; subst hj; exact cell_of_row (v3.alloc (.cells #[.int .i64 5] 36)) v3.heap.size 0 _ _ _ (heap_alloc_new v3 _)
  case c2 => intro u hu; simp at hu; subst hu; rfl
  intro a3 u3 ho hg hloc
  have HX := (unhide HW).app _ ho hg hloc
  obtain ⟨ao3, cap3, hv, _, _⟩ := ownsRow_shape ho
  rw [hv] at HX ⊢
  replace HW := hide HX
  clear HX ho hg hloc hv
  go_wp2_with fail
  refine (unhide CS1 _ (unhide HW).hd).mono ?_
  rintro e v4 ⟨rfl, b4⟩
  replace HW := hide ((unhide HW).quiet b4)
  clear b4 CS1
  go_wp2_with (at_builtin; refine stop ?_)
  refine hide (wpList_append_at _ rfl _ _ 54 rfl 36 i0 (.int .i64 0) 1 8 Tryd.underlying54 hi hz0 hz1 hz2 rfl (by decide) (.slice ao3 4 cap3) 4 (List.replicate 4 (.int .i64 5)) rfl ((unhide HW).er.alloc _) ⟨v4.heap.size, 0, none⟩ 1 1 [.int .i64 5] rfl rfl ?c1 ?c2 (by decide) (by unfold maxLen; omega) (by omega) ?_)
  case c1 =>
    intro j u hj
    match j, hj with
    | 0, hj => simp at hj; subst hj; exact cell_of_row (v4.alloc (.cells #[.int .i64 5] 36)) v4.heap.size 0 _ _ _ (heap_alloc_new v4 _)
  case c2 => intro u hu; simp at hu; subst hu; rfl
  intro a4 u4 ho hg hloc
  have HX := (unhide HW).app _ ho hg hloc
  obtain ⟨ao4, cap4, hv, _, _⟩ := ownsRow_shape ho
  rw [hv] at HX ⊢
  replace HW := hide HX
  clear HX ho hg hloc hv
  obtain ⟨g5, cp5, hv5, hq1, hq2, hq3⟩ := ownsRow_some (unhide HW).er (by omega)
  simp only [Value.slice.injEq, true_and] at hv5
  obtain ⟨rfl, rfl⟩ := hv5
  have ce : ∀ k, k < 5 → u4.cell? ⟨g5, k, none⟩ = some (.int .i64 5) := fun k hk => by
    have := (unhide HW).er.cellAt (g := g5) k (by omega)
    rw [this, List.getElem?_replicate, if_pos hk]
  have CEL := hide ce
  clear ce
  go_wp2
  go_loopw [14] (fun i wr => ∃ k : Nat, k ≤ 5 ∧ i = .int .i64 k ∧ wr = u4) (fun i _ => 10 - (intOf i).toNat)
  case atStart => exact ⟨0, by omega, rfl, rfl⟩
  case round =>
    obtain ⟨k, hk, rfl, rfl⟩ := hrel
    by_cases hlt : k < 5
    · have d1 := unhide CEL k hlt
      go_wp2
      go_roundw
      case rel => first | exact ⟨k + 1, by omega, by go_num, rfl⟩ | exact ⟨k + 1, by omega, by go_num, trivial⟩
      case measure => simp [intOf]; omega
    · clear CEL
      have CP1 := saysPick_any x (8 * sz - 1) wr k1 k2 (by omega) (by omega)
      rw [show ((8 * sz - 1 : Nat) : Int) = 8 * (sz : Int) - 1 by omega] at CP1
      have CCP1 := hide CP1
      have CCP2 := hide (saysPick_any x 7 wr k1 k2 (by omega) (by omega))
      have hp1 := pickN_lt x (8 * sz - 1) (by omega)
      have hp2 := pickN_lt x 7 (by omega)
      generalize pickN x (8 * sz - 1) = q1 at *
      generalize pickN x 7 = q2 at *
      clear CP1
      go_wp2_with fail
      refine (unhide CCP1).mono ?_
      rintro e y1 ⟨rfl, hy⟩
      rw [hy]
      clear hy
      go_wp2_with fail
      refine (unhide CCP2).mono ?_
      rintro e y2 ⟨rfl, hy⟩
      rw [hy]
      clear hy
      go_wp2_with fail
      refine (unhide CF2 q1 _ hp1 (unhide HW).hd).mono ?_
      rintro e x1 ⟨rfl, b1⟩
      replace HW := hide ((unhide HW).quiet b1)
      clear b1
      go_wp2_with fail
      refine (unhide CL2 q2 _ hp2 (unhide HW).hd).mono ?_
      rintro e x2 ⟨rfl, b1⟩
      replace HW := hide ((unhide HW).quiet b1)
      clear b1
      go_wp2_with fail
      refine (unhide CT2 q2 _ hp2 (unhide HW).hd).mono ?_
      rintro e x3 ⟨rfl, b1⟩
      replace HW := hide ((unhide HW).quiet b1)
      clear b1
      go_wp2_with fail
      refine (unhide CA _ _ _ (.inl (by omega)) (unhide HW).hd).mono ?_
      rintro e x4 ⟨rfl, hx⟩
      rw [hx]
      clear hx
      go_wp2_with fail
      refine (unhide CA _ _ _ (.inr (by omega)) (unhide HW).hd).mono ?_
      rintro e x4 ⟨rfl, hx⟩
      rw [hx]
      clear hx
      go_wp2_with fail
      refine (unhide CE _ _ (.inr (by omega)) (unhide HW).hd).mono ?_
      rintro e x4 ⟨rfl, hx⟩
      rw [hx]
      clear hx
      go_wp2_with fail
      refine (unhide CE _ _ (.inl (by omega)) (unhide HW).hd).mono ?_
      rintro e x4 ⟨rfl, hx⟩
      rw [hx]
      clear hx
      go_wp2_with fail
      refine (unhide CW _ (unhide HW).hd).mono ?_
      rintro e x5 ⟨g2, rfl, hg2, hr2, b1⟩
      replace HW := hide ((unhide HW).quiet b1)
      have HR2 := hide hr2
      clear b1 hr2 hg2
      go_wp2_with fail
      refine (unhide CK _ (unhide HW).hd).mono ?_
      rintro e x6 ⟨rfl, b1⟩
      replace HW := hide ((unhide HW).quiet b1)
      have HR3 := hide ((b1.block _ (heap_lt (unhide HR2))).trans (unhide HR2))
      have HX6 := HW
      clear b1 HR2
      obtain ⟨W8, e8, g8, b8⟩ : ∃ W8, x6.alloc (.cells #[.int .i64 c1, .int .i64 c2, .int .i64 c3, .int .i64 c4, .int .i64 c5, .int .i64 c6] 42) = W8 ∧ W8.heap[x6.heap.size]? = some (ctObj c1 c2 c3 c4 c5 c6) ∧ Below x6.heap.size x6 W8 := ⟨_, rfl, heap_alloc_new x6 _, (Below.refl _ _).alloc (Nat.le_refl _) _⟩
      replace HW := hide ((unhide HW).quiet b8)
      have HR4 := hide ((b8.block _ (heap_lt (unhide HR3))).trans (unhide HR3))
      have G8 := hide g8
      have E8 := hide e8
      have HN8 : Hid (x6.heap.size ∉ L3.blocks) := hide (fun hm => by have a := (unhide HW).lb _ hm; have b := (unhide HX6).le; omega)
      have HN9 : Hid (w6.heap.size ∉ L3.blocks) := HN6
      clear b8 g8 e8 HR3 HX6
      go_wp2_with fail
      rw [unhide E8]
      clear E8
      refine (unhide CL3 _ (unhide HW).hd).mono ?_
      rintro e x7 ⟨rfl, b1⟩
      replace HW := hide ((unhide HW).quiet b1)
      have HR5 := hide ((b1.block _ (heap_lt (unhide HR4))).trans (unhide HR4))
      have G9 := hide ((b1.block _ (heap_lt (unhide G8))).trans (unhide G8))
      have CSM := hide (same_any li g1 g2 x7 (unhide HW).row (unhide HR5) hll)
      clear b1 HR4 G8
      go_wp2_with fail
      refine (unhide CSM).mono ?_
      rintro e x8 ⟨rfl, b1⟩
      replace HW := hide ((unhide HW).quiet b1)
      have G10 := hide ((b1.block _ (heap_lt (unhide G9))).trans (unhide G9))
      have CPO := hPop_ok L3 t 0 x8 (unhide HW).hd.r (by rw [(unhide ON).roots]; rfl)
      rw [(unhide HW).hd.e] at CPO
      have CCPO := hide CPO
      clear b1 G9 CPO CSM
      go_wp2_with fail
      refine (unhide CCPO).mono ?_
      rintro e x9 ⟨rfl, k9⟩
      obtain ⟨L9, h9, i9, t9⟩ := (unhide HW).hd.hst k9 ((unhide HW).hd.wf.roots _)
      have G11 := hide ((t9.block _ (heap_lt (unhide G10)) (unhide HN8)).trans (unhide G10))
      have C11 := hide ((t9.block _ (heap_lt (unhide HW).cn) (unhide HN9)).trans (unhide HW).cn)
      have CP2 := hPop_none L9 _ x9 h9.r (by show t.roots.take 0 = []; rfl)
      rw [h9.e] at CP2
      have CCP3 := hide CP2
      have HB := hide h9.b
      clear k9 h9 i9 t9 CP2
      go_wp2_with fail
      refine (unhide CCP3).mono ?_
      rintro e x10 ⟨rfl, hx⟩
      rw [hx]
      clear hx
      obtain ⟨a0, a1, a2, a3, a4, a5, _⟩ := ctObj_cells (unhide G11)
      obtain ⟨d0, d1, d2, d3, d4, d5, _⟩ := ctObj_cells (unhide C11)
      go_wp2
      go_ret
      exact ⟨rfl, unhide HB⟩

set_option maxHeartbeats 400000 in
theorem Wrong_any (a b c : Int) (w : World) (hT : Tab w) (a1 : -9223372036854775808 ≤ a) (a2 : a ≤ 9223372036854775807) (b1 : -9223372036854775808 ≤ b) (b2 : b ≤ 9223372036854775807) :
    Calls Tryd.prog 14 #[.int .i64 a, .int .i64 b, .int .i64 c] w fun e w' => e = .returned (.bool true) ∧ Below w.heap.size w w' := by
  have CP := hide (saysPick_any a 160 w a1 a2 (by omega) (by omega))
  have hp := pickN_lt a 160 (by omega)
  generalize pickN a 160 = p at *
  have C := wrong_any (1 + p) b w hT (by omega) (by omega) b1 b2
  rw [show ((1 + p : Nat) : Int) = 1 + (p : Int) by omega] at C
  have CC := hide C
  clear hT C
  go_enter Tryd.func14, Tryd.ntmps14
  go_wp2_with (first | (go_at_call 16; refine (unhide CP).mono ?_; rintro e w1 ⟨rfl, rfl⟩) | (go_at_call 24; refine (unhide CC).mono ?_; rintro e w1 ⟨rfl, hb⟩))
  go_ret
  exact ⟨rfl, by assumption⟩
end Go.Proofs.YtgegkcjllliifaaDoor
