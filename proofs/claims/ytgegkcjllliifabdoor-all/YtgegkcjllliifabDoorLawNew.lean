/-
  The walk of the law's step: New.
-/
import Derived.Test.YtgegkcjllliifabDoorLawCell
namespace Go.Proofs.YtgegkcjllliifabDoor
open Go.RowKit

set_option maxHeartbeats 800000 in
theorem refNew_err (n r t : Int) (w : World) (h : n < 1 ∨ 48 < n ∨ r < 1 ∨ 16 < r ∨ t < 0 ∨ 4096 < t) :
    Calls Tryd.prog 49 #[.int .i64 n, .int .i64 r, .int .i64 t] w fun e w' => e = .returned (.tuple #[.pointer none, .int .i64 1]) ∧ Below w.heap.size w w' := by
  by_cases c1 : n < 1
  · clear h
    go_enter Tryd.func49, Tryd.ntmps49
    go_wp2
    go_ret2
    exact ⟨rfl, Below.refl _ _⟩
  · by_cases c2 : 48 < n
    · clear h
      go_enter Tryd.func49, Tryd.ntmps49
      go_wp2
      go_ret2
      exact ⟨rfl, Below.refl _ _⟩
    · by_cases c3 : r < 1
      · clear h
        go_enter Tryd.func49, Tryd.ntmps49
        go_wp2
        go_ret2
        exact ⟨rfl, Below.refl _ _⟩
      · by_cases c4 : 16 < r
        · clear h
          go_enter Tryd.func49, Tryd.ntmps49
          go_wp2
          go_ret2
          exact ⟨rfl, Below.refl _ _⟩
        · by_cases c5 : t < 0
          · clear h
            go_enter Tryd.func49, Tryd.ntmps49
            go_wp2
            go_ret2
            exact ⟨rfl, Below.refl _ _⟩
          · have c6 : 4096 < t := by omega
            clear h
            go_enter Tryd.func49, Tryd.ntmps49
            go_wp2
            go_ret2
            exact ⟨rfl, Below.refl _ _⟩

/-- All of the law's but the struct and the row of pairs. -/
structure Core1 (H : HeapI) (N0 : Nat) (w0 w : World) (O : Nat → Nat × Nat) (s : LSt) : Prop where
  below : Below N0 w0 w
  n0 : N0 ≤ w.heap.size
  old : ∀ k, k < N0 → O k = (9, 9)
  ng : H.ng ≤ N0
  glob : H.glob w
  rw : Row w O (0, 2) 3 1 s.vw s.words.length (ints s.words)
  rl : Row w O (0, 3) 41 1 s.vl s.ls.length (s.ls.map LS.v1)
  rk : Row w O (0, 4) 41 1 s.vk s.ls.length (s.ls.map LS.v2)
  ps : ∀ i (hi : i < s.hs.length), PairIs H w O i (s.hs[i])
  lss : ∀ j (hj : j < s.ls.length), ListIs w O j (s.ls[j])
theorem LawIs.core1 {H : HeapI} {N0 : Nat} {w0 w : World} {O : Nat → Nat × Nat} {s : LSt} (h : LawIs H N0 w0 w O s) : Core1 H N0 w0 w O s := ⟨h.below, h.n0, h.old, h.ng, h.glob, h.rw, h.rl, h.rk, h.ps, h.lss⟩
theorem Core1.fr {H : HeapI} {N0 : Nat} {w0 w w' : World} {O O' : Nat → Nat × Nat} {s : LSt} {lab : Nat × Nat} (h : Core1 H N0 w0 w O s) (f : Fr lab w O w' O') (hl : lab = (0, 0) ∨ lab = (0, 1) ∨ lab.1 = 8) : Core1 H N0 w0 w' O' s := by
  obtain ⟨x, y⟩ := lab
  simp only [Prod.mk.injEq] at hl
  have n0 := h.n0
  have hs := f.size
  have hk : ∀ k, k < N0 → w'.heap[k]? = w.heap[k]? := fun k hk => f.block k (by omega) (by rw [h.old k hk]; exact lab_ne (by omega))
  refine ⟨h.below.trans ⟨f.os, f.tape, f.output, f.size, hk⟩, by omega, fun k hk => by rw [f.own k (by omega)]; exact h.old k hk, h.ng, H.globFrame h.glob fun k hk' => hk k (by have := h.ng; omega), h.rw.fr f (lab_ne (by omega)), h.rl.fr f (lab_ne (by omega)), h.rk.fr f (lab_ne (by omega)), fun i hi => ?_, fun j hj => ⟨(h.lss j hj).1.fr f (lab_ne (by omega)), (h.lss j hj).2.fr f (lab_ne (by omega))⟩⟩
  exact ⟨(h.ps i hi).1.fr f (lab_ne (by omega)), (h.ps i hi).2.1.fr f (lab_ne (by omega)), (h.ps i hi).2.2.fr f (lab_ne (by omega))⟩

/-- A pair more. -/
def LSt.addP (s : LSt) (v : Value) (p : PairS) : LSt := { s with vh := v, hs := s.hs ++ [p] }
theorem Core1.addP {H : HeapI} {N0 : Nat} {w0 w : World} {O : Nat → Nat × Nat} {s : LSt} (h : Core1 H N0 w0 w O s) {v : Value} {p : PairS} (st : Blk w O (0, 0) s.wB (worldObj { s with vh := v })) (r1 : Row w O (0, 1) 72 1 v (s.hs.length + 1) ((s.hs.map fun p => Value.pointer (some ⟨p.pb, 0, none⟩)) ++ [Value.pointer (some ⟨p.pb, 0, none⟩)]))
    (hb : Blk w O (8, 7) p.pb (pairObj p)) (hi : Imp H w O (8, 5) p.B p.a p.mi p.c) (hr : Ref w O (8, 6) p.R p.mr) : ∃ O', LawIs H N0 w0 w O' (s.addP v p) := by
  obtain ⟨O', hO⟩ : ∃ O' : Nat → Nat × Nat, O' = fun k => if O k = (8, 5) then (2, s.hs.length) else if O k = (8, 6) then (3, s.hs.length) else if O k = (8, 7) then (1, s.hs.length) else O k := ⟨_, rfl⟩
  have keep : ∀ k, (O k).1 ≠ 8 → O' k = O k := fun k hk => by
    rw [hO]
    show (if _ then _ else _) = _
    rw [if_neg (fun e => hk (by rw [e])), if_neg (fun e => hk (by rw [e])), if_neg (fun e => hk (by rw [e]))]
  have kl : ∀ (x y : Nat) k, x ≠ 8 → O k = (x, y) → O' k = (x, y) := fun x y k hx hk => by rw [keep k (by rw [hk]; exact hx), hk]
  have row : ∀ {x y e : Nat} {v : Value} {n : Nat} {xs : List Value}, x ≠ 8 → Row w O (x, y) e 1 v n xs → Row w O' (x, y) e 1 v n xs := fun hx r => ⟨r.1, fun k hk => kl _ _ k hx (r.2 k hk)⟩
  have k5 : ∀ k, O k = (8, 5) → O' k = (2, s.hs.length) := fun k hk => by rw [hO]; exact if_pos hk
  have k6 : ∀ k, O k = (8, 6) → O' k = (3, s.hs.length) := fun k hk => by
    rw [hO]; show (if _ then _ else _) = _
    rw [if_neg (by rw [hk]; exact lab_ne (by omega)), if_pos hk]
  have k7 : ∀ k, O k = (8, 7) → O' k = (1, s.hs.length) := fun k hk => by
    rw [hO]; show (if _ then _ else _) = _
    rw [if_neg (by rw [hk]; exact lab_ne (by omega)), if_neg (by rw [hk]; exact lab_ne (by omega)), if_pos hk]
  refine ⟨O', h.below, h.n0, fun k hk => kl 9 9 k (by omega) (h.old k hk), h.ng, h.glob, ⟨st.1, kl 0 0 _ (by omega) st.2⟩, ?_, row (by omega) h.rw, row (by omega) h.rl, row (by omega) h.rk, fun i hi' => ?_, fun j hj => ⟨row (by omega) (h.lss j hj).1, row (by omega) (h.lss j hj).2⟩⟩
  · show Row w O' (0, 1) _ 1 v (s.hs ++ [p]).length ((s.hs ++ [p]).map _)
    rw [List.length_append, List.map_append]
    exact row (by omega) r1
  · have hj' : i < (s.hs ++ [p]).length := hi'
    show PairIs H w O' i ((s.hs ++ [p])[i]'hj')
    by_cases e : i < s.hs.length
    · rw [List.getElem_append_left e]
      obtain ⟨q1, q2, q3⟩ := h.ps i e
      exact ⟨⟨q1.1, kl _ _ _ (by omega) q1.2⟩, ⟨q2.1, fun k hk => kl _ _ k (by omega) (q2.2 k hk)⟩, ⟨q3.1, fun k hk => kl _ _ k (by omega) (q3.2 k hk)⟩⟩
    · have e2 : i = s.hs.length := by simp at hj'; omega
      subst e2
      rw [List.getElem_append_right (Nat.le_refl _)]
      simp only [Nat.sub_self, List.getElem_singleton]
      exact ⟨⟨hb.1, k7 _ hb.2⟩, ⟨hi.1, fun k hk => k5 k (hi.2 k hk)⟩, ⟨hr.1, fun k hk => k6 k (hr.2 k hk)⟩⟩
theorem Ok.addP {t : Nat} {s : LSt} (h : Ok t s) (v : Value) (p : PairS) (hs : p.mi = p.mr) (hr : p.mr.runs = 0 ∧ p.mr.since = 0 ∧ p.mr.kept = 0) : Ok (t + 1) (s.addP v p) := by
  have key : ∀ (j : Nat) (q : PairS), (s.addP v p).hs[j]? = some q → q = p ∨ s.hs[j]? = some q := by
    intro j q hq
    have hq' : (s.hs ++ [p])[j]? = some q := hq
    by_cases e : j < s.hs.length
    · rw [List.getElem?_append_left e] at hq'; exact .inr hq'
    · rw [List.getElem?_append_right (by omega)] at hq'
      left
      have := List.mem_of_getElem? hq'
      simpa using this
  refine ⟨fun j q hq => ?_, fun j q hq => ?_, Nat.le_succ_of_le h.words, by have := h.hs; simp [LSt.addP]; omega, Nat.le_succ_of_le h.ls, h.value, h.ll⟩
  · rcases key j q hq with rfl | e
    · exact hs
    · exact h.sync j q e
  · rcases key j q hq with rfl | e
    · omega
    · have := h.runs j q e; omega

theorem Tryd.infoPair : (Tryd.prog.info? 72).map (fun i => (i.zero, i.size, i.bytes)) = some (some (.pointer none), 1, 8) := by kernel_rfl

set_option maxRecDepth 10000 in
set_option maxHeartbeats 3200000 in
theorem step_new_err {H : HeapI} {N0 : Nat} {w0 w : World} {O : Nat → Nat × Nat} {s : LSt} {t : Nat} (h : LawIs H N0 w0 w O s) (ok : Ok t s) (a b c : Int) (hn : a < 1 ∨ 48 < a ∨ b < 1 ∨ 16 < b ∨ c < 0 ∨ 4096 < c) :
    Calls Tryd.prog 31 #[.pointer (some ⟨s.wB, 0, none⟩), .agg #[.int .i64 1, .int .i64 a, .int .i64 b, .int .i64 c]] w fun e w' => e = .returned (.bool true) ∧ Next H N0 w0 s t w' := by
  obtain ⟨W, O1, eW, h1, bx, zW⟩ := h.boxed 1 a b c
  have E1 : Hid (w.alloc (.cells #[.int .i64 1, .int .i64 a, .int .i64 b, .int .i64 c] 52) = W) := eW
  have CO := hide (owner_none h1 1 a b c (by omega) (by omega))
  have H1 := hide h1
  have BX := hide bx
  have OK := hide ok
  have HN := hide hn
  clear h h1 bx ok eW zW hn
  go_enter Tryd.func31, Tryd.ntmps31
  go_wp2_with fail
  rw [unhide E1]
  refine (unhide CO).mono ?_
  rintro e w2 ⟨rfl, b2⟩
  have h2 := (unhide H1).quiet b2
  have bx2 := Loc.of_below (O := O1) (8, 8) b2 _ _ _ (unhide BX)
  obtain ⟨k0, ka, kb, kc⟩ := opObj_cells bx2
  have CN := hide (H.new_err a b c w2 h2.glob (unhide HN))
  have HD := hide h2
  have BX2 := hide bx2
  clear b2 h2 bx2 CO
  go_wp2_with fail
  refine (unhide CN).mono ?_
  rintro e w3 ⟨rfl, b3⟩
  have h3 := (unhide HD).quiet b3
  have bx3 := Loc.of_below (O := ext W O1 (8, 8)) (8, 8) b3 _ _ _ (unhide BX2)
  obtain ⟨k0', ka', kb', kc'⟩ := opObj_cells bx3
  have CR := hide (refNew_err a b c w3 (unhide HN))
  have H3 := hide h3
  clear h3 bx3 b3 k0 ka kb kc CN BX2
  go_wp2_with fail
  refine (unhide CR).mono ?_
  rintro e w4 ⟨rfl, b4⟩
  have HF : Hid (Next H N0 w0 s t w4) := hide ⟨s, _, rfl, (unhide H3).quiet b4, (unhide OK).more⟩
  clear b4 k0' ka' kb' kc'
  go_wp2
  go_ret
  exact ⟨rfl, unhide HF⟩

set_option maxRecDepth 10000 in
set_option maxHeartbeats 3200000 in
theorem step_new_ok {H : HeapI} {N0 : Nat} {w0 w : World} {O : Nat → Nat × Nat} {s : LSt} {t : Nat} (h : LawIs H N0 w0 w O s) (ok : Ok t s) (ht : t ≤ 2000000) (a b c : Nat) (a1 : 1 ≤ a) (a2 : a ≤ 48) (b1 : 1 ≤ b) (b2 : b ≤ 16) (c2 : c ≤ 4096) :
    Calls Tryd.prog 31 #[.pointer (some ⟨s.wB, 0, none⟩), .agg #[.int .i64 1, .int .i64 a, .int .i64 b, .int .i64 c]] w fun e w' => e = .returned (.bool true) ∧ Next H N0 w0 s t w' := by
  obtain ⟨i0, hi, hz0, hz1, hz2⟩ := info_parts Tryd.infoPair
  obtain ⟨W, O1, eW, h1, bx, zW⟩ := h.boxed 1 a b c
  have E1 : Hid (w.alloc (.cells #[.int .i64 1, .int .i64 (a : Int), .int .i64 (b : Int), .int .i64 (c : Int)] 52) = W) := eW
  have CO := hide (owner_none h1 1 a b c (by omega) (by omega))
  have H1 := hide h1
  have BX := hide bx
  have OK := hide ok
  have hhs := ok.hs
  clear h h1 bx ok eW zW
  go_enter Tryd.func31, Tryd.ntmps31
  go_wp2_with fail
  rw [unhide E1]
  refine (unhide CO).mono ?_
  rintro e w2 ⟨rfl, d2⟩
  have h2 := (unhide H1).quiet d2
  have bx2 := Loc.of_below (O := O1) (8, 8) d2 _ _ _ (unhide BX)
  obtain ⟨k0, ka, kb, kc⟩ := opObj_cells bx2
  have CN := hide (H.new_ok a b c w2 h2.glob a1 a2 b1 b2 c2)
  have HD := hide h2
  have BX2 := hide bx2
  clear d2 h2 bx2 CO H1 BX E1
  generalize ext W O1 (8, 8) = O2 at *
  go_wp2_with fail
  refine (unhide CN).mono ?_
  rintro e w3 ⟨B, ha, cn, rfl, is3, in3, d3⟩
  have f3 := Fr.of_below (O := O2) (8, 5) d3
  have h3 := (unhide HD).loc f3 rfl
  have bx3 := (unhide BX2).fr f3 (lab_ne (by omega))
  have IM3 : Hid (Imp H w3 (ext w2 O2 (8, 5)) (8, 5) B ha (Mo.init a b c) cn) := hide ⟨is3, fun k hk => ext_new w2 O2 _ k (in3 k hk)⟩
  obtain ⟨k0', ka', kb', kc'⟩ := opObj_cells bx3
  have CR := hide (refNew_ok a b c w3 a1 a2 b1 b2 c2)
  have H3 := hide h3
  clear h3 bx3 d3 f3 is3 in3 k0 ka kb kc CN BX2 HD
  generalize ext w2 O2 (8, 5) = O3 at *
  go_wp2_with fail
  refine (unhide CR).mono ?_
  rintro e w4 ⟨R, rfl, is4, in4, d4⟩
  have f4 := Fr.of_below (O := O3) (8, 6) d4
  have H4 := hide ((unhide H3).loc f4 rfl)
  have IM4 := hide ((unhide IM3).fr f4 (lab_ne (by omega)))
  have RF4 : Hid (Ref w4 (ext w3 O3 (8, 6)) (8, 6) R (Mo.init a b c)) := hide ⟨is4, fun k hk => ext_new w3 O3 _ k (in4 k hk)⟩
  clear d4 f4 is4 in4 CR H3 IM3 k0' ka' kb' kc'
  generalize ext w3 O3 (8, 6) = O4 at *
  obtain ⟨f0, _, _, _, _, fz, hlt⟩ := (unhide H4).cells
  obtain ⟨av, cv, hv, hv1, hv2⟩ := ownsRow_shape (unhide H4).rh.1
  rw [hv] at f0
  have HV := hide hv
  clear hv
  go_wp2_with (at_builtin; refine stop ?_)
  obtain ⟨w5, e5, z5, d5, g5⟩ : ∃ w5, w4.alloc (.cells #[.pointer (some ⟨ha, 0, none⟩), .pointer (some ⟨R.r, 0, none⟩)] 74) = w5 ∧ w5.heap.size = w4.heap.size + 1 ∧ Below w4.heap.size w4 w5 ∧ w5.heap[w4.heap.size]? = some (.cells #[.pointer (some ⟨ha, 0, none⟩), .pointer (some ⟨R.r, 0, none⟩)] 74) := ⟨_, rfl, by simp, (Below.refl _ _).alloc (Nat.le_refl _) _, heap_alloc_new w4 _⟩
  rw [e5]
  have f5 := Fr.of_below (O := O4) (8, 7) d5
  have RH5 := hide ((unhide H4).rh.fr f5 (lab_ne (by omega)))
  have C5 := hide ((unhide H4).core1.fr f5 (.inr (.inr rfl)))
  have ST5 := hide ((unhide H4).st.fr f5 (lab_ne (by omega)))
  have IM5 := hide ((unhide IM4).fr f5 (lab_ne (by omega)))
  have RF5 := hide ((unhide RF4).fr f5 (lab_ne (by omega)))
  have BP5 : Hid (Blk w5 (ext w4 O4 (8, 7)) (8, 7) w4.heap.size (.cells #[.pointer (some ⟨ha, 0, none⟩), .pointer (some ⟨R.r, 0, none⟩)] 74)) := hide ⟨g5, ext_new w4 O4 _ _ (Nat.le_refl _)⟩
  rw [unhide HV] at RH5
  clear e5 d5 g5 f5 H4 IM4 RF4
  generalize ext w4 O4 (8, 7) = O5 at *
  refine hide (wpList_append_at _ rfl _ _ 46 rfl 72 i0 (.pointer none) 1 8 Tryd.underlying46 hi hz0 hz1 hz2 rfl (by decide) (.slice av s.hs.length cv) s.hs.length (s.hs.map fun p => Value.pointer (some ⟨p.pb, 0, none⟩)) rfl ((unhide RH5).1.alloc _) ⟨w4.heap.size + 1, 0, none⟩ 1 1 [.pointer (some ⟨w4.heap.size, 0, none⟩)] rfl rfl ?c1 ?c2 (by decide) (by unfold maxLen; omega) (by omega) ?_)
  case c1 =>
    intro j u hj
    match j, hj with
    | 0, hj => simp at hj; subst hj; exact cell_of_row (w5.alloc (.cells #[.pointer (some ⟨w4.heap.size, 0, none⟩)] 72)) (w4.heap.size + 1) 0 _ _ _ (by rw [← z5]; exact heap_alloc_new w5 _)
  case c2 => intro u hu; simp at hu; subst hu; rfl
  intro v' w6 ho hg hloc
  have f6 := Fr.of_touch (O := O5) (lab := (0, 1)) (touch_app hg) (fun k hk => (unhide RH5).2 k (by simpa using hk))
  have R6 := hide (row_app (unhide RH5) ho hloc)
  have C6 := hide ((unhide C5).fr f6 (.inr (.inl rfl)))
  have ST6 := hide ((unhide ST5).fr f6 (lab_ne (by omega)))
  have IM6 := hide ((unhide IM5).fr f6 (lab_ne (by omega)))
  have RF6 := hide ((unhide RF5).fr f6 (lab_ne (by omega)))
  have BP6 := hide ((unhide BP5).fr f6 (lab_ne (by omega)))
  obtain ⟨av', cv', hw', he1, he2⟩ := ownsRow_shape ho
  rw [hw'] at R6 ⊢
  clear ho hg hloc f6 RH5 C5 ST5 IM5 RF5 BP5 hw' f0 fz hlt z5
  generalize ext w5 O5 (0, 1) = O6 at *
  have hs6 := (unhide ST6).1
  have hwl : s.wB < w6.heap.size := heap_lt hs6
  have dz := fun k => frozen_of_row w6 s.wB k _ _ hs6
  unfold worldObj at hs6
  have d0 : w6.cell? ⟨s.wB, 0, none⟩ = some s.vh := by rw [cell_of_row w6 s.wB _ _ _ _ hs6]; rfl
  rw [unhide HV] at d0
  have hs7 := heap_setCell_same w6 s.wB 0 _ _ (.slice av' (s.hs.length + 1) cv') hs6
  have t7 : Touch [s.wB] w6 (w6.setCell ⟨s.wB, 0, none⟩ (.slice av' (s.hs.length + 1) cv')) := ⟨rfl, rfl, rfl, by simp, fun k _ hk => heap_setCell_other w6 ⟨s.wB, 0, none⟩ k _ (by simpa using hk)⟩
  have f7 := Fr.of_touch (O := O6) (lab := (0, 0)) t7 (fun k hk => by simp at hk; rw [hk]; exact (unhide ST6).2)
  have HF : Hid (Next H N0 w0 s t (w6.setCell ⟨s.wB, 0, none⟩ (.slice av' (s.hs.length + 1) cv'))) := hide (by
    obtain ⟨O7, h7⟩ := ((unhide C6).fr f7 (.inl rfl)).addP (p := ⟨w4.heap.size, ha, B, Mo.init a b c, cn, R, Mo.init a b c⟩) ⟨by rw [hs7]; rfl, by rw [ext_old w6 _ _ _ hwl]; exact (unhide ST6).2⟩ ((unhide R6).fr f7 (lab_ne (by omega))) ((unhide BP6).fr f7 (lab_ne (by omega))) ((unhide IM6).fr f7 (lab_ne (by omega))) ((unhide RF6).fr f7 (lab_ne (by omega)))
    exact ⟨_, O7, by rfl, h7, (unhide OK).addP _ _ rfl ⟨rfl, rfl, rfl⟩⟩)
  clear hs6 hs7 t7 f7 C6 ST6 IM6 RF6 BP6 R6
  go_wp2
  go_ret
  exact ⟨rfl, unhide HF⟩
end Go.Proofs.YtgegkcjllliifabDoor
