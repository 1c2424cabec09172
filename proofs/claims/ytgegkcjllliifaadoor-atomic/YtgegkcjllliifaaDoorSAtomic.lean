/-
  The walks of atomic and Atomic.
-/
import Derived.Test.YtgegkcjllliifaaDoorSInner
namespace Go.Proofs.YtgegkcjllliifaaDoor
open Go.RowKit

/-- Behind a first object of at most seven pages there is room for one of three words. -/
theorem room_second {sz : Nat} {kind : Bool} {s : St} (h2 : sz ≤ 224) (l : LaidTo (St.init 8 4) 0 sz kind s) : ∃ k, s.place 3 false = some k := by
  cases hp : s.place 3 false with
  | some k => exact ⟨k, rfl⟩
  | none =>
    obtain ⟨j, j1, j2⟩ := (place_none (by omega) hp).2 7 (by rw [l.n]; show 7 + (3 + 31) / 32 ≤ 8; omega)
    obtain rfl : j = 0 := by omega
    exfalso
    have hb : s.back 7 = 0 := by
      rcases l.page 7 (by omega) with ⟨_, _, p3, _⟩ | ⟨p1, _, _⟩
      · exact p3
      · exact l.wf.sm 7 (by rw [l.n]; show 7 < 8; omega) (by rw [p1]; omega)
    have hany : s.any 7 = false := any_false fun k k1 k2 => by
      rw [l.beg, upd_other _ _ _ _ (by omega)]
      rfl
    have hheld : s.held 7 = false := by
      unfold St.held
      rw [hb]
      exact hany
    have hblk : s.blk 7 = false := by rw [l.blk]; rfl
    unfold St.free at j2
    rw [show 7 + 0 = 7 from rfl, hheld, hblk] at j2
    cases j2

/-- The heap of the statement: an object, another of three words whose third byte-word it names in word q, a root at it. -/
structure AtHeap (sz : Nat) (kind : Bool) (q kb : Nat) (s1 s2 : St) : Prop where
  l1 : LaidTo (St.init 8 4) 0 sz kind s1
  l2 : LaidTo s1 kb 3 false s2
  z1 : 1 ≤ sz
  qz : q < sz

def atSt (s2 : St) (q kb : Nat) : St := { s2.setWd q (1048576 + (kb : Int) * 8 + 16) with roots := [1048576] }

theorem AtHeap.kb_ne {sz q kb : Nat} {kind : Bool} {s1 s2 : St} (h : AtHeap sz kind q kb s1 s2) : kb ≠ 0 := by
  intro e
  have := h.l2.was
  rw [e, h.l1.begNew] at this
  cases this
theorem AtHeap.beg {sz q kb : Nat} {kind : Bool} {s1 s2 : St} (h : AtHeap sz kind q kb s1 s2) (j : Nat) : s2.beg j = true ↔ j = 0 ∨ j = kb := by
  rw [h.l2.beg, h.l1.beg]
  unfold upd
  by_cases c : j = kb
  · simp [c]
  · rw [if_neg c]
    by_cases c2 : j = 0
    · simp [c2]
    · rw [if_neg c2]
      simp [c, c2, St.init]
theorem AtHeap.size0 {sz q kb : Nat} {kind : Bool} {s1 s2 : St} (h : AtHeap sz kind q kb s1 s2) : s2.size 0 = sz ∧ s2.atom 0 = kind := by
  have a := h.l2.old 0 h.l1.begNew
  have b := h.l1.sizeNew h.z1
  exact ⟨a.1.trans b.1, a.2.trans b.2⟩
theorem AtHeap.at0 {sz q kb : Nat} {kind : Bool} {s1 s2 : St} (h : AtHeap sz kind q kb s1 s2) (x : Int) (h1 : 1048576 ≤ x) (h2 : x < 1048576 + 8 * (sz : Int)) : s2.at x = some 0 := by
  rw [at_iff h.l2.wf]
  refine ⟨(h.beg 0).2 (.inl rfl), ?_⟩
  unfold St.lies
  rw [show (0 / 32 : Nat) = 0 from rfl, h.size0.1]
  omega
theorem AtHeap.atb {sz q kb : Nat} {kind : Bool} {s1 s2 : St} (h : AtHeap sz kind q kb s1 s2) : s2.at (1048576 + (kb : Int) * 8 + 16) = some kb := by
  rw [h.l2.at h.l1.wf (by omega), if_pos (by omega)]
theorem AtHeap.word {sz q kb : Nat} {kind : Bool} {s1 s2 : St} (h : AtHeap sz kind q kb s1 s2) (j : Nat) : s2.word j = 0 := by
  rw [h.l2.word, h.l1.word]
  show (if _ then (0 : Int) else if _ then (0 : Int) else 0) = 0
  split
  · rfl
  · split <;> rfl
theorem AtHeap.wf {sz q kb : Nat} {kind : Bool} {s1 s2 : St} (h : AtHeap sz kind q kb s1 s2) : WF (atSt s2 q kb) := (h.l2.wf.setWd _ _).roots _
theorem AtHeap.reach {sz q kb : Nat} {kind : Bool} {s1 s2 : St} (h : AtHeap sz kind q kb s1 s2) (k : Nat) : (atSt s2 q kb).Reach k ↔ k = 0 ∨ (kind = false ∧ k = kb) := by
  have e0 : (atSt s2 q kb).at = s2.at := rfl
  have r0 : (atSt s2 q kb).Reach 0 := .root (x := 1048576) (List.mem_singleton.2 rfl) (h.at0 1048576 (by omega) (by have := h.z1; omega))
  have hw : ∀ j, (atSt s2 q kb).word j = if j = q then 1048576 + (kb : Int) * 8 + 16 else 0 := fun j => by
    show upd s2.word q _ j = _
    unfold upd
    split
    · rfl
    · exact h.word j
  constructor
  · intro hr
    induction hr with
    | root h1 h2 =>
      have e := List.mem_singleton.1 h1
      rw [e, e0, h.at0 1048576 (by omega) (by have := h.z1; omega)] at h2
      exact .inl (Option.some.inj h2).symm
    | word h1 h2 h3 h4 ih =>
      rename_i j k' i
      rw [hw] at h4
      split at h4
      · rename_i e
        rw [e0, h.atb] at h4
        right
        refine ⟨?_, (Option.some.inj h4).symm⟩
        rcases ih with rfl | ⟨hk, rfl⟩
        · have : s2.atom 0 = false := h2
          rw [h.size0.2] at this
          exact this
        · exact hk
      · rw [e0] at h4
        have := at_zero s2
        rw [this] at h4
        cases h4
  · rintro (rfl | ⟨hk, rfl⟩)
    · exact r0
    · refine .word (j := 0) (i := q) r0 ?_ ?_ ?_
      · show s2.atom 0 = false
        rw [h.size0.2]; exact hk
      · show q < (s2.size 0).toNat
        rw [h.size0.1]
        have := h.qz
        simpa using this
      · rw [hw, if_pos (by omega), e0]
        exact h.atb
theorem AtHeap.count {sz q kb : Nat} {kind : Bool} {s1 s2 t : St} (h : AtHeap sz kind q kb s1 s2) (c : Cleaned (atSt s2 q kb) t) : cntF t.beg (t.n * 32) = if kind then 1 else 2 := by
  have hn : t.n = 8 := c.n.trans (h.l2.n.trans h.l1.n)
  have hb : ∀ j, t.beg j = true ↔ j = 0 ∨ (kind = false ∧ j = kb) := fun j => (c.beg j).trans (h.reach j)
  have hlt := h.l2.lt
  rw [h.l1.n] at hlt
  have hlt' : kb + 3 ≤ 8 * 32 := hlt
  rw [hn]
  cases kind
  · exact cntF_two _ (by omega) (by omega) (Ne.symm h.kb_ne) fun j => by simpa using hb j
  · exact cntF_one (k := 0) (by omega) fun j => by simpa using hb j
theorem AtHeap.load {sz q kb : Nat} {kind : Bool} {s1 s2 t : St} (h : AtHeap sz kind q kb s1 s2) (c : Cleaned (atSt s2 q kb) t) : t.at (1048576 + 8 * (q : Int)) = some 0 ∧ t.word q = 1048576 + (kb : Int) * 8 + 16 := by
  refine ⟨(c.at' _ _).2 ⟨h.at0 _ (by omega) (by have := h.qz; omega), (h.reach 0).2 (.inl rfl)⟩, ?_⟩
  rw [c.word]
  exact upd_same _ _ _

set_option maxHeartbeats 3200000 in
theorem atomic_any (n : Nat) (k : Int) (kind : Bool) (w : World) (hT : Tab w) (n1 : 1 ≤ n) (n2 : n ≤ 224) (k1 : -9223372036854775808 ≤ k) (k2 : k ≤ 9223372036854775807) :
    Calls Tryd.prog 20 #[.int .i64 n, .int .i64 k, .bool kind] w fun e w' => e = .returned (.bool true) ∧ Below w.heap.size w w' := by
  have T := hide hT
  have Q := hide (quiet_any 8 4 w (by omega) (by omega) (by omega) (by omega))
  obtain ⟨sz, z1, z2, z3, z4, z5⟩ := size_bd n n1
  have z6 : sz ≤ 224 := by
    by_cases c : 16 < sz
    · have := (z4 c).1; omega
    · omega
  have Z1 := hide z1
  clear hT z1 z3 z4 z5
  go_enter Tryd.func20, Tryd.ntmps20
  go_wp2_with fail
  refine (unhide Q).mono ?_
  rintro e w1 ⟨hb, rfl, hnew⟩
  obtain ⟨L, h1⟩ := Hd.new (unhide T) (Below.refl _ _) hnew
  have C1 := hide (hd_alloc h1 n sz 0 kind n1 (by show n ≤ 8 * 32; omega) (unhide Z1) (place_init 8 4 sz kind (by omega) (by omega)))
  clear hnew h1
  go_wp2_with fail
  refine (unhide C1).mono ?_
  rintro e w2 ⟨rfl, h2, l1, _⟩
  generalize hs : (St.init 8 4).laid 0 sz kind = s1 at *
  obtain ⟨kb, hkb⟩ := room_second z6 l1
  have C2 := hide (hd_alloc h2 3 3 kb false (by omega) (by rw [l1.n]; show 3 ≤ 8 * 32; omega) (by decide) hkb)
  have L1 := hide l1
  clear h2 l1 hs hkb
  go_wp2_with fail
  refine (unhide C2).mono ?_
  rintro e w3 ⟨rfl, h3, l2, _⟩
  generalize hs2 : s1.laid kb 3 false = s2 at *
  have H3 := hide h3
  have CP := hide (saysPick_any k n w3 k1 k2 n1 (by omega))
  have hp := pickN_lt k n n1
  generalize pickN k n = q at *
  have AH : Hid (AtHeap sz kind q kb s1 s2) := ⟨unhide L1, l2, by omega, by omega⟩
  have hkb2 : (kb : Int) ≤ 256 := by
    have := l2.lt
    rw [(unhide L1).n] at this
    have : kb + 3 ≤ 8 * 32 := this
    omega
  clear h3 l2 hs2
  go_wp2_with fail
  refine (unhide CP).mono ?_
  rintro e w4 ⟨rfl, rfl⟩
  have ha := unhide AH
  have C5 := hStore_ok L s2 (1048576 + 8 * (q : Int)) (1048576 + (kb : Int) * 8 + 16) q 0 w4 (unhide H3).r (unhide H3).wf.ok (by omega) (ha.at0 _ (by omega) (by omega)) (by omega) (by omega) (by rw [ha.l2.n, ha.l1.n]; show q < 8 * 32; omega)
  rw [(unhide H3).e] at C5
  have CC5 := hide C5
  clear C5 ha
  go_wp2_with fail
  refine (unhide CC5).mono ?_
  rintro e w5 ⟨rfl, r5, t5⟩
  have h5 := (unhide H3).touch r5 ((unhide H3).wf.setWd _ _) t5
  have hr : (s2.setWd q (1048576 + (kb : Int) * 8 + 16)).roots = [] := (unhide AH).l2.roots.trans (unhide AH).l1.roots
  have C6 := hPush_ok L _ 1048576 w5 h5.r (by rw [hr]; simp)
  rw [hr, h5.e] at C6
  have CC6 := hide C6
  have H5 := hide h5
  clear r5 t5 h5 hr C6
  go_wp2_with fail
  refine (unhide CC6).mono ?_
  rintro e w6 ⟨rfl, k6⟩
  have k6' : HSt w5 L (atSt s2 q kb) w6 := k6
  obtain ⟨L6, h6, _, _⟩ := (unhide H5).hst k6' (unhide AH).wf
  have C7 := clean_any L6 _ w6 h6.r h6.wf (by rw [show (atSt s2 q kb).colls = s2.colls from rfl, (unhide AH).l2.colls, (unhide AH).l1.colls]; exact Nat.zero_le _)
  rw [h6.e] at C7
  have CC7 := hide C7
  have H6 := hide h6
  clear k6 k6' h6 C7
  go_wp2_with fail
  refine (unhide CC7).mono ?_
  rintro e w7 ⟨t, rfl, cl, k7⟩
  obtain ⟨L7, h7, _, _⟩ := (unhide H6).hst k7 cl.wf cl.trig
  have o1 := (unhide AH).count cl
  obtain ⟨o2, o3⟩ := (unhide AH).load cl
  have hn7 : t.n = 8 := cl.n.trans ((unhide AH).l2.n.trans (unhide AH).l1.n)
  unfold St.counts
  obtain ⟨cc, hcc⟩ : ∃ cc : Nat, (if kind then 1 else 2) = cc := ⟨_, rfl⟩
  rw [o1, hcc]
  have HCC := hide hcc
  generalize hzz : ctObj (cc : Int) (sumW t (t.n * 32)) t.colls t.again t.used t.unsw = cobj
  obtain ⟨W8, hW8, b8, g8⟩ : ∃ W8, w7.alloc cobj = W8 ∧ Below w7.heap.size w7 W8 ∧ W8.heap[w7.heap.size]? = some cobj := ⟨_, rfl, (Below.refl _ _).alloc (Nat.le_refl _) _, heap_alloc_new w7 _⟩
  have h8 := h7.below b8
  have C9 := hLoad_ok L7 t (1048576 + 8 * (q : Int)) q 0 W8 h8.r h8.wf.ok (by omega) o2 (by omega) (by omega) (by rw [hn7]; omega)
  rw [h8.e, o3] at C9
  have CC9 := hide C9
  have HW8 := hide hW8
  rw [← hzz] at HW8 g8
  unfold ctObj at HW8
  have H8 := hide h8
  have G8 := hide g8
  have Z8 := hide (heap_lt g8)
  clear k7 cl h7 o1 o2 o3 hn7 C9 hW8 b8 g8 h8 hzz hcc
  go_wp2_with fail
  rw [unhide HW8]
  refine (unhide CC9).mono ?_
  rintro e w9 ⟨rfl, b9⟩
  have g9 := (b9.block _ (unhide Z8)).trans (unhide G8)
  obtain ⟨f0, _⟩ := ctObj_cells g9
  have HB := hide ((unhide H8).below b9).b
  clear b9 g9
  cases kind
  · obtain rfl : 2 = cc := unhide HCC
    go_wp2
    go_ret
    exact ⟨rfl, unhide HB⟩
  · obtain rfl : 1 = cc := unhide HCC
    go_wp2
    go_ret
    exact ⟨rfl, unhide HB⟩

set_option maxHeartbeats 400000 in
theorem Atomic_any (a b c : Int) (w : World) (hT : Tab w) (a1 : -9223372036854775808 ≤ a) (a2 : a ≤ 9223372036854775807) (b1 : -9223372036854775808 ≤ b) (b2 : b ≤ 9223372036854775807) :
    Calls Tryd.prog 10 #[.int .i64 a, .int .i64 b, .int .i64 c] w fun e w' => e = .returned (.bool true) ∧ Below w.heap.size w w' := by
  have CP := hide (saysPick_any a 224 w a1 a2 (by omega) (by omega))
  have hp := pickN_lt a 224 (by omega)
  generalize pickN a 224 = p at *
  have C : Hid (∀ kind, Calls Tryd.prog 20 #[.int .i64 (1 + (p : Int)), .int .i64 b, .bool kind] w fun e w' => e = .returned (.bool true) ∧ Below w.heap.size w w') := fun kind => by
    have := atomic_any (1 + p) b kind w hT (by omega) (by omega) b1 b2
    rw [show ((1 + p : Nat) : Int) = 1 + (p : Int) by omega] at this
    exact this
  clear hT
  go_enter Tryd.func10, Tryd.ntmps10
  go_wp2_with (first | (go_at_call 16; refine (unhide CP).mono ?_; rintro e w1 ⟨rfl, rfl⟩) | (go_at_call 20; refine (unhide C _).mono ?_; rintro e w1 ⟨rfl, hb⟩))
  go_ret
  exact ⟨rfl, by assumption⟩
end Go.Proofs.YtgegkcjllliifaaDoor
