/-
  The walks of next, apart and Apart.
-/
import Derived.Test.YtgegkcjllliifabDoorSHeld
import Derived.Test.YtgegkcjllliifabDoorHWalk
import Derived.Test.YtgegkcjllliifabDoorHLoad
namespace Go.Proofs.YtgegkcjllliifabDoor
open Go.RowKit

set_option maxHeartbeats 400000 in
theorem next_any (x : Nat) (w : World) (hx : x < 1073741824) :
    Calls Tryd.prog 27 #[.int .i64 x] w fun e w' => ∃ y : Nat, e = .returned (.int .i64 y) ∧ y < 1073741824 ∧ w' = w := by
  go_enter Tryd.func27, Tryd.ntmps27
  go_wp2
  go_ret
  exact ⟨((x * 1103515 + 12345) % 1073741824), ret_int (by omega), by omega, rfl⟩

/-- Two rows of numbers beside a heap. -/
structure Rows2 (b0 : Nat) (w : World) (L : HL) (v1 : Value) (n1 : Nat) (l1 : List Value) (v2 : Value) (n2 : Nat) (l2 : List Value) : Prop where
  e1 : w.ownsRow 0 3 1 v1 n1 l1
  e2 : w.ownsRow 0 3 1 v2 n2 l2
  b1 : ∀ q, v1.ownBlock = some q → q ∉ L.blocks ∧ b0 ≤ q
  b2 : ∀ q, v2.ownBlock = some q → q ∉ L.blocks ∧ b0 ≤ q
  ne : ∀ q, v1.ownBlock = some q → v2.ownBlock ≠ some q
theorem Rows2.swap {b0 : Nat} {w : World} {L : HL} {v1 v2 : Value} {n1 n2 : Nat} {l1 l2 : List Value} (h : Rows2 b0 w L v1 n1 l1 v2 n2 l2) : Rows2 b0 w L v2 n2 l2 v1 n1 l1 := ⟨h.e2, h.e1, h.b2, h.b1, fun q h1 h2 => h.ne q h2 h1⟩
theorem Rows2.hst {b0 : Nat} {w w' : World} {L L' : HL} {v1 v2 : Value} {n1 n2 : Nat} {l1 l2 : List Value} (h : Rows2 b0 w L v1 n1 l1 v2 n2 l2) (hi : ∀ k, k ∈ L'.blocks → k ∈ L.blocks ∨ w.heap.size ≤ k) (t : Touch L.blocks w w') : Rows2 b0 w' L' v1 n1 l1 v2 n2 l2 := by
  refine ⟨ownsRow_agree h.e1 fun k hk => t.block k (h.e1.lt k hk).2 (h.b1 k hk).1, ownsRow_agree h.e2 fun k hk => t.block k (h.e2.lt k hk).2 (h.b2 k hk).1, fun q hq => ⟨fun e => ?_, (h.b1 q hq).2⟩, fun q hq => ⟨fun e => ?_, (h.b2 q hq).2⟩, h.ne⟩
  · rcases hi q e with x | x
    · exact (h.b1 q hq).1 x
    · have := (h.e1.lt q hq).2; omega
  · rcases hi q e with x | x
    · exact (h.b2 q hq).1 x
    · have := (h.e2.lt q hq).2; omega
theorem Rows2.touch {b0 : Nat} {w w' : World} {L : HL} {v1 v2 : Value} {n1 n2 : Nat} {l1 l2 : List Value} (h : Rows2 b0 w L v1 n1 l1 v2 n2 l2) (t : Touch L.blocks w w') : Rows2 b0 w' L v1 n1 l1 v2 n2 l2 := h.hst (fun _ hk => .inl hk) t
theorem Hd.grown {w0 w w' : World} {hb : Nat} {L : HL} {s : St} {x : Obj} {o : Option Nat} (h : Hd w0 w hb L s) (hg : (w.alloc x).grownBy w' o) (ho : ∀ q, o = some q → q ∉ L.blocks ∧ w0.heap.size ≤ q) : Hd w0 w' hb L s := by
  have hs := h.b.size
  have key : ∀ k, k < w.heap.size → o ≠ some k → w'.heap[k]? = w.heap[k]? := fun k hk hn => by
    rw [hg.block k (by simp; omega) (fun e => hn e.symm), heap_alloc_old w _ hk]
  refine ⟨⟨h.e, h.r.agree fun k hk => key k (h.r.lt k hk) (fun e => (ho k e).1 hk), h.wf, h.own, h.b.trans ⟨hg.os, hg.tape, hg.output, by have := hg.size; simp at this; omega, fun k hk => key k (by omega) (fun e => by have := (ho k e).2; omega)⟩, h.t⟩, h.tz⟩
/-- An append to the first. -/
theorem Rows2.app {w0 w w' : World} {hb : Nat} {s : St} {L : HL} {v1 v2 v' : Value} {n1 n2 m : Nat} {l1 l2 l' : List Value} (x : Obj) (h : Rows2 w0.heap.size w L v1 n1 l1 v2 n2 l2) (hd : Hd w0 w hb L s) (ho : w'.ownsRow 0 3 1 v' m l') (hg : (w.alloc x).grownBy w' v1.ownBlock) (hloc : v'.ownBlock = v1.ownBlock ∨ ∃ g, v'.ownBlock = some g ∧ (w.alloc x).heap.size ≤ g) :
    Rows2 w0.heap.size w' L v' m l' v2 n2 l2 ∧ Hd w0 w' hb L s := by
  have hL : ∀ k, k ∈ L.blocks → k < w.heap.size := fun k hk => hd.r.lt k hk
  have hs := hd.b.size
  refine ⟨⟨ho, ownsRow_agree h.e2 fun k hk => ?_, fun q hq => ?_, h.b2, fun q hq hv => ?_⟩, hd.grown hg h.b1⟩
  · have hlt := (h.e2.lt k hk).2
    rw [hg.block k (by simp; omega) (fun e => h.ne k e.symm hk), heap_alloc_old w _ hlt]
  · rcases hloc with e | ⟨g, e1, e2⟩
    · rw [e] at hq; exact h.b1 q hq
    · rw [e1] at hq; cases hq
      simp at e2
      exact ⟨fun e => by have := hL _ e; omega, by omega⟩
  · rcases hloc with e | ⟨g, e1, e2⟩
    · rw [e] at hq; exact h.ne q hq hv
    · rw [e1] at hq; cases hq
      have := (h.e2.lt _ hv).2
      simp at e2
      omega

def firsts (P : List (Nat × Nat)) : List Value := P.map fun q => Value.int .i64 (adr q.1)
def sizes' (P : List (Nat × Nat)) : List Value := P.map fun q => Value.int .i64 (q.2 : Int)
theorem firsts_append (P : List (Nat × Nat)) (k z : Nat) : firsts P ++ [Value.int .i64 (adr k)] = firsts (P ++ [(k, z)]) := by simp [firsts]
theorem sizes'_append (P : List (Nat × Nat)) (k z : Nat) : sizes' P ++ [Value.int .i64 (z : Int)] = sizes' (P ++ [(k, z)]) := by simp [sizes']
theorem firsts_at (P : List (Nat × Nat)) (j : Nat) (h : j < P.length) : (firsts P)[j]? = some (.int .i64 (adr (P[j]).1)) := by simp [firsts, h]
theorem sizes'_at (P : List (Nat × Nat)) (j : Nat) (h : j < P.length) : (sizes' P)[j]? = some (.int .i64 ((P[j]).2 : Int)) := by simp [sizes', h]

/-- A run of words filled with one number. -/
def fillW (f : Nat → Int) (k i : Nat) (v : Int) : Nat → Int := fun q => if k ≤ q ∧ q < k + i then v else f q
theorem fillW_step (f : Nat → Int) (k i : Nat) (v : Int) : upd (fillW f k i v) (k + i) v = fillW f k (i + 1) v := by
  funext q
  unfold upd fillW
  by_cases c : q = k + i
  · rw [if_pos c, if_pos (by omega)]
  · rw [if_neg c]
    by_cases c2 : k ≤ q ∧ q < k + i
    · rw [if_pos c2, if_pos (by omega)]
    · rw [if_neg c2, if_neg (by omega)]
theorem fillW_zero (f : Nat → Int) (k : Nat) (v : Int) : fillW f k 0 v = f := by
  funext q
  unfold fillW
  rw [if_neg (by omega)]

set_option maxRecDepth 10000 in
set_option maxHeartbeats 6400000 in
theorem apart_any (seed : Int) (n : Nat) (w : World) (hT : Tab w) (n1 : 1 ≤ n) (n2 : n ≤ 24) (s1 : -9223372036854775808 ≤ seed) (s2 : seed ≤ 9223372036854775807) :
    Calls Tryd.prog 14 #[.int .i64 seed, .int .i64 n] w fun e w' => e = .returned (.bool true) ∧ Below w.heap.size w w' := by
  obtain ⟨i0, hi, hz0, hz1, hz2⟩ := info_parts Tryd.infoInt
  have T := hide hT
  have Q0 := hide (quiet_any 48 8 w (by omega) (by omega) (by omega) (by omega))
  clear hT
  go_enter Tryd.func14, Tryd.ntmps14
  go_wp2_with fail
  refine (unhide Q0).mono ?_
  rintro e wn ⟨hb, rfl, hnew⟩
  obtain ⟨L0, h0⟩ := Hd.new (unhide T) (Below.refl _ _) hnew
  have CP := hide (saysPick_any seed 1073741824 wn s1 s2 (by omega) (by omega))
  have hx0 := pickN_lt seed 1073741824 (by omega)
  generalize pickN seed 1073741824 = x0 at *
  have H0 := hide h0
  have R0 : Hid (Rows2 w.heap.size wn L0 (.slice none ([] : List (Nat × Nat)).length 0) ([] : List (Nat × Nat)).length (firsts []) (.slice none ([] : List (Nat × Nat)).length 0) ([] : List (Nat × Nat)).length (sizes' [])) := hide ⟨World.ownsRow_nil _ _ _ _, World.ownsRow_nil _ _ _ _, fun q hq => (by cases hq), fun q hq => (by cases hq), fun q hq => (by cases hq)⟩
  clear hnew h0
  go_wp2_with fail
  refine (unhide CP).mono ?_
  rintro e w1 ⟨rfl, rfl⟩
  go_wp2
  go_loopw [6, 7, 8, 9] (fun xv av sv kv wr => ∃ (k x : Nat) (P : List (Nat × Nat)) (a1 a2 : Option Addr) (c1 c2 : Nat) (L : HL) (s : St), xv = .int .i64 x ∧ kv = .int .i64 k ∧ av = .slice a1 P.length c1 ∧ sv = .slice a2 P.length c2 ∧ k ≤ n ∧ x < 1073741824 ∧ c1 ≤ maxLen ∧ c2 ≤ maxLen ∧ P.length ≤ 24 ∧ Hid (P.length = k) ∧ Hid (Rows2 w.heap.size wr L (.slice a1 P.length c1) P.length (firsts P) (.slice a2 P.length c2) P.length (sizes' P)) ∧ Hid (Held s P) ∧ Hid (s.colls ≤ k) ∧ Hid (Hd w wr hb L s)) (fun _ _ _ kv _ => 100 - (intOf kv).toNat)
  case atStart => exact ⟨0, x0, [], none, none, 0, 0, L0, _, rfl, rfl, rfl, rfl, by omega, hx0, Nat.zero_le _, Nat.zero_le _, by simp, hide rfl, R0, hide (Held.init 8), hide (Nat.le_refl _), H0⟩
  case round =>
    clear H0 R0
    obtain ⟨k, x, P, a1, a2, c1, c2, L, s, rfl, rfl, rfl, rfl, hk, hx, hc1, hc2, hP24, PL, RR, HE, CO, HD⟩ := hrel
    by_cases hlt : k < n
    · have CN := hide (next_any x wr hx)
      go_wp2_with fail
      refine (unhide CN).mono ?_
      rintro e w2 ⟨y, rfl, hy, hw⟩
      rw [hw]
      clear hw CN
      have C1 : Hid (∀ at0, Calls Tryd.prog 20 #[.pointer (some ⟨hb, 0, none⟩), .int .i64 (1 + (y : Int) / 512 % 40), .bool at0] wr fun e w' => ∃ (kk sz : Nat) (t : St), e = .returned (.tuple #[.int .i64 (1048576 + (kk : Int) * 8), .int .i64 0]) ∧ 1 ≤ sz ∧ sz ≤ 64 ∧ kk + sz ≤ 1536 ∧ Hid (Hd w w' hb L t) ∧ Hid (Touch L.blocks wr w') ∧ Hid (∃ at', s.place sz at' = some kk ∧ LaidTo s kk sz at' t)) := by
        intro at0
        obtain ⟨nw, hnw, w1', w2'⟩ : ∃ nw : Nat, (nw : Int) = 1 + (y : Int) / 512 % 40 ∧ 1 ≤ nw ∧ nw ≤ 40 := ⟨1 + y / 512 % 40, by omega, by omega, by omega⟩
        obtain ⟨sz, z1, z2, z3, z4, z5⟩ := size_bd nw w1'
        have z6 : sz ≤ 64 := by
          by_cases c : 16 < sz
          · have := (z4 c).1; omega
          · omega
        obtain ⟨kk, hkk⟩ := (unhide HE).room (by rw [unhide PL]; omega) (sz := sz) (at' := at0) (by omega) z6
        rw [← hnw]
        refine (hd_alloc (unhide HD) nw sz kk at0 w1' (by rw [(unhide HE).n]; omega) z1 hkk).mono ?_
        rintro e w' ⟨he, h3, l3, t3⟩
        have := l3.lt
        rw [(unhide HE).n] at this
        exact ⟨kk, sz, _, he, by omega, z6, this, h3, t3, at0, hkk, l3⟩
      go_wp2_with fail
      refine (unhide C1 _).mono ?_
      rintro e w3 ⟨kk, sz, t, rfl, z1, z2, z3, H3, T3, LT⟩
      replace RR := hide ((unhide RR).touch (unhide T3))
      have hat : Hid (∀ x : Int, 1048576 + 8 * (kk : Int) ≤ x → x < 1048576 + 8 * (kk : Int) + 8 * (sz : Int) → t.at x = some kk) := hide (fun x h1 h2 => by
        obtain ⟨at', _, l⟩ := unhide LT
        rw [l.at (unhide HE).wf z1, if_pos ⟨h1, h2⟩])
      have hsz : Hid (t.size (kk / 32) = sz) := hide (by obtain ⟨at', _, l⟩ := unhide LT; exact (l.sizeNew z1).1)
      have TN : Hid (t.n = 48) := hide (by obtain ⟨at', _, l⟩ := unhide LT; exact l.n.trans (unhide HE).n)
      have TRT : Hid (t.roots = s.roots) := hide (by obtain ⟨at', _, l⟩ := unhide LT; exact l.roots)
      have TCO : Hid (t.colls ≤ k) := hide (by obtain ⟨at', _, l⟩ := unhide LT; rw [l.colls]; exact unhide CO)
      have CS := hSize_some L t (1048576 + (kk : Int) * 8) w3 (unhide H3).r (unhide H3).wf.ok kk (unhide hat _ (by omega) (by omega))
      rw [(unhide H3).e, unhide hsz] at CS
      have CCS := hide CS
      clear CS C1 T3 hsz
      go_wp2_with fail
      refine (unhide CCS).mono ?_
      rintro e w4 ⟨rfl, b4⟩
      have H4 := hide ((unhide H3).below b4)
      replace RR := hide ((unhide RR).touch (Touch.of_below b4))
      clear b4 H3 CCS
      go_wp2_with (at_builtin; refine stop ?_)
      refine hide (wpList_append_at _ rfl _ _ 41 rfl 3 i0 (.int .i64 0) 1 8 Tryd.underlying41 hi hz0 hz1 hz2 rfl (by decide) (.slice a1 P.length c1) P.length (firsts P) rfl ((unhide RR).e1.alloc _) ⟨w4.heap.size, 0, none⟩ 1 1 [.int .i64 (1048576 + (kk : Int) * 8)] rfl rfl ?c1 ?c2 (by decide) (by unfold maxLen; omega) (by omega) ?_)
      case c1 =>
        intro j u hj
        match j, hj with
        | 0, hj => simp at hj; subst hj; exact cell_of_row (w4.alloc (.cells #[.int .i64 (1048576 + (kk : Int) * 8)] 3)) w4.heap.size 0 _ _ _ (heap_alloc_new w4 _)
      case c2 => intro u hu; simp at hu; subst hu; rfl
      intro v5 w5 ho hg hloc
      obtain ⟨HX, HY⟩ := (unhide RR).app _ (unhide H4) ho hg hloc
      obtain ⟨a1', c1', hv', hd1, hd2⟩ := ownsRow_shape ho
      have hl2 : (P ++ [(kk, sz)]).length = P.length + 1 := by simp
      rw [show firsts P ++ [Value.int .i64 (1048576 + (kk : Int) * 8)] = firsts (P ++ [(kk, sz)]) from firsts_append P kk sz, ← hl2] at HX
      rw [← hl2] at hv'
      rw [hv'] at HX ⊢
      replace RR := hide HX.swap
      have H5 := hide HY
      have HL2 := hide hl2
      clear HX HY ho hg hloc hv' hl2 H4
      go_wp2_with (at_builtin; refine stop ?_)
      refine hide (wpList_append_at _ rfl _ _ 41 rfl 3 i0 (.int .i64 0) 1 8 Tryd.underlying41 hi hz0 hz1 hz2 rfl (by decide) (.slice a2 P.length c2) P.length (sizes' P) rfl ((unhide RR).e1.alloc _) ⟨w5.heap.size, 0, none⟩ 1 1 [.int .i64 (sz : Int)] rfl rfl ?c1 ?c2 (by decide) (by unfold maxLen; omega) (by omega) ?_)
      case c1 =>
        intro j u hj
        match j, hj with
        | 0, hj => simp at hj; subst hj; exact cell_of_row (w5.alloc (.cells #[.int .i64 (sz : Int)] 3)) w5.heap.size 0 _ _ _ (heap_alloc_new w5 _)
      case c2 => intro u hu; simp at hu; subst hu; rfl
      intro v6 w6 ho hg hloc
      obtain ⟨HX, HY⟩ := (unhide RR).app _ (unhide H5) ho hg hloc
      obtain ⟨a2', c2', hv', hd3, hd4⟩ := ownsRow_shape ho
      rw [show sizes' P ++ [Value.int .i64 (sz : Int)] = sizes' (P ++ [(kk, sz)]) from sizes'_append P kk sz, ← unhide HL2] at HX
      rw [← unhide HL2] at hv'
      rw [hv'] at HX ⊢
      replace RR := hide HX.swap
      have H6 := hide HY
      clear HX HY ho hg hloc hv' H5
      have CPU := hPush_ok L t (1048576 + (kk : Int) * 8) w6 (unhide H6).r (by rw [unhide TRT, (unhide HE).roots, List.length_map, unhide PL]; omega)
      rw [(unhide H6).e, unhide TRT] at CPU
      have CCPU := hide CPU
      clear CPU
      go_wp2_with fail
      refine (unhide CCPU).mono ?_
      rintro e w7 ⟨rfl, k7⟩
      obtain ⟨L7, h7, i7, t7⟩ := (unhide H6).hst k7 ((unhide H6).wf.roots _)
      replace RR := hide ((unhide RR).hst i7 t7)
      have H7 : Hid (Hd w w7 hb L7 { t with roots := s.roots ++ [1048576 + (kk : Int) * 8], word := fillW t.word kk 0 (k : Int) }) := hide (by rw [fillW_zero]; exact h7)
      clear k7 h7 i7 t7 H6 CCPU
      go_wp2
      go_loopw [14] (fun iv wr => ∃ i : Nat, i ≤ sz ∧ iv = .int .i64 i ∧ Hid (Rows2 w.heap.size wr L7 (.slice a1' (P ++ [(kk, sz)]).length c1') (P ++ [(kk, sz)]).length (firsts (P ++ [(kk, sz)])) (.slice a2' (P ++ [(kk, sz)]).length c2') (P ++ [(kk, sz)]).length (sizes' (P ++ [(kk, sz)]))) ∧ Hid (Hd w wr hb L7 { t with roots := s.roots ++ [1048576 + (kk : Int) * 8], word := fillW t.word kk i (k : Int) })) (fun iv _ => 100 - (intOf iv).toNat)
      case atStart => exact ⟨0, by omega, rfl, RR, H7⟩
      case round =>
        clear RR H7
        obtain ⟨i, hi', rfl, RR, H7⟩ := hrel
        by_cases hin : i < sz
        · have CT := hStore_ok L7 _ (1048576 + (kk : Int) * 8 + 8 * (i : Int)) (k : Int) (kk + i) kk _ (unhide H7).r (unhide H7).wf.ok (by omega) (show t.at _ = some kk from unhide hat _ (by omega) (by omega)) (by omega) (by omega) (by show kk + i < t.n * 32; rw [unhide TN]; omega)
          rw [(unhide H7).e] at CT
          have CCT := hide CT
          clear CT
          go_wp2_with fail
          refine (unhide CCT).mono ?_
          rintro e w8 ⟨rfl, r8, t8⟩
          have h8 := (unhide H7).touch r8 ((unhide H7).wf.setWd _ _) t8
          have e8 : St.setWd { t with roots := s.roots ++ [1048576 + (kk : Int) * 8], word := fillW t.word kk i (k : Int) } (kk + i) (k : Int) = { t with roots := s.roots ++ [1048576 + (kk : Int) * 8], word := fillW t.word kk (i + 1) (k : Int) } := by
            rw [← fillW_step]; rfl
          rw [e8] at h8
          have H8 := hide h8
          replace RR := hide ((unhide RR).touch t8)
          clear r8 t8 h8 e8 H7 CCT
          go_wp2
          go_roundw
          case rel => exact ⟨i + 1, by omega, by go_num, RR, H8⟩
          case measure => simp [intOf]; omega
        · obtain rfl : i = sz := by omega
          have HE8 : Hid (Held { t with word := fillW t.word kk i (k : Int), roots := s.roots ++ [adr kk] } (P ++ [(kk, i)])) := hide (by
            obtain ⟨at', hp, l⟩ := unhide LT
            have hpl := unhide PL
            refine (unhide HE).lay (by omega) z1 z2 hp l _ (fun q hq => ?_) (fun q hq => ?_)
            · unfold fillW; rw [if_pos (by omega), hpl]
            · unfold fillW; rw [if_neg hq, l.word]; exact if_neg hq)
          have PL8 : Hid ((P ++ [(kk, i)]).length = k + 1) := hide (by rw [unhide HL2, unhide PL])
          have hl24 : (P ++ [(kk, i)]).length ≤ 24 := by rw [unhide PL8]; omega
          generalize hQ : P ++ [(kk, i)] = Q at *
          obtain ⟨bb, hbb⟩ : ∃ b, (bits BinOp.and IntKind.i64 ((y : Int) / 1048576) 3 == 0) = b := ⟨_, rfl⟩
          cases bb
          · clear hQ hat hin
            go_wp2
            go_roundw
            case rel => exact ⟨k + 1, y, Q, a1', a2', c1', c2', L7, _, rfl, by go_num, by rw [unhide HL2], by rw [unhide HL2], by omega, hy, hd2, hd4, hl24, PL8, RR, HE8, hide (by show t.colls ≤ k + 1; have := unhide TCO; omega), H7⟩
            case measure => simp [intOf]; omega
          · have CC := collect_wf L7 _ _ (unhide H7).r (unhide H7).wf (by show t.colls ≤ _; have := unhide TCO; omega)
            rw [(unhide H7).e] at CC
            have CCC := hide CC
            clear CC hQ hat hin
            go_wp2_with fail
            refine (unhide CCC).mono ?_
            rintro e w9 ⟨rfl, stays, black, ag, m1, m2, m3, m4, k9⟩
            obtain ⟨L9, h9, i9, t9⟩ := (unhide H7).hst k9 m4
            have HE9 := hide ((unhide HE8).coll m1 m4)
            have H9 := hide h9
            replace RR := hide ((unhide RR).hst i9 t9)
            clear m1 m2 m3 m4 k9 h9 i9 t9 H7 CCC
            go_wp2
            go_roundw
            case rel => exact ⟨k + 1, y, Q, a1', a2', c1', c2', L9, _, rfl, by go_num, by rw [unhide HL2], by rw [unhide HL2], by omega, hy, hd2, hd4, hl24, PL8, RR, HE9, hide (by show t.colls + 1 ≤ k + 1; have := unhide TCO; omega), H9⟩
            case measure => simp [intOf]; omega
    · have PN : Hid (P.length = n) := hide (by have := unhide PL; omega)
      clear PL CO hx
      go_wp2
      go_loopw [15] (fun kv wr => ∃ j : Nat, j ≤ n ∧ kv = .int .i64 j ∧ Hid (Rows2 w.heap.size wr L (.slice a1 P.length c1) P.length (firsts P) (.slice a2 P.length c2) P.length (sizes' P)) ∧ Hid (Hd w wr hb L s)) (fun kv _ => 100 - (intOf kv).toNat)
      case atStart => exact ⟨0, by omega, rfl, RR, HD⟩
      case round =>
        clear RR HD hlt hk
        obtain ⟨j, hj, rfl, RR, HD⟩ := hrel
        by_cases hlt : j < n
        · have hjP : j < P.length := by rw [unhide PN]; exact hlt
          go_wp2
          go_loopw [16] (fun iv wr => ∃ i : Nat, i ≤ (P[j]).2 ∧ iv = .int .i64 i ∧ Hid (Rows2 w.heap.size wr L (.slice a1 P.length c1) P.length (firsts P) (.slice a2 P.length c2) P.length (sizes' P)) ∧ Hid (Hd w wr hb L s)) (fun iv _ => 100 - (intOf iv).toNat)
          case atStart => exact ⟨0, by omega, rfl, RR, HD⟩
          case round =>
            clear RR HD
            obtain ⟨i, hi', rfl, RR, HD⟩ := hrel
            obtain ⟨g1, cp1, hv1, _, _, _⟩ := ownsRow_some (unhide RR).e1 (by omega)
            obtain ⟨g2, cp2, hv2, _, _, _⟩ := ownsRow_some (unhide RR).e2 (by omega)
            simp only [Value.slice.injEq, true_and] at hv1 hv2
            obtain ⟨rfl, rfl⟩ := hv1
            obtain ⟨rfl, rfl⟩ := hv2
            have d1 := (unhide RR).e1.cellAt j (by omega)
            have d2 := (unhide RR).e2.cellAt j (by omega)
            rw [firsts_at P j hjP] at d1
            rw [sizes'_at P j hjP] at d2
            have hm : ((P[j]).1, (P[j]).2) ∈ P := List.getElem_mem hjP
            have hsz := (unhide HE).size _ _ hm
            have hlt3 := (unhide HE).wf.fit (((unhide HE).beg _).2 ⟨_, hm⟩)
            unfold St.Fit at hlt3
            rw [hsz.1, (unhide HE).n] at hlt3
            have hat : ∀ i : Nat, i < (P[j]).2 → s.at (adr (P[j]).1 + 8 * (i : Int)) = some (P[j]).1 := fun i hi => (unhide HE).at hm _ (by omega) (by omega)
            have hwd : ∀ i, i < (P[j]).2 → s.word ((P[j]).1 + i) = j := (unhide HE).word j hjP
            have hz64 := hsz.2.2
            have hlt4 := hlt3.2.2.2
            clear hsz hlt3 hm
            generalize hpj : P[j] = pj at *
            obtain ⟨kk, sz⟩ := pj
            simp only at d1 d2 hat hwd hi' hz64 hlt4
            have ea : adr kk = 1048576 + (kk : Int) * 8 := rfl
            rw [ea] at d1 hat
            have HAT := hide hat
            have HWD := hide hwd
            have hlt5 : kk + sz ≤ 1536 := by simp at hlt4; omega
            clear hat hwd hpj ea hlt4
            by_cases hin : i < sz
            · have CL := hLoad_ok L s (1048576 + (kk : Int) * 8 + 8 * (i : Int)) (kk + i) kk _ (unhide HD).r (unhide HD).wf.ok (by omega) (unhide HAT i hin) (by omega) (by omega) (by rw [(unhide HE).n]; omega)
              rw [(unhide HD).e, unhide HWD i hin] at CL
              have CCL := hide CL
              clear CL
              go_wp2_with fail
              refine (unhide CCL).mono ?_
              rintro e w8 ⟨rfl, b8⟩
              have H8 := hide ((unhide HD).below b8)
              replace RR := hide ((unhide RR).touch (Touch.of_below b8))
              clear b8 HD CCL d1 d2
              go_wp2
              go_roundw
              case rel => exact ⟨i + 1, by omega, by go_num, RR, H8⟩
              case measure => simp [intOf]; omega
            · go_wp2
              go_roundw
              case rel => exact ⟨j + 1, by omega, by go_num, RR, HD⟩
              case measure => simp [intOf]; omega
        · have CW := hWalk_any L s wr (unhide HD).r
          have hln : (trues s.beg (s.n * 32)).length = n := by
            rw [trues_length, (unhide HE).n, show 48 * 32 = 1536 from rfl, (unhide HE).cnt, unhide PN]
          rw [(unhide HD).e, hln] at CW
          have CCW := hide CW
          clear CW hln
          go_wp2_with fail
          refine (unhide CCW).mono ?_
          rintro e w9 ⟨g, rfl, _, _, b9⟩
          have HB := hide ((unhide HD).below b9).b
          clear b9
          go_wp2
          go_ret
          exact ⟨rfl, unhide HB⟩

set_option maxHeartbeats 400000 in
theorem Apart_any (a b c : Int) (w : World) (hT : Tab w) (a1 : -9223372036854775808 ≤ a) (a2 : a ≤ 9223372036854775807) (b1 : -9223372036854775808 ≤ b) (b2 : b ≤ 9223372036854775807) :
    Calls Tryd.prog 6 #[.int .i64 a, .int .i64 b, .int .i64 c] w fun e w' => e = .returned (.bool true) ∧ Below w.heap.size w w' := by
  have CP := hide (saysPick_any b 24 w b1 b2 (by omega) (by omega))
  have hp := pickN_lt b 24 (by omega)
  generalize pickN b 24 = p at *
  have C := apart_any a (1 + p) w hT (by omega) (by omega) a1 a2
  rw [show ((1 + p : Nat) : Int) = 1 + (p : Int) by omega] at C
  have CC := hide C
  clear hT C
  go_enter Tryd.func6, Tryd.ntmps6
  go_wp2_with (first | (go_at_call 10; refine (unhide CP).mono ?_; rintro e w1 ⟨rfl, rfl⟩) | (go_at_call 14; refine (unhide CC).mono ?_; rintro e w1 ⟨rfl, hb⟩))
  go_ret
  exact ⟨rfl, by assumption⟩
end Go.Proofs.YtgegkcjllliifabDoor
