/-
  The walk of the law's told: Walk and Black.
-/
import Derived.Test.YtgegkcjllliifabDoorLawTold
namespace Go.Proofs.YtgegkcjllliifabDoor
open Go.RowKit

/-- A call on the program's heap of pair i that hands out a list. -/
theorem LawIs.impList {H : HeapI} {N0 : Nat} {w0 w w' : World} {O : Nat → Nat × Nat} {s : LSt} {i : Nat} {p : PairS} (h : LawIs H N0 w0 w O s) (hp : s.hs[i]? = some p) {ao : Option Addr} {n : Nat} {l : List Int} {B' : List Nat} {m : Mo} {c : Cn} (hl : w'.ownsRow 0 3 1 (.slice ao n n) l.length (ints l)) (hi : H.is w' B' p.a m c) (hin : ∀ k, k ∈ B' → k ∈ p.B ∨ w.heap.size ≤ k) (ht : Touch p.B w w') (hg : ∀ g, ao = some g → w.heap.size ≤ g.block ∧ g.block ∉ B') :
    ∃ O', Loc w O w' O' ∧ LawIs H N0 w0 w' O' (s.setP i { p with B := B', mi := m, c := c }) ∧ Row w' O' (8, 1) 3 1 (.slice ao n n) l.length (ints l) := by
  obtain ⟨hi', rfl⟩ := List.getElem?_eq_some_iff.1 hp
  obtain ⟨q1, q2, q3⟩ := h.ps i hi'
  obtain ⟨O', hO⟩ : ∃ O' : Nat → Nat × Nat, O' = fun k => if k < w.heap.size then O k else if k ∈ B' then (2, i) else (8, 1) := ⟨_, rfl⟩
  have own : ∀ k, k < w.heap.size → O' k = O k := fun k hk => by rw [hO]; exact if_pos hk
  have f : Fr (2, i) w O w' O' := ⟨ht.os, ht.tape, ht.output, ht.size, own, fun k hk hne => ht.block k hk fun e => hne (q2.2 k e)⟩
  refine ⟨O', Loc.of_fr f (by simp), h.setPair f (.inl rfl) hi' _ rfl ⟨q1.fr f (lab_ne (by omega)), ⟨hi, fun k hk => ?_⟩, q3.fr f (lab_ne (by omega))⟩, hl, fun k hk => ?_⟩
  · by_cases c : k < w.heap.size
    · rw [own k c]
      rcases hin k hk with e | e
      · exact q2.2 k e
      · omega
    · rw [hO]; show (if _ then _ else _) = _; rw [if_neg c, if_pos hk]
  · cases ao with
    | none => cases hk
    | some g =>
      have e : g.block = k := by
        rcases hl.2 with ⟨e, _⟩ | ⟨g', cap', cur, e, _⟩
        · cases e
        · simp only [Value.slice.injEq, Option.some.injEq] at e
          rw [e.1] at hk ⊢
          cases hk
          rfl
      obtain ⟨h1, h2⟩ := hg g rfl
      rw [hO]; show (if _ then _ else _) = _
      rw [if_neg (by omega), if_neg (by rw [← e]; exact h2)]

/-- What told keeps while it lists what the list must be. -/
def Lst (H : HeapI) (N0 : Nat) (w0 : World) (s : LSt) (l : List Int) (ao : Option Addr) (bo : Option Addr) (k cap : Nat) (lk : List Int) (w : World) : Prop := ∃ O, LawIs H N0 w0 w O s ∧ Row w O (8, 1) 3 1 (.slice ao l.length l.length) l.length (ints l) ∧ Row w O (8, 2) 3 1 (.slice bo k cap) k (ints lk)
theorem Lst.app {H : HeapI} {N0 : Nat} {w0 w w' : World} {s : LSt} {l : List Int} {ao bo bo' : Option Addr} {k cap cap' : Nat} {lk : List Int} {x : Int} {X : Obj} (h : Lst H N0 w0 s l ao bo k cap lk w) (ho : w'.ownsRow 0 3 1 (.slice bo' (k + 1) cap') (k + 1) (ints lk ++ [.int .i64 x])) (hg : (w.alloc X).grownBy w' (Value.slice bo k cap).ownBlock) (hloc : (Value.slice bo' (k + 1) cap').ownBlock = (Value.slice bo k cap).ownBlock ∨ ∃ g, (Value.slice bo' (k + 1) cap').ownBlock = some g ∧ (w.alloc X).heap.size ≤ g) : Lst H N0 w0 s l ao bo' (k + 1) cap' (lk ++ [x]) w' := by
  obtain ⟨O, h1, h2, h3⟩ := h
  have f := Fr.of_touch (O := O) (lab := (8, 2)) (touch_app hg) (fun k hk => h3.2 k (by simpa using hk))
  rw [ints_append] at ho
  exact ⟨_, h1.loc f rfl, h2.fr f (lab_ne (by omega)), row_app h3 ho hloc⟩
theorem Ok.addL {t : Nat} {s : LSt} (h : Ok (t + 1) s) (v1 v2 a c : Value) (l : List Int) (hl : s.ls.length ≤ t) (h3 : l.length ≤ 3000) : Ok (t + 1) (s.addL v1 v2 a c l) :=
  ⟨h.sync, h.runs, h.words, h.hs, by simp [LSt.addL]; omega, h.value, fun e he => by
    rcases List.mem_append.1 he with x | x
    · exact h.ll e x
    · rw [List.mem_singleton.1 x]; exact h3⟩

set_option maxRecDepth 10000 in
set_option maxHeartbeats 3200000 in
theorem told_walk {H : HeapI} {N0 : Nat} {w0 w : World} {O : Nat → Nat × Nat} {s : LSt} {i t : Nat} {p : PairS} (h : LawIs H N0 w0 w O s) (ok : Ok t s) (ht : t ≤ 1900000) (hp : s.hs[i]? = some p) (a b c : Int) :
    Calls Tryd.prog 54 #[.pointer (some ⟨s.wB, 0, none⟩), .pointer (some ⟨p.pb, 0, none⟩), .agg #[.int .i64 14, .int .i64 a, .int .i64 b, .int .i64 c]] w fun e w' => e = .returned (.bool true) ∧ Next H N0 w0 s t w' := by
  obtain ⟨i0, hi, hz0, hz1, hz2⟩ := info_parts Tryd.infoInt
  obtain ⟨W, O1, eW, h1, bx, zW⟩ := h.boxed 14 a b c
  have EW := hide eW
  have hsync := ok.sync i p hp
  have hrun := ok.runs i p hp
  have hg : Geo p.mr := by rw [← hsync]; exact H.geo (h.pair hp).2.1.1
  have bo := hg.objs
  have CX := hide (H.walk h1.glob (h1.pair hp).2.1.1)
  rw [hsync] at CX
  have OK := hide ok
  have HP := hide hp
  have H1 := hide h1
  obtain ⟨f0, f1⟩ := (h1.pair hp).cells
  rw [← unhide EW] at f0
  unfold opObj at f0
  clear h h1 bx ok hp eW zW hg hsync f1
  go_enter Tryd.func54, Tryd.ntmps54
  go_wp2_with fail
  rw [show w.alloc (.cells #[.int .i64 14, .int .i64 a, .int .i64 b, .int .i64 c] 52) = W from unhide EW]
  refine (unhide CX).mono ?_
  rintro e w3 ⟨ao, rfl, hio, B', k1, k2, k3, k4⟩
  have hlen : (p.mr.objs.map Ob.pos).length = p.mr.objs.length := by simp
  obtain ⟨O3, l3, h3, r3⟩ := (unhide H1).impList (unhide HP) hio k1 k2 k3 k4
  have ok3 : Ok (t + 1) (s.setP i { p with B := B', mi := p.mr, c := p.c }) := (unhide OK).setP rfl (by show p.mr.runs ≤ _ ∧ p.mr.since ≤ _ ∧ p.mr.kept ≤ _; omega)
  have LS0 : Hid (Lst H N0 w0 (s.setP i { p with B := B', mi := p.mr, c := p.c }) (p.mr.objs.map Ob.pos) ao none 0 0 [] w3) := hide ⟨O3, h3, by rw [hlen] at r3 ⊢; exact r3, World.ownsRow_nil _ _ _ _, fun k hk => (by cases hk)⟩
  have OK3 := hide ok3
  have HL := hide hlen
  have LL : Hid (s.ls.length ≤ t) := (unhide OK).ls
  clear f0 hio k1 k2 k3 k4 l3 h3 r3 ok3 CX hlen H1
  go_wp2
  go_loopw [8, 9] (fun mv x wr => ∃ (k : Nat) (bo' : Option Addr) (cap : Nat), k ≤ p.mr.objs.length ∧ x = .int .i64 k ∧ mv = .slice bo' k cap ∧ cap ≤ maxLen ∧ Hid (Lst H N0 w0 (s.setP i { p with B := B', mi := p.mr, c := p.c }) (p.mr.objs.map Ob.pos) ao bo' k cap ((p.mr.objs.map Ob.pos).take k) wr)) (fun _ x _ => 3000 - (intOf x).toNat)
  case atStart => exact ⟨0, none, 0, by omega, rfl, rfl, Nat.zero_le _, LS0⟩
  case round =>
    clear LS0
    obtain ⟨k, bo', cap, hk, rfl, rfl, hcap, LS⟩ := hrel
    have HP1 := hide (setP_at (p' := { p with B := B', mi := p.mr, c := p.c }) (unhide HP))
    obtain ⟨O4, h4, r4, m4⟩ := unhide LS
    obtain ⟨_, gg⟩ := (h4.pair (unhide HP1)).cells
    dsimp only at gg
    have hr4 : RefIs wr p.R p.mr := (h4.pair (unhide HP1)).2.2.1
    have fo := hr4.cells.2.2.2.1
    by_cases hlt : k < p.mr.objs.length
    · obtain ⟨g, cp, hv, hgl, hc1, hc2, o1, o2, o3⟩ := hr4.ob k hlt
      rw [hv] at fo
      unfold maxLen at hc2
      have hpo : (p.mr.objs.map Ob.pos)[k]'(by rw [unhide HL]; exact hlt) = (p.mr.objs[k]).pos := by simp
      have htk : (p.mr.objs.map Ob.pos).take k ++ [(p.mr.objs[k]).pos] = (p.mr.objs.map Ob.pos).take (k + 1) := by
        rw [← hpo, List.take_append_getElem]
      have HTK := hide htk
      have RM := hide m4.1
      clear hr4 hv hpo htk h4 r4 m4
      generalize (p.mr.objs[k]).pos = y at *
      go_wp2_with (at_builtin; refine stop ?_)
      refine hide (wpList_append_at _ rfl _ _ 41 rfl 3 i0 (.int .i64 0) 1 8 Tryd.underlying41 hi hz0 hz1 hz2 rfl (by decide) (.slice bo' k cap) k (ints ((p.mr.objs.map Ob.pos).take k)) rfl ((unhide RM).alloc _) ⟨wr.heap.size, 0, none⟩ 1 1 [.int .i64 y] rfl rfl ?c1 ?c2 (by decide) (by unfold maxLen; omega) (by omega) ?_)
      case c1 =>
        intro j u hj
        match j, hj with
        | 0, hj => simp at hj; subst hj; exact cell_of_row (wr.alloc (.cells #[.int .i64 y] 3)) wr.heap.size 0 _ _ _ (heap_alloc_new wr _)
      case c2 => intro u hu; simp at hu; subst hu; rfl
      intro v' w5 ho hgr hloc
      obtain ⟨ao', cap', hv', hd1, hd2⟩ := ownsRow_shape ho
      rw [hv'] at ho hloc ⊢
      have hls := (unhide LS).app ho hgr hloc
      rw [unhide HTK] at hls
      have LS5 := hide hls
      clear hls ho hgr hloc hv' gg fo o1 o2 o3 hgl LS RM
      go_wp2
      go_roundw
      case rel => exact ⟨k + 1, ao', cap', by omega, by go_num, rfl, hd2, LS5⟩
      case measure => simp [intOf]; omega
    · obtain rfl : k = p.mr.objs.length := by omega
      have e1 : (p.mr.objs.map Ob.pos).take p.mr.objs.length = p.mr.objs.map Ob.pos := by rw [← unhide HL, List.take_length]
      rw [e1] at m4
      obtain ⟨a5, c5, hv5, _, _⟩ := ownsRow_shape hr4.ho
      rw [hv5] at fo
      have m5 : Row wr O4 (8, 2) 3 1 (.slice bo' (p.mr.objs.map Ob.pos).length cap) (p.mr.objs.map Ob.pos).length (ints (p.mr.objs.map Ob.pos)) := by rw [unhide HL]; exact m4
      have CL := list_any h4 (p.mr.objs.map Ob.pos) ao bo' cap r4 m5 (by rw [unhide HL]; omega) (by have := unhide LL; show s.ls.length ≤ _; omega)
      rw [unhide HL] at CL
      have CCL := hide CL
      have hwb : (s.setP i { p with B := B', mi := p.mr, c := p.c }).wB = s.wB := rfl
      rw [hwb] at CCL
      clear e1 m4 m5 r4 h4 hr4 hv5 CL hwb LS
      go_wp2_with fail
      refine (unhide CCL).mono ?_
      rintro e w6 ⟨rfl, v1, v2, c6, O6, h6⟩
      have HF : Hid (Next H N0 w0 s t w6) := hide (by refine ⟨_, O6, ?_, h6, (unhide OK3).addL _ _ _ _ _ (unhide LL) (by rw [unhide HL]; omega)⟩; rfl)
      clear h6 CCL
      go_wp2
      go_ret
      exact ⟨rfl, unhide HF⟩

/-- The black pages among the first k. -/
def blkTo (bl : List Bool) (k : Nat) : List Int := ((List.range k).filter fun k => bl.getD k false).map fun (k : Nat) => (k : Int)
theorem blkTo_succ (bl : List Bool) (k : Nat) : blkTo bl (k + 1) = blkTo bl k ++ (if bl.getD k false then [(k : Int)] else []) := by
  unfold blkTo
  rw [List.range_succ, List.filter_append, List.map_append]
  congr 1
  by_cases c : bl.getD k false = true
  · rw [if_pos c]
    have : List.filter (fun k => bl.getD k false) [k] = [k] := List.filter_cons_of_pos (p := fun k => bl.getD k false) c
    rw [this]; rfl
  · rw [if_neg c]
    have : List.filter (fun k => bl.getD k false) [k] = [] := List.filter_cons_of_neg (p := fun k => bl.getD k false) c
    rw [this]; rfl
theorem blkTo_length (bl : List Bool) (k : Nat) : (blkTo bl k).length ≤ k := by
  unfold blkTo
  rw [List.length_map]
  exact Nat.le_trans (List.length_filter_le _ _) (by simp)

set_option maxRecDepth 10000 in
set_option maxHeartbeats 3200000 in
theorem told_black {H : HeapI} {N0 : Nat} {w0 w : World} {O : Nat → Nat × Nat} {s : LSt} {i t : Nat} {p : PairS} (h : LawIs H N0 w0 w O s) (ok : Ok t s) (ht : t ≤ 1900000) (hp : s.hs[i]? = some p) (a b c : Int) :
    Calls Tryd.prog 54 #[.pointer (some ⟨s.wB, 0, none⟩), .pointer (some ⟨p.pb, 0, none⟩), .agg #[.int .i64 15, .int .i64 a, .int .i64 b, .int .i64 c]] w fun e w' => e = .returned (.bool true) ∧ Next H N0 w0 s t w' := by
  obtain ⟨i0, hi, hz0, hz1, hz2⟩ := info_parts Tryd.infoInt
  obtain ⟨W, O1, eW, h1, bx, zW⟩ := h.boxed 15 a b c
  have EW := hide eW
  have hsync := ok.sync i p hp
  have hrun := ok.runs i p hp
  have hg : Geo p.mr := by rw [← hsync]; exact H.geo (h.pair hp).2.1.1
  have bp := hg.p2
  have CX := hide (H.black h1.glob (h1.pair hp).2.1.1)
  rw [hsync] at CX
  have OK := hide ok
  have HP := hide hp
  have H1 := hide h1
  have hbl : blackList p.mr.black = blkTo p.mr.black p.mr.pages := by
    have := ((h1.pair hp).2.2.1).blackLen
    unfold blackList blkTo
    rw [this]
  rw [hbl] at CX
  obtain ⟨f0, f1⟩ := (h1.pair hp).cells
  rw [← unhide EW] at f0
  unfold opObj at f0
  clear h h1 bx ok hp eW zW hg hsync f1 hbl
  go_enter Tryd.func54, Tryd.ntmps54
  go_wp2_with fail
  rw [show w.alloc (.cells #[.int .i64 15, .int .i64 a, .int .i64 b, .int .i64 c] 52) = W from unhide EW]
  refine (unhide CX).mono ?_
  rintro e w3 ⟨ao, rfl, hio, B', k1, k2, k3, k4⟩
  obtain ⟨O3, l3, h3, r3⟩ := (unhide H1).impList (unhide HP) hio k1 k2 k3 k4
  have ok3 : Ok (t + 1) (s.setP i { p with B := B', mi := p.mr, c := p.c }) := (unhide OK).setP rfl (by show p.mr.runs ≤ _ ∧ p.mr.since ≤ _ ∧ p.mr.kept ≤ _; omega)
  have LS0 : Hid (Lst H N0 w0 (s.setP i { p with B := B', mi := p.mr, c := p.c }) (blkTo p.mr.black p.mr.pages) ao none (blkTo p.mr.black 0).length 0 (blkTo p.mr.black 0) w3) := hide ⟨O3, h3, r3, World.ownsRow_nil _ _ _ _, fun k hk => (by cases hk)⟩
  have OK3 := hide ok3
  have LL : Hid (s.ls.length ≤ t) := (unhide OK).ls
  clear f0 hio k1 k2 k3 k4 l3 h3 r3 ok3 CX H1
  go_wp2
  go_loopw [11, 12] (fun mv x wr => ∃ (k : Nat) (bo' : Option Addr) (cap : Nat), k ≤ p.mr.pages ∧ x = .int .i64 k ∧ mv = .slice bo' (blkTo p.mr.black k).length cap ∧ cap ≤ maxLen ∧ Hid (Lst H N0 w0 (s.setP i { p with B := B', mi := p.mr, c := p.c }) (blkTo p.mr.black p.mr.pages) ao bo' (blkTo p.mr.black k).length cap (blkTo p.mr.black k) wr)) (fun _ x _ => 100 - (intOf x).toNat)
  case atStart => exact ⟨0, none, 0, by omega, rfl, rfl, Nat.zero_le _, LS0⟩
  case round =>
    clear LS0
    obtain ⟨k, bo', cap, hk, rfl, rfl, hcap, LS⟩ := hrel
    have HP1 := hide (setP_at (p' := { p with B := B', mi := p.mr, c := p.c }) (unhide HP))
    obtain ⟨O4, h4, r4, m4⟩ := unhide LS
    obtain ⟨_, gg⟩ := (h4.pair (unhide HP1)).cells
    dsimp only at gg
    have hr4 : RefIs wr p.R p.mr := (h4.pair (unhide HP1)).2.2.1
    have fpg := hr4.cells.1
    have fb := hr4.cells.2.2.2.2.2.1
    have hbk := blkTo_length p.mr.black k
    by_cases hlt : k < p.mr.pages
    · obtain ⟨g, cp, hv, hgl, hc1, hc2, o1⟩ := hr4.bl k hlt
      rw [hv] at fb
      unfold maxLen at hc2
      have hsc := blkTo_succ p.mr.black k
      have RM := hide m4.1
      have HSC := hide hsc
      clear hr4 hv hsc h4 r4 m4
      generalize hbb : p.mr.black.getD k false = bb at *
      clear hbb
      cases bb
      · have e1 : Hid (blkTo p.mr.black (k + 1) = blkTo p.mr.black k) := hide (by have := unhide HSC; simpa using this)
        clear HSC
        go_wp2
        go_roundw
        case rel => exact ⟨k + 1, bo', cap, by omega, by go_num, by rw [unhide e1], hcap, by rw [unhide e1]; exact LS⟩
        case measure => simp [intOf]; omega
      · have e1 : Hid (blkTo p.mr.black (k + 1) = blkTo p.mr.black k ++ [(k : Int)]) := hide (by have := unhide HSC; simpa using this)
        clear HSC
        go_wp2_with (at_builtin; refine stop ?_)
        refine hide (wpList_append_at _ rfl _ _ 41 rfl 3 i0 (.int .i64 0) 1 8 Tryd.underlying41 hi hz0 hz1 hz2 rfl (by decide) (.slice bo' (blkTo p.mr.black k).length cap) (blkTo p.mr.black k).length (ints (blkTo p.mr.black k)) rfl ((unhide RM).alloc _) ⟨wr.heap.size, 0, none⟩ 1 1 [.int .i64 (k : Int)] rfl rfl ?c1 ?c2 (by decide) (by unfold maxLen; omega) (by omega) ?_)
        case c1 =>
          intro j u hj
          match j, hj with
          | 0, hj => simp at hj; subst hj; exact cell_of_row (wr.alloc (.cells #[.int .i64 (k : Int)] 3)) wr.heap.size 0 _ _ _ (heap_alloc_new wr _)
        case c2 => intro u hu; simp at hu; subst hu; rfl
        intro v' w5 ho hgr hloc
        obtain ⟨ao', cap', hv', hd1, hd2⟩ := ownsRow_shape ho
        rw [hv'] at ho hloc ⊢
        have hls := (unhide LS).app ho hgr hloc
        have hl2 : (blkTo p.mr.black (k + 1)).length = (blkTo p.mr.black k).length + 1 := by rw [unhide e1, List.length_append]; rfl
        rw [← unhide e1, ← hl2] at hls
        have LS5 := hide hls
        have HL2 := hide hl2
        clear hls ho hgr hloc hv' gg fb fpg o1 hgl LS RM hl2
        go_wp2
        go_roundw
        case rel => exact ⟨k + 1, ao', cap', by omega, by go_num, by rw [unhide HL2], hd2, LS5⟩
        case measure => simp [intOf]; omega
    · obtain rfl : k = p.mr.pages := by omega
      have CL := hide (list_any h4 (blkTo p.mr.black p.mr.pages) ao bo' cap r4 m4 (by omega) (by have := unhide LL; show s.ls.length ≤ _; omega))
      have hwb : (s.setP i { p with B := B', mi := p.mr, c := p.c }).wB = s.wB := rfl
      rw [hwb] at CL
      clear m4 r4 h4 hr4 hwb LS
      go_wp2_with fail
      refine (unhide CL).mono ?_
      rintro e w6 ⟨rfl, v1, v2, c6, O6, h6⟩
      have HF : Hid (Next H N0 w0 s t w6) := hide (by refine ⟨_, O6, ?_, h6, (unhide OK3).addL _ _ _ _ _ (unhide LL) (by have := blkTo_length p.mr.black p.mr.pages; omega)⟩; rfl)
      clear h6 CL
      go_wp2
      go_ret
      exact ⟨rfl, unhide HF⟩
end Go.Proofs.YtgegkcjllliifabDoor
