/-
  The walk of the reference heap's Collect.
-/
import Derived.Test.YtgegkcjllliifabDoorRefReach
namespace Go.Proofs.YtgegkcjllliifabDoor
open Go.RowKit

/-- Those of a list that are marked. -/
def keepG {α : Type} : List α → List Bool → List α
  | x :: xs, b :: bs => if b then x :: keepG xs bs else keepG xs bs
  | _, _ => []
theorem keepG_append {α : Type} : ∀ (a : List α) (x : List Bool) (b : List α) (y : List Bool), x.length = a.length → keepG (a ++ b) (x ++ y) = keepG a x ++ keepG b y
  | [], [], _, _, _ => by simp [keepG]
  | [], _ :: _, _, _, h => absurd h (by simp)
  | _ :: _, [], _, _, h => absurd h (by simp)
  | a :: ar, x :: xs, b, y, h => by
    simp only [List.cons_append, keepG, keepG_append ar xs b y (by simpa using h)]
    split <;> rfl
theorem keepG_take {α : Type} (l : List α) (on : List Bool) (k : Nat) (hl : on.length = l.length) (hk : k < l.length) : keepG (l.take (k + 1)) (on.take (k + 1)) = keepG (l.take k) (on.take k) ++ (if on.getD k false then [l[k]] else []) := by
  rw [List.take_succ_eq_append_getElem hk, List.take_succ_eq_append_getElem (by omega), keepG_append _ _ _ _ (by simp [hl])]
  congr 1
  have : on.getD k false = on[k]'(by omega) := by rw [List.getD_eq_getElem?_getD, List.getElem?_eq_getElem (by omega)]; rfl
  rw [this]
  simp [keepG]
theorem keepG_length {α β : Type} : ∀ (a : List α) (b : List β) (x : List Bool), a.length = b.length → (keepG a x).length = (keepG b x).length
  | [], [], x, _ => by cases x <;> rfl
  | [], _ :: _, _, h => absurd h (by simp)
  | _ :: _, [], _, h => absurd h (by simp)
  | a :: ar, b :: bs, [], _ => rfl
  | a :: ar, b :: bs, x :: xs, h => by
    have := keepG_length ar bs xs (by simpa using h)
    simp only [keepG]
    split
    · simp [this]
    · exact this
theorem keepG_sublist {α : Type} : ∀ (a : List α) (x : List Bool), (keepG a x).Sublist a
  | [], x => by cases x <;> exact List.nil_sublist _
  | a :: ar, [] => List.nil_sublist _
  | a :: ar, x :: xs => by
    simp only [keepG]
    split
    · exact (keepG_sublist ar xs).cons_cons a
    · exact (keepG_sublist ar xs).cons a
/-- What the kept blocks hold. -/
theorem keepG_holds (P : Ob → Nat → Prop) : ∀ (os : List Ob) (bs : List Nat) (x : List Bool), bs.length = os.length → (∀ i (h : i < os.length), P (os[i]) (bs.getD i 0)) → ∀ i (h : i < (keepG os x).length), P ((keepG os x)[i]) ((keepG bs x).getD i 0)
  | [], _, x, _, _, i, h => by cases x <;> simp [keepG] at h
  | _ :: _, [], _, hl, _, _, _ => absurd hl (by simp)
  | o :: os, b :: bs, [], _, _, i, h => by simp [keepG] at h
  | o :: os, b :: bs, x :: xs, hl, hP, i, h => by
    have ih := keepG_holds P os bs xs (by simpa using hl) (fun i h => by have := hP (i + 1) (by simpa using h); simpa using this)
    cases x
    · simp only [keepG, if_neg (show ¬ (false = true) by simp)] at h ⊢
      exact ih i h
    · simp only [keepG, if_true] at h ⊢
      cases i with
      | zero => have := hP 0 (by simp); simpa using this
      | succ i => have := ih i (by simpa using h); simpa using this

def Mo.blackWords (m : Mo) (ws : List Int) (bl : List Bool) : List Bool := ws.foldl (fun b x => m.blacken x b) bl
theorem blackWords_length (m : Mo) (ws : List Int) (bl : List Bool) : (m.blackWords ws bl).length = bl.length := by
  unfold Mo.blackWords
  induction ws generalizing bl with
  | nil => rfl
  | cons x xs ih => rw [List.foldl_cons, ih, blacken_length]
theorem blackWords_take (m : Mo) (ws : List Int) (bl : List Bool) (k : Nat) (hk : k < ws.length) : m.blackWords (ws.take (k + 1)) bl = m.blacken (ws[k]) (m.blackWords (ws.take k) bl) := by
  unfold Mo.blackWords
  rw [List.take_succ_eq_append_getElem hk, List.foldl_append]
  rfl
/-- What the kept ones of the first k objects blacken. -/
def Mo.blackTo (m : Mo) (on : List Bool) (bl : List Bool) : Nat → List Bool
  | 0 => bl
  | k + 1 => match m.objs[k]? with
    | some o => if on.getD k false && !o.atomic then m.blackWords o.ws (m.blackTo on bl k) else m.blackTo on bl k
    | none => m.blackTo on bl k
theorem blackTo_succ (m : Mo) (on bl : List Bool) (k : Nat) (hk : k < m.objs.length) : m.blackTo on bl (k + 1) = if on.getD k false && !(m.objs[k]).atomic then m.blackWords (m.objs[k]).ws (m.blackTo on bl k) else m.blackTo on bl k := by
  rw [Mo.blackTo, List.getElem?_eq_getElem hk]
theorem blackTo_length (m : Mo) (on bl : List Bool) (k : Nat) : (m.blackTo on bl k).length = bl.length := by
  induction k with
  | zero => rfl
  | succ k ih =>
    rw [Mo.blackTo]
    split
    · split
      · rw [blackWords_length]; exact ih
      · exact ih
    · exact ih
/-- The heap behind a collection that keeps what is marked. -/
def Mo.collect (m : Mo) (on : List Bool) : Mo :=
  { m with objs := keepG m.objs on, black := m.blackTo on (m.blackWords m.roots (List.replicate m.pages false)) m.objs.length, since := 0, runs := m.runs + 1, kept := (keepG m.objs on).length }

/-- A collection under way: nothing old has turned; the marks; the black pages; what is kept so far. -/
structure Col (w wr : World) (gb : Nat) (on bl : List Bool) (v : Value) (n : Nat) (xs : List Value) : Prop where
  below : Below w.heap.size w wr
  g1 : w.heap.size < gb
  bon : BoolsAt wr w.heap.size on
  bbl : BoolsAt wr gb bl
  own : wr.ownsRow 0 89 3 v n xs
  v1 : v.ownBlock = none ∨ ∃ g, v.ownBlock = some g ∧ gb < g

theorem Col.names {w wr w' : World} {gb n : Nat} {on bl bl' : List Bool} {v : Value} {xs : List Value} (c : Col w wr gb on bl v n xs) (hb : BoolsAt w' gb bl') (t : Touch [gb] wr w') : Col w w' gb on bl' v n xs := by
  have h1 := c.g1
  have h2 := c.below.size
  have h3 := c.bon.lt
  have keep : ∀ k, k < wr.heap.size → k ≠ gb → w'.heap[k]? = wr.heap[k]? := fun k hk hne => t.block k hk (by simpa using hne)
  refine ⟨c.below.trans ⟨t.os, t.tape, t.output, t.size, fun k hk => keep k (by omega) (by omega)⟩, c.g1, ?_, hb, ownsRow_agree c.own fun k hk => keep k (c.own.lt k hk).2 ?_, c.v1⟩
  · unfold BoolsAt; rw [keep _ h3 (by omega)]; exact c.bon
  · rcases c.v1 with e | ⟨g, e1, e2⟩
    · rw [e] at hk; cases hk
    · rw [e1] at hk; cases hk; omega
theorem Col.step {w wr w' : World} {gb n : Nat} {on bl : List Bool} {v : Value} {xs : List Value} (c : Col w wr gb on bl v n xs) (hB : Below wr.heap.size wr w') : Col w w' gb on bl v n xs :=
  ⟨c.below.trans (hB.mono c.below.size), c.g1, c.bon.below hB, c.bbl.below hB, ownsRow_agree c.own fun k hk => hB.block k (c.own.lt k hk).2, c.v1⟩
theorem Col.grow {w wr w' : World} {gb n n' : Nat} {on bl : List Bool} {v v' : Value} {xs xs' : List Value} (c : Col w wr gb on bl v n xs) (ho : w'.ownsRow 0 89 3 v' n' xs') (hg : wr.grownBy w' v.ownBlock) (hl : v'.ownBlock = v.ownBlock ∨ ∃ g, v'.ownBlock = some g ∧ wr.heap.size ≤ g) : Col w w' gb on bl v' n' xs' := by
  have h1 := c.g1
  have h2 := c.below.size
  have h3 := c.bon.lt
  have h4 := c.bbl.lt
  have keep : ∀ k, k < wr.heap.size → k ≤ gb → w'.heap[k]? = wr.heap[k]? := fun k hk hne => hg.block k hk fun e => by
    rcases c.v1 with e' | ⟨g, e1, e2⟩
    · rw [e'] at e; cases e
    · rw [e1] at e; cases e; omega
  refine ⟨c.below.trans ⟨hg.os, hg.tape, hg.output, hg.size, fun k hk => keep k (by omega) (by omega)⟩, c.g1, ?_, ?_, ho, ?_⟩
  · unfold BoolsAt; rw [keep _ h3 (by omega)]; exact c.bon
  · unfold BoolsAt; rw [keep _ h4 (Nat.le_refl _)]; exact c.bbl
  · rcases hl with e | ⟨g, e1, e2⟩
    · rw [e]; exact c.v1
    · exact .inr ⟨g, e1, by omega⟩

theorem RefIs.setBlackIs {w : World} {R : RL} {m : Mo} (h : RefIs w R m) (gb : Nat) (bl : List Bool) (hb : BoolsAt w gb bl) (hl : bl.length = m.pages) (hp : m.pages ≤ 48) (hn : gb ∉ R.blocks) :
    RefIs (w.setCell ⟨R.r, 5, none⟩ (.slice (some ⟨gb, 0, none⟩) m.pages m.pages)) { R with vb := .slice (some ⟨gb, 0, none⟩) m.pages m.pages } { m with black := bl } := by
  obtain ⟨a1, a2, a3, a4, a5⟩ := h.others 5 (.slice (some ⟨gb, 0, none⟩) m.pages m.pages)
  simp only [RL.blocks, List.mem_cons, List.mem_append, Option.mem_toList, not_or] at hn
  obtain ⟨q1, q2, q3, q4, q5⟩ := hn
  have hb' : BoolsAt (w.setCell ⟨R.r, 5, none⟩ (.slice (some ⟨gb, 0, none⟩) m.pages m.pages)) gb bl := by unfold BoolsAt; rw [a1 gb q1]; exact hb
  refine ⟨h.field rfl 5 _, a2, a3, hb'.owns hl (by omega), a5, h.len, ?_⟩
  have hnd := h.nd
  simp only [RL.blocks, List.nodup_cons, List.mem_append, Option.mem_toList, not_or, List.nodup_append, Value.ownBlock, Option.toList_some, List.mem_singleton] at hnd ⊢
  obtain ⟨⟨n1, n2, n3, n4⟩, a1', ⟨b1, ⟨c1, d1, cd⟩, bc⟩, ab⟩ := hnd
  refine ⟨⟨n1, n2, fun e => q1 (by simpa using e.symm), n4⟩, a1', ⟨b1, ⟨by simp, d1, fun x hx y hy e => q5 (by have : x = gb := (by simpa using hx); rw [← this, e]; exact hy)⟩, ?_⟩, ?_⟩
  · intro x hx y hy e
    rcases hy with hy | hy
    · exact q3 (by have : y = gb := (by simpa using hy); rw [← this, ← e]; exact hx)
    · exact bc x hx y (.inr hy) e
  · intro x hx y hy e
    rcases hy with hy | hy | hy
    · exact ab x hx y (.inl hy) e
    · exact q2 (by have : y = gb := (by simpa using hy); rw [← this, ← e]; exact hx)
    · exact ab x hx y (.inr (.inr hy)) e

theorem collect_end {w wr : World} {R : RL} {m : Mo} (h : RefIs w R m) (bd : m.bd) (gb : Nat) (on bl : List Bool) (v : Value) (hbl : bl.length = m.pages)
    (c : Col w wr gb on bl v (keepG m.objs on).length (obCells (keepG m.objs on) (keepG R.wb on))) :
    RefTo w R { m with objs := keepG m.objs on, black := bl, since := 0, runs := m.runs + 1, kept := (keepG m.objs on).length }
      (((((wr.setCell ⟨R.r, 3, none⟩ v).setCell ⟨R.r, 5, none⟩ (.slice (some ⟨gb, 0, none⟩) m.pages m.pages)).setCell ⟨R.r, 7, none⟩ (.int .i64 (m.runs + 1 : Nat))).setCell ⟨R.r, 6, none⟩ (.int .i64 (0 : Nat))).setCell ⟨R.r, 8, none⟩ (.int .i64 ((keepG m.objs on).length : Nat))) := by
  have hl := h.len
  have hr := h.below c.below
  have hnew : ∀ k, v.ownBlock = some k → gb < k := by
    intro k hk
    rcases c.v1 with e | ⟨g, e1, e2⟩
    · rw [e] at hk; cases hk
    · rw [e1] at hk; cases hk; exact e2
  have hg1 := c.g1
  have hsub := keepG_sublist R.wb on
  have hrlt : R.r < w.heap.size := h.lt _ (by simp [RL.blocks])
  have h3 := h.setObjsIs (w1 := wr) v (keepG m.objs on) (keepG R.wb on) (fun k hk _ => c.below.block k hk) c.own
    (keepG_holds (fun o b => wr.heap[b]? = some (.cells (ints o.ws).toArray 3 (0, 0))) m.objs R.wb on hl (fun i hi => hr.hw i hi))
    (keepG_length R.wb m.objs on hl) (.inr (c.v1.elim .inl fun ⟨g, e1, e2⟩ => .inr ⟨g, e1, by omega⟩)) (h.parts.2.2.2.2.sublist hsub) (fun k hk => .inl (hsub.subset hk))
    (fun k hk hm => by have := hnew k hk; have := h.lt k (by have := hsub.subset hm; simp [RL.blocks, this]); omega)
  have hold : ∀ k, k ∈ R.blocks → k < w.heap.size := h.lt
  have hb3 : BoolsAt (wr.setCell ⟨R.r, 3, none⟩ v) gb bl := by
    unfold BoolsAt
    rw [heap_setCell_other wr ⟨R.r, 3, none⟩ gb v (by show gb ≠ R.r; omega)]
    exact c.bbl
  have h5 := h3.setBlackIs gb bl hb3 hbl bd.p2 (by
    simp only [RL.blocks, List.mem_cons, List.mem_append, Option.mem_toList, not_or]
    refine ⟨by show gb ≠ R.r; omega, fun e => by have := hnew gb e; omega, fun e => ?_, fun e => ?_, fun e => ?_⟩
    · have := hold gb (by simp [RL.blocks, e]); omega
    · have := hold gb (by simp [RL.blocks, e]); omega
    · have := hold gb (by have := hsub.subset e; simp [RL.blocks, this]); omega)
  have h8 := ((h5.setRuns (m.runs + 1)).setSince 0).setKept (keepG m.objs on).length
  refine ⟨{ R with vo := v, wb := keepG R.wb on, vb := .slice (some ⟨gb, 0, none⟩) m.pages m.pages }, rfl, h8, ?_, ?_⟩
  · intro k hk
    simp only [RL.blocks, List.mem_cons, List.mem_append, Option.mem_toList] at hk ⊢
    rcases hk with hk | hk | hk | hk | hk
    · exact .inl (.inl hk)
    · exact .inr (by have := hnew k hk; omega)
    · exact .inl (.inr (.inr (.inl hk)))
    · have e : some gb = some k := hk
      cases e; exact .inr (by omega)
    · exact .inl (.inr (.inr (.inr (.inr (hsub.subset hk)))))
  · have hin : R.r ∈ R.blocks := by simp [RL.blocks]
    exact (((((Touch.of_below c.below).set _ _ _ (.inl hin)).set _ _ _ (.inl hin)).set _ _ _ (.inl hin)).set _ _ _ (.inl hin)).set _ _ _ (.inl hin)
set_option maxRecDepth 10000 in
set_option maxHeartbeats 4000000 in
set_option maxRecDepth 100000 in
theorem collect_any (R : RL) (m : Mo) (w : World) (h : RefIs w R m) (bd : m.bd) :
    Calls Tryd.prog 80 #[.pointer (some ⟨R.r, 0, none⟩)] w fun e w' => e = .returned (.tuple #[]) ∧ ∃ on, IsReach m on ∧ RefTo w R (m.collect on) w' := by
  have bo := bd.objs
  have br := bd.roots
  have b2 := bd.p2
  have bru := bd.runs
  have BD := hide bd
  have HH := hide h
  have C := hide (reach_any R m w h bd)
  have CN : Hid (∀ w1 x (gb : Nat) (bl : List Bool), Below w.heap.size w w1 → BoolsAt w1 gb bl → bl.length = m.pages → Calls Tryd.prog 91 #[.pointer (some ⟨R.r, 0, none⟩), .int .i64 x, .slice (some ⟨gb, 0, none⟩) m.pages m.pages] w1 fun e w' => e = .returned (.tuple #[]) ∧ BoolsAt w' gb (m.blacken x bl) ∧ Touch [gb] w1 w') :=
    fun w1 x gb bl hb h1 h2 => names_any R m x gb bl w1 (h.below hb) bd h1 h2
  have mk := mkBools m.pages (by omega)
  obtain ⟨i0, zi, hz0, hz1, hz2⟩ := info_parts Tryd.infoObj
  have HL := hide h.len
  clear h bd
  go_enter Tryd.func80, Tryd.ntmps80
  go_wp2_with fail
  refine (unhide C).mono ?_
  rintro e w1 ⟨on, hre, rfl, hon, hb1⟩
  have HRE := hide hre
  have hl := hre.len
  have HLo := hide hl
  have HON := hide hon
  have hs1 := hon.lt
  have fp := ((unhide HH).below hb1).cells.1
  clear hre hon hl
  go_wp2
  clear fp mk
  have HC0 : Hid (Col w (w1.alloc (boolRow m.pages)) w1.heap.size on (m.blackWords (m.roots.take 0) (List.replicate m.pages false)) (.slice none 0 0) 0 []) :=
    ⟨hb1.alloc hb1.size _, hs1, (unhide HON).below ((Below.refl _ _).alloc (Nat.le_refl _) _), BoolsAt.made w1 _, World.ownsRow_nil _ _ _ _, .inl rfl⟩
  generalize w1.heap.size = gb at HC0 ⊢
  clear hs1 hb1 HON
  go_loopw [4] (fun i wr => ∃ k : Nat, k ≤ m.roots.length ∧ i = .int .i64 k ∧ Hid (Col w wr gb on (m.blackWords (m.roots.take k) (List.replicate m.pages false)) (.slice none 0 0) 0 [])) (fun i _ => m.roots.length - (intOf i).toNat)
  case atStart => exact ⟨0, by omega, rfl, HC0⟩
  case round =>
    clear HC0
    obtain ⟨k, hk, rfl, HC⟩ := hrel
    have H1 := hide ((unhide HH).below (unhide HC).below)
    by_cases hlt : k < m.roots.length
    · obtain ⟨g, cap', hv, hg, hd1, hd2, c0⟩ := (unhide H1).root k hlt
      have fr := (unhide H1).cells.2.2.2.2.1
      rw [hv] at fr
      unfold maxLen at hd2
      have C1 := hide (unhide CN wr (m.roots[k]) gb _ (unhide HC).below (unhide HC).bbl (by rw [blackWords_length]; simp))
      have HS := hide (blackWords_take m m.roots (List.replicate m.pages false) k hlt)
      generalize m.roots[k] = x at c0 C1 HS
      clear hv
      go_wp2_with (go_at_call 91; refine (unhide C1).mono ?_; rintro e w2 ⟨rfl, hbl, ht⟩; have HC2 := hide ((unhide HC).names hbl ht); clear hbl ht)
      go_roundw
      case rel => first | exact ⟨k + 1, by omega, by go_num, hide (by rw [unhide HS]; exact unhide HC2)⟩ | ((repeat apply Exists.intro); exact ⟨⟨k + 1, by omega, by go_num, hide (by rw [unhide HS]; exact unhide HC2)⟩, rfl⟩)
      case measure => simp [intOf]; omega
    · obtain rfl : k = m.roots.length := by omega
      obtain ⟨ao', cap', hv, hd1, hd2⟩ := ownsRow_shape (unhide H1).hrt
      have fr := (unhide H1).cells.2.2.2.2.1
      rw [hv] at fr
      have HC0 : Hid (Col w wr gb on (m.blackTo on (m.blackWords m.roots (List.replicate m.pages false)) 0) (.slice none 0 0) 0 []) := by
        have := unhide HC
        rw [List.take_length] at this
        exact this
      clear hv HC
      generalize hbb : m.blackWords m.roots (List.replicate m.pages false) = bl0 at HC0
      have HBL : Hid (bl0.length = m.pages) := by rw [← hbb, blackWords_length]; exact List.length_replicate
      have HBB := hide hbb
      clear hbb
      go_wp2
      clear fr hd1 hd2 H1
      go_loopw [5, 6] (fun v i wr => ∃ k : Nat, k ≤ m.objs.length ∧ i = .int .i64 k ∧ Hid (Col w wr gb on (m.blackTo on bl0 k) v (keepG (m.objs.take k) (on.take k)).length (obCells (keepG (m.objs.take k) (on.take k)) (keepG (R.wb.take k) (on.take k))))) (fun _ i _ => m.objs.length - (intOf i).toNat)
      case atStart => exact ⟨0, by omega, rfl, HC0⟩
      case round =>
        clear HC0
        obtain ⟨k, hk, rfl, HC⟩ := hrel
        have H1 := hide ((unhide HH).below (unhide HC).below)
        by_cases hlt : k < m.objs.length
        · obtain ⟨g, cap', hv, hg, hd1, hd2, o1, o2, o3⟩ := (unhide H1).ob k hlt
          have fo := (unhide H1).cells.2.2.2.1
          rw [hv] at fo
          unfold maxLen at hd2
          have cb := (unhide HC).bon.cell k (by rw [unhide HLo]; exact hlt)
          have HK := hide (keepG_take m.objs on k (unhide HLo) hlt)
          have HK2 := hide (keepG_take R.wb on k (by rw [unhide HLo, unhide HL]) (by rw [unhide HL]; exact hlt))
          have HT := hide (blackTo_succ m on bl0 k hlt)
          generalize on.getD k false = c at cb HK HK2 HT
          clear hv
          cases c
          · have HC2 : Hid (Col w wr gb on (m.blackTo on bl0 (k + 1)) u5 (keepG (m.objs.take (k + 1)) (on.take (k + 1))).length (obCells (keepG (m.objs.take (k + 1)) (on.take (k + 1))) (keepG (R.wb.take (k + 1)) (on.take (k + 1))))) := by
              have e1 := unhide HK
              have e2 := unhide HK2
              have e3 := unhide HT
              simp only [Bool.false_and, Bool.false_eq_true, if_false, List.append_nil] at e1 e2 e3
              rw [e1, e2, e3]
              exact HC
            go_wp2
            go_roundw
            case rel => first | exact ⟨k + 1, by omega, by go_num, HC2⟩ | ((repeat apply Exists.intro); exact ⟨⟨k + 1, by omega, by go_num, HC2⟩, rfl⟩)
            case measure => simp [intOf]; omega
          · have HBw := hide ((unhide BD).pos k hlt).2.2
            have HWd : Hid (∀ w2, RefIs w2 R m → ∀ q (hq : q < (m.objs[k]).ws.length), w2.cell? ⟨R.wAt k, q, none⟩ = some (.int .i64 ((m.objs[k]).ws[q]))) := fun w2 h2 q hq => h2.word k q hlt hq
            have HOb : Hid (∀ w2, RefIs w2 R m → ∃ g cap, R.vo = .slice (some ⟨g, 0, none⟩) m.objs.length cap ∧ m.objs.length ≤ cap ∧ cap ≤ 9223372036854775807 ∧ w2.cell? ⟨g, k * 3 + 1, none⟩ = some (.bool (m.objs[k]).atomic) ∧ w2.cell? ⟨g, k * 3 + 2, none⟩ = some (.slice (some ⟨R.wAt k, 0, none⟩) (m.objs[k]).ws.length (m.objs[k]).ws.length)) := by
              intro w2 h2
              obtain ⟨g, cap', hv, hg, hd1, hd2, _, o2, o3⟩ := h2.ob k hlt
              exact ⟨g, cap', hv, hd1, by unfold maxLen at hd2; omega, o2, o3⟩
            have eW : R.wb[k]'(by rw [unhide HL]; exact hlt) = R.wAt k := by unfold RL.wAt; rw [List.getD_eq_getElem?_getD, List.getElem?_eq_getElem (by rw [unhide HL]; exact hlt)]; rfl
            rw [eW] at HK2
            have hlk : (keepG (R.wb.take k) (on.take k)).length = (keepG (m.objs.take k) (on.take k)).length := keepG_length _ _ _ (by rw [List.length_take, List.length_take, unhide HL])
            have HK3 : Hid (obCells (keepG (m.objs.take (k + 1)) (on.take (k + 1))) (keepG (R.wb.take (k + 1)) (on.take (k + 1))) = obCells (keepG (m.objs.take k) (on.take k)) (keepG (R.wb.take k) (on.take k)) ++ [.int .i64 (m.objs[k]).pos, .bool (m.objs[k]).atomic, .slice (some ⟨R.wAt k, 0, none⟩) (m.objs[k]).ws.length (m.objs[k]).ws.length]) := by
              have e1 := unhide HK
              have e2 := unhide HK2
              simp only [if_true] at e1 e2
              show obCells _ _ = _
              rw [e1, e2, obCells_append _ _ _ _ hlk]
              rfl
            have HK4 : Hid ((keepG (m.objs.take (k + 1)) (on.take (k + 1))).length = (keepG (m.objs.take k) (on.take k)).length + 1) := by
              have e1 := unhide HK
              simp only [if_true] at e1
              show List.length _ = _
              rw [e1, List.length_append]; rfl
            have hkl : (keepG (m.objs.take k) (on.take k)).length ≤ 2000 := by
              have := (keepG_sublist (m.objs.take k) (on.take k)).length_le
              rw [List.length_take] at this
              omega
            generalize m.objs[k] = o at o1 o2 o3 HK3 HT HWd HOb HBw
            obtain ⟨P, A, ws⟩ := o
            dsimp only at o1 o2 o3 HK3 HT HWd HOb HBw
            clear HK HK2 eW hlk
            go_wp2_with (at_builtin; refine stop ?_)
            refine hide (wpList_append_at _ rfl _ _ 81 rfl 89 i0 _ 3 40 Tryd.underlying81 zi hz0 hz1 hz2 rfl (by decide) _ _ _ rfl ((unhide HC).own.alloc _) ⟨wr.heap.size, 0, none⟩ 1 1 [.int .i64 P, .bool A, .slice (some ⟨R.wAt k, 0, none⟩) ws.length ws.length] rfl rfl ?c1 ?c2 (by decide) (by unfold maxLen; omega) (by omega) ?_)
            case c1 =>
              intro j u hj
              rw [add_nat]
              match j, hj with
              | 0, hj => simp at hj; subst hj; simp
              | 1, hj => simp at hj; subst hj; simp
              | 2, hj => simp at hj; subst hj; simp
            case c2 => intro u hu; simp at hu; rcases hu with rfl | rfl | rfl <;> rfl
            intro v1 w3 ho1 hg1 hl1
            have HC1 : Hid (Col w w3 gb on (m.blackWords (ws.take 0) (m.blackTo on bl0 k)) v1 (keepG (m.objs.take (k + 1)) (on.take (k + 1))).length (obCells (keepG (m.objs.take (k + 1)) (on.take (k + 1))) (keepG (R.wb.take (k + 1)) (on.take (k + 1))))) := by
              rw [unhide HK3, unhide HK4]
              exact ((unhide HC).step ((Below.refl _ _).alloc (Nat.le_refl _) (.cells #[.int .i64 P, .bool A, .slice (some ⟨R.wAt k, 0, none⟩) ws.length ws.length] 89))).grow ho1 hg1 hl1
            have bw := unhide HBw
            clear ho1 hg1 hl1 o1 o2 o3 fo HC hg hd1 hd2 cb
            go_wp2
            cases A
            · go_loopw [7] (fun j wr => ∃ q : Nat, q ≤ ws.length ∧ j = .int .i64 q ∧ Hid (Col w wr gb on (m.blackWords (ws.take q) (m.blackTo on bl0 k)) v1 (keepG (m.objs.take (k + 1)) (on.take (k + 1))).length (obCells (keepG (m.objs.take (k + 1)) (on.take (k + 1))) (keepG (R.wb.take (k + 1)) (on.take (k + 1)))))) (fun j _ => ws.length - (intOf j).toNat)
              case atStart => exact ⟨0, by omega, rfl, HC1⟩
              case round =>
                clear HC1 H1
                obtain ⟨q, hq, rfl, HC⟩ := hrel
                have H1 := hide ((unhide HH).below (unhide HC).below)
                obtain ⟨g, cap', hv, hd1, hd2, o2, o3⟩ := unhide HOb wr (unhide H1)
                have fo := (unhide H1).cells.2.2.2.1
                rw [hv] at fo
                clear hv
                by_cases hlt2 : q < ws.length
                · have cw := unhide HWd wr (unhide H1) q hlt2
                  have C1 := hide (unhide CN wr (ws[q]) gb _ (unhide HC).below (unhide HC).bbl (by rw [blackWords_length, blackTo_length]; exact unhide HBL))
                  have HS := hide (blackWords_take m ws (m.blackTo on bl0 k) q hlt2)
                  generalize ws[q] = x at cw C1 HS
                  go_wp2_with (go_at_call 91; refine (unhide C1).mono ?_; rintro e w4 ⟨rfl, hbl, ht⟩; have HC2 := hide ((unhide HC).names hbl ht); clear hbl ht)
                  go_roundw
                  case rel => first | exact ⟨q + 1, by omega, by go_num, hide (by rw [unhide HS]; exact unhide HC2)⟩ | ((repeat apply Exists.intro); exact ⟨⟨q + 1, by omega, by go_num, hide (by rw [unhide HS]; exact unhide HC2)⟩, rfl⟩)
                  case measure => simp [intOf]; omega
                · obtain rfl : q = ws.length := by omega
                  have HC2 : Hid (Col w wr gb on (m.blackTo on bl0 (k + 1)) v1 (keepG (m.objs.take (k + 1)) (on.take (k + 1))).length (obCells (keepG (m.objs.take (k + 1)) (on.take (k + 1))) (keepG (R.wb.take (k + 1)) (on.take (k + 1))))) := by
                    have e3 := unhide HT
                    have e4 := unhide HC
                    simp only [Bool.not_false, Bool.and_self, if_true] at e3
                    rw [List.take_length] at e4
                    rw [e3]
                    exact e4
                  go_wp2
                  go_roundw
                  case rel => first | exact ⟨k + 1, by omega, by go_num, HC2⟩ | ((repeat apply Exists.intro); exact ⟨⟨k + 1, by omega, by go_num, HC2⟩, rfl⟩)
                  case measure => simp [intOf]; omega
            · go_loopw [7] (fun j wr => j = .int .i64 0 ∧ Hid (Col w wr gb on (m.blackWords (ws.take 0) (m.blackTo on bl0 k)) v1 (keepG (m.objs.take (k + 1)) (on.take (k + 1))).length (obCells (keepG (m.objs.take (k + 1)) (on.take (k + 1))) (keepG (R.wb.take (k + 1)) (on.take (k + 1)))))) (fun _ _ => 0)
              case atStart => exact ⟨rfl, HC1⟩
              case round =>
                clear HC1 H1
                obtain ⟨rfl, HC⟩ := hrel
                have H1 := hide ((unhide HH).below (unhide HC).below)
                obtain ⟨g, cap', hv, hd1, hd2, o2, o3⟩ := unhide HOb wr (unhide H1)
                have fo := (unhide H1).cells.2.2.2.1
                rw [hv] at fo
                clear hv
                have HC2 : Hid (Col w wr gb on (m.blackTo on bl0 (k + 1)) v1 (keepG (m.objs.take (k + 1)) (on.take (k + 1))).length (obCells (keepG (m.objs.take (k + 1)) (on.take (k + 1))) (keepG (R.wb.take (k + 1)) (on.take (k + 1))))) := by
                  have e3 := unhide HT
                  simp only [Bool.not_true, Bool.and_false, Bool.false_eq_true, if_false] at e3
                  rw [e3]
                  exact HC
                by_cases hlt2 : 0 < ws.length
                all_goals
                  go_wp2
                  go_roundw
                  case rel => first | exact ⟨k + 1, by omega, by go_num, HC2⟩ | ((repeat apply Exists.intro); exact ⟨⟨k + 1, by omega, by go_num, HC2⟩, rfl⟩)
                  case measure => simp [intOf]; omega
        · obtain rfl : k = m.objs.length := by omega
          have HC0 : Hid (Col w wr gb on (m.blackTo on bl0 m.objs.length) u5 (keepG m.objs on).length (obCells (keepG m.objs on) (keepG R.wb on))) := by
            have := unhide HC
            have e1 : on.take m.objs.length = on := List.take_of_length_le (by rw [unhide HLo]; exact Nat.le_refl _)
            have e2 : R.wb.take m.objs.length = R.wb := List.take_of_length_le (by rw [unhide HL]; exact Nat.le_refl _)
            rw [List.take_length, e1, e2] at this
            exact this
          clear HC
          obtain ⟨ao', cap', hv, hd1, hd2⟩ := ownsRow_shape (unhide H1).ho
          obtain ⟨fp, _, _, fo, fr, fb, fsn, frn, fkt⟩ := (unhide H1).cells
          rw [hv] at fo
          obtain ⟨av, cv, hvv, _, _⟩ := ownsRow_shape (unhide HC0).own
          rw [hvv] at HC0 ⊢
          have z := (unhide H1).frozen
          have hcol := collect_end (unhide HH) (unhide BD) gb on (m.blackTo on bl0 m.objs.length) _ (by rw [blackTo_length]; exact unhide HBL) (unhide HC0)
          have HM : Hid (({ m with objs := keepG m.objs on, black := m.blackTo on bl0 m.objs.length, since := 0, runs := m.runs + 1, kept := (keepG m.objs on).length } : Mo) = m.collect on) := by
            rw [← unhide HBB]; exact rfl
          rw [unhide HM] at hcol
          have HF := hide hcol
          clear hcol
          have hkl : (keepG m.objs on).length ≤ 2000 := by
            have := (keepG_sublist m.objs on).length_le
            omega
          clear hv hvv HC0
          go_wp2
          go_end0
          exact ⟨rfl, on, unhide HRE, unhide HF⟩
end Go.Proofs.YtgegkcjllliifabDoor
