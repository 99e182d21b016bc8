import Derived.Test.YtmecbppblbmchaaGreatDoorAppSeq
import Derived.Test.YtmecbppblbmchaaGreatDoorSortLay
import Derived.Shelf.SlSortCmp.NoneTotal
import Derived.RangeFuncBound
import Derived.Sort.OwnSorted
/- slices.SortedFunc of keys by impl.compareKeys, against whatever iterator: a new slice of just what came, sorted by (T, R). -/
namespace Go.Proofs.YtmecbppblbmchaaGreatDoor
open Go.ChangeShapes Go.WideShapes Go.ChangeAt Go.RowKit Go.Maps Go.Sort Go.Shelf

/-- What compareKeys hands back. -/
def cfK (x y : Int × Int) : Int := if klB x.1 x.2 y.1 y.2 = true then -1 else if klB y.1 y.2 x.1 x.2 = true then 1 else 0

theorem ltK (x y : Int × Int) : ltOf cfK x y = klB x.1 x.2 y.1 y.2 := by
  unfold ltOf cfK
  by_cases h1 : klB x.1 x.2 y.1 y.2 = true
  · simp [h1]
  · by_cases h2 : klB y.1 y.2 x.1 x.2 = true <;> simp [h1, h2]

theorem swoK : SWO (ltOf cfK) where
  irrefl x := by rw [ltK]; simp [klB]
  trans x y z h1 h2 := by rw [ltK] at *; simp [klB] at *; omega
  ntrans x y z h1 h2 := by rw [ltK] at *; simp [klB] at *; omega

theorem implKeyLess_lays (a b c d : Int) (w : World) :
    Calls Tryz.prog 138 #[.agg #[.int .i64 a, .int .i64 b], .agg #[.int .i64 c, .int .i64 d]] w fun e w' => e = .returned (.bool (klB a b c d)) ∧ w' = (w.alloc (Obj.cells #[Value.int IntKind.i64 a, Value.int IntKind.i64 b] 46)).alloc (Obj.cells #[Value.int IntKind.i64 c, Value.int IntKind.i64 d] 46) := by
  by_cases h1 : a < c
  · go_enter Tryz.func138, Tryz.ntmps138
    go_wp2
    go_ret
    exact ⟨by simp [klB, h1], rfl⟩
  · by_cases h2 : a = c
    · subst h2
      by_cases h3 : b < d
      · go_enter Tryz.func138, Tryz.ntmps138
        go_wp2
        go_ret
        exact ⟨by simp [klB, h3], rfl⟩
      · go_enter Tryz.func138, Tryz.ntmps138
        go_wp2
        go_ret
        exact ⟨by simp [klB, h3], rfl⟩
    · go_enter Tryz.func138, Tryz.ntmps138
      go_wp2
      go_ret
      exact ⟨by simp [klB, h1, h2], rfl⟩

def Grew (w w' : World) : Prop := ∃ q os', w' = grow (w.drewN q) os'
theorem Grew.self (w : World) : Grew w w := ⟨0, #[], by simp [grow, World.drewN]⟩
theorem Grew.laid {w w' : World} (h : Grew w w') (o : Obj) : Grew w (w'.alloc o) := by
  obtain ⟨q, os, rfl⟩ := h
  exact ⟨q, os ++ #[o], by rw [alloc_eq_grow, grow_grow]⟩

set_option maxHeartbeats 1000000 in
theorem compareKeys_grow (a b c d : Int) (w : World) :
    Calls Tryz.prog 123 #[.agg #[.int .i64 a, .int .i64 b], .agg #[.int .i64 c, .int .i64 d]] w fun e w' => e = .returned (.int .i64 (cfK (a, b) (c, d))) ∧ ∃ q os', w' = grow (w.drewN q) os' := by
  obtain ⟨k1, hk1⟩ : ∃ k1, klB a b c d = k1 := ⟨_, rfl⟩
  obtain ⟨k2, hk2⟩ : ∃ k2, klB c d a b = k2 := ⟨_, rfl⟩
  have hcf : cfK (a, b) (c, d) = if k1 = true then -1 else if k2 = true then 1 else 0 := by simp only [cfK, hk1, hk2]
  rw [hcf]
  clear hcf
  cases k1
  · cases k2
    · go_enter Tryz.func123, Tryz.ntmps123
      go_wp2_with (go_at_call 138; refine (implKeyLess_lays _ _ _ _ _).mono ?_; rintro e w' ⟨rfl, rfl⟩; first | rw [hk1] | rw [hk2])
      go_ret
      exact ⟨rfl, ((((((Grew.self w).laid _).laid _).laid _).laid _).laid _).laid _⟩
    · go_enter Tryz.func123, Tryz.ntmps123
      go_wp2_with (go_at_call 138; refine (implKeyLess_lays _ _ _ _ _).mono ?_; rintro e w' ⟨rfl, rfl⟩; first | rw [hk1] | rw [hk2])
      go_ret
      exact ⟨rfl, ((((((Grew.self w).laid _).laid _).laid _).laid _).laid _).laid _⟩
  · go_enter Tryz.func123, Tryz.ntmps123
    go_wp2_with (go_at_call 138; refine (implKeyLess_lays _ _ _ _ _).mono ?_; rintro e w' ⟨rfl, rfl⟩; first | rw [hk1] | rw [hk2])
    go_ret
    exact ⟨rfl, ((((Grew.self w).laid _).laid _).laid _).laid _⟩

theorem cmpK_lays (blk off size : Nat) (w : World) : CmpLays Tryz.prog 123 #[] cells2 2 cfK blk off size w :=
  fun _ _ _ _ x y => compareKeys_grow x.1 x.2 y.1 y.2 _

theorem flatK_get : ∀ (l : List (Int × Int)) (t : Nat), t < l.length * 2 → (flatK l)[t]? = some ((cells2 l.toArray[t / 2]!)[t % 2]!)
  | [], t, h => by simp at h
  | x :: l, 0, _ => by simp [flatK, cells2]
  | x :: l, 1, _ => by simp [flatK, cells2]
  | x :: l, t + 2, h => by
    have h' : t < l.length * 2 := by simp at h; omega
    have e1 : (t + 2) / 2 = t / 2 + 1 := by omega
    have e2 : (t + 2) % 2 = t % 2 := by omega
    have hl : t / 2 < l.length := by omega
    have ih := flatK_get l t h'
    rw [e1, e2]
    have e3 : (x :: l).toArray[t / 2 + 1]! = l.toArray[t / 2]! := by
      rw [getElem!_pos _ _ (by simp; omega), getElem!_pos _ _ (by simpa using hl)]; simp
    rw [e3, ← ih]
    simp [flatK, cells2]

theorem flat_list (l : List (Int × Int)) : (Go.Sort.flatK cells2 2 l.toArray).toList = flatK l := by
  have hlen : (flatK l).length = l.length * 2 := by
    induction l with
    | nil => rfl
    | cons x l ih => simp [flatK, cells2] at ih ⊢; omega
  apply List.ext_getElem?
  intro t
  by_cases ht : t < l.length * 2
  · rw [flatK_get l t ht, Array.getElem?_toList, Array.getElem?_eq_getElem (by simpa using ht)]
    have := Go.Sort.get_flatK cells2 2 l.toArray t (by simpa using ht)
    rw [getElem!_pos _ _ (by simpa using ht)] at this
    rw [this]
  · rw [List.getElem?_eq_none (by simp; omega), List.getElem?_eq_none (by omega)]

theorem holdsK_of_block {w : World} {g : Nat} {cur : Array Value} {e : TypeId} {ss : List (Int × Int)} (hb : w.heap[g]? = some (.cells cur e (0, 0))) (ht : cur.toList.take (ss.length * 2) = flatK ss) : HoldsK cells2 2 w g 0 ss.toArray := by
  intro j hj
  have hj' : j < ss.length * 2 := by simpa using hj
  refine ⟨?_, by simp [World.frozen?, hb]⟩
  have h1 : (cur.toList.take (ss.length * 2))[j]? = (Go.Sort.flatK cells2 2 ss.toArray).toList[j]? := by rw [ht, flat_list]
  rw [List.getElem?_take_of_lt hj'] at h1
  simp only [World.cell?, hb, Nat.zero_add]
  simp only [Option.isSome_none, Bool.false_eq_true, if_false]
  rw [← Array.getElem?_toList, h1, Array.getElem?_toList, Array.getElem?_eq_getElem hj]
  exact congrArg some (getElem!_pos (Go.Sort.flatK cells2 2 ss.toArray) j hj).symm

theorem heap_sortedK {w : World} {g n : Nat} {os : Array Obj} {cur : Array Value} {e : TypeId} {fr : Nat × Nat} (d : Array (Int × Int)) (hb : w.heap[g]? = some (.cells cur e fr)) :
    (sortWorldK cells2 2 w g 0 n d os).heap[g]? = some (.cells (putCells id 0 (Go.Sort.flatK cells2 2 d) cur) e fr) := by
  have hg : g < w.heap.size := (Array.getElem?_eq_some_iff.1 hb).1
  unfold sortWorldK putRowK
  rw [heap_grow_old _ _ (by simpa using hg)]
  simp [putRow, mapBlock, Sort.ahead, Array.getElem?_modify, hb, onCells]

theorem grownBy_sortedK {w : World} {g n : Nat} {os : Array Obj} (d : Array (Int × Int)) : w.grownBy (sortWorldK cells2 2 w g 0 n d os) (some g) := by
  unfold sortWorldK putRowK
  refine ⟨rfl, rfl, rfl, by simp, fun k hk hne => ?_⟩
  rw [heap_grow_old _ _ (by simpa using hk)]
  have : g ≠ k := fun e => hne (by rw [e])
  simp [putRow, mapBlock, Sort.ahead, Array.getElem?_modify, this]

theorem take_putCellsK (cur d : Array Value) (h : d.size ≤ cur.size) : (putCells id 0 d cur).toList.take d.size = d.toList := by
  apply List.ext_getElem?
  intro j
  by_cases hj : j < d.size
  · rw [List.getElem?_take_of_lt hj, Array.getElem?_toList]
    simp [putCells, hj, show j < cur.size by omega]
  · rw [List.getElem?_take_eq_none (by omega), List.getElem?_eq_none (by simp; omega)]

theorem ownsRow_sortedK {w : World} {base g cap n : Nat} {e : TypeId} {os : Array Obj} {cur : Array Value} {m : Nat} {ts : List (Int × Int)} (hl : ts.length = m) (hbase : base ≤ g) (hb : w.heap[g]? = some (.cells cur e (0, 0)))
    (h1 : m ≤ cap) (h2 : cap ≤ maxLen) (h3 : cur.size = cap * 2) :
    (sortWorldK cells2 2 w g 0 n ts.toArray os).ownsRow base e 2 (.slice (some ⟨g, 0, none⟩) m cap) m (flatK ts) := by
  have hz : (Go.Sort.flatK cells2 2 ts.toArray).size = m * 2 := by simp [hl]
  have ht := take_putCellsK cur (Go.Sort.flatK cells2 2 ts.toArray) (by rw [hz, h3]; omega)
  rw [hz, flat_list] at ht
  refine ⟨?_, .inr ⟨g, cap, _, rfl, hbase, heap_sortedK _ hb, h1, h2, by simp [putCells, h3], ht⟩⟩
  rw [← flat_list, Array.length_toList, hz]

/-- Sorted by (T, R). -/
def srtK (ss : List (Int × Int)) : List (Int × Int) := ss.mergeSort fun x y => !(ltOf cfK) y x

theorem lenK (ss : List (Int × Int)) : (srtK ss).length = ss.length := by simp [srtK]

set_option maxRecDepth 100000 in
set_option maxHeartbeats 2000000 in
/-- slices.SortedFunc(seq, compareKeys), against whatever iterator: what came, sorted. -/
theorem sortedFunc_in (n : Nat) (hn : 4 ≤ n) (g : Nat) (lb : Array Value) (eg : ∀ args w, (callFunc g args).run Tryz.prog w = .ok (.enter g args) w)
    (S : List (Int × Int) → Prop) (N : Nat) (hN : N ≤ 1048576) (w : World) (hseq : SeqGives Fence.wide (n - 1 - 1 - 1) Tryz.prog g lb encK S N w) :
    CallsIn Fence.wide n Tryz.prog 146 #[.func (.func g) #[] lb, .func (.func 123) #[] #[]] w fun e w' => ∃ (v : Value) (ss : List (Int × Int)), e = .returned v ∧ S ss ∧
      w'.ownsRow w.heap.size 46 2 v ss.length (flatK (srtK ss)) ∧ (v = .slice none 0 0 ↔ ss = []) ∧ Below w.heap.size w w' := by
  have h1 : 1 ≤ n := by omega
  have ec : ∀ args w, (callFunc 123 args).run Tryz.prog w = .ok (.enter 123 args) w := enters_of Tryz.func123 (by kernel_rfl) rfl
  refine callsIn_of_wp Tryz.func146 rfl trivial ?_ rfl
  simp only [Tryz.ntmps146, List.size_toArray, List.length_cons, List.length_nil, Nat.reduceAdd, Nat.reduceSub, Array.replicate_succ, Array.replicate_zero, List.push_toArray, List.append_toArray, List.nil_append, List.cons_append]
  gi_wp2_with ((first | refine ⟨trivial, ?_⟩ | refine ⟨fun _ => by omega, ?_⟩ | skip); gi_at_call 153; refine (collect_in (n - 1) (by omega) g lb eg _ N hN _ hseq.bounded).mono ?_; rintro e W ⟨v, ss, rfl, ⟨hS, hlen⟩, hrow, hnil, hb⟩)
  rcases hrow.2 with ⟨rfl, hz⟩ | ⟨gb, cap, cur, rfl, hbase, hgb, r1, r2, r3, r4⟩
  · have hss : ss = [] := List.eq_nil_of_length_eq_zero hz
    subst hss
    have cN := AnyF.slices_SortFunc_none sortK none 0 (.func (.func 123) #[] #[]) W
    change Calls Tryz.prog 154 _ _ _ at cN
    gi_wp2_with ((first | refine ⟨trivial, ?_⟩ | refine ⟨fun _ => by omega, ?_⟩ | skip); gi_at_call 154; refine (callsIn_wide.2 cN).mono ?_; rintro e w' ⟨rfl, rfl⟩)
    go_ret
    exact ⟨.slice none 0 0, [], rfl, hS, by simpa [srtK, flatK] using hrow, by simp, hb⟩
  · have hH : HoldsK cells2 2 W gb 0 ss.toArray := holdsK_of_block hgb r4
    have hgl : gb < W.heap.size := (Array.getElem?_eq_some_iff.1 hgb).1
    have hsz : ss.toArray.size < 4611686018427387904 := by simp; omega
    have cS := AnyQ.slices_SortFunc_total sortK 2 Tryz.isAgg46 Tryz.sizeOf46 cells2 (fun _ => rfl) (fun x v hv => by simp [cells2] at hv; rcases hv with rfl | rfl <;> rfl) cfK swoK 123 #[] gb 0 cap ss.toArray W ec (cmpK_lays gb 0 _ W) hH hgl hsz
      (fun x y hx hy => by rw [ltK] at hx hy; simp [klB] at hx hy; exact Prod.ext (by omega) (by omega))
    change Calls Tryz.prog 154 #[.slice (some ⟨gb, 0, none⟩) ss.length cap, _] _ _ at cS
    gi_wp2_with ((first | refine ⟨trivial, ?_⟩ | refine ⟨fun _ => by omega, ?_⟩ | skip); gi_at_call 154; refine (callsIn_wide.2 cS).mono ?_; rintro e w' ⟨rfl, nn, os, rfl⟩)
    go_ret
    exact ⟨_, ss, rfl, hS, ownsRow_sortedK (lenK ss) hbase hgb r1 r2 r3, hnil, hb.grown (grownBy_sortedK _) hb.size (fun j hj => by cases hj; exact hbase)⟩

/-- What is sorted holds the same keys, each later than the one before. -/
theorem srtK_keys {f : Int → Int → Option Value} {ss : List (Int × Int)} (h : KeysAre f ss) : KeysAre f (srtK ss) ∧ (srtK ss).Pairwise fun x y => klB x.1 x.2 y.1 y.2 = true := by
  have hp : (srtK ss).Perm ss := List.mergeSort_perm _ _
  obtain ⟨hn, hw, hi⟩ := h
  have hn' : (srtK ss).Nodup := hp.nodup_iff.2 hn
  refine ⟨⟨hn', fun x hx => hw x (hp.mem_iff.1 hx), fun t r wt wr => (hp.mem_iff).trans (hi t r wt wr)⟩, ?_⟩
  have hs : (srtK ss).Pairwise fun x y => (!(ltOf cfK) y x) = true := by
    refine List.pairwise_mergeSort (fun a b c => ?_) (fun a b => ?_) _
    · simp only [ltK]; simp [klB]; omega
    · simp only [ltK]; simp [klB]; omega
  refine (List.Pairwise.and hs hn').imp ?_
  rintro x y ⟨h1, h2⟩
  rw [ltK] at h1
  have h3 : ¬ (x.1 = y.1 ∧ x.2 = y.2) := fun h => h2 (Prod.ext h.1 h.2)
  simp [klB] at h1 ⊢
  omega

end Go.Proofs.YtmecbppblbmchaaGreatDoor
