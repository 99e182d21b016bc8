import Derived.Test.YtmecbppblbmchaaGreatDoorInst1
import Derived.Test.YtmecbppblbmchaaGreatDoorPrune
import Derived.Test.YtmecbppblbmchaaGreatDoorOwnQ
import Derived.Test.YtmecbppblbmchaaGreatDoorInst0
/- impl.Install: a version more behind the lists of the rows that are written. -/
namespace Go.Proofs.YtmecbppblbmchaaGreatDoor
open Go.ChangeShapes Go.WideShapes Go.ChangeAt Go.RowKit Go.Sort Go.Maps
set_option linter.unusedVariables false
set_option maxRecDepth 100000
attribute [local go_sem ↓] Go.wp_at_zero Go.wp_at_succ

/-- Each row that is written is one of a table, and its list takes a version of that hour. -/
def Fine (l : List Ch) (h : Int) (r : List Rw) : Prop := ∀ t r', wf t → wf r' → ∀ v, lv r r.length t r' = some v → tabB t = true ∧ takes (listAt l t r') h
/-- The lists behind it. -/
def instL (l : List Ch) (h : Int) (r : List Rw) (t r' : Int) : List Vr := listAt l t r' ++ (match lv r r.length t r' with | some v => [(h, v)] | none => [])

def OldAt (lo hi : Nat) (w : World) (l : List Ch) (f : Int → Int → Option Value) (t r' : Int) : Prop :=
  (f t r' = none ∧ listAt l t r' = [] ∧ ∀ i, i < l.length → ¬ km l i t r') ∨ ((∃ i, i < l.length ∧ km l i t r') ∧ versOk (listAt l t r') ∧ ∃ a c, f t r' = some (.slice a (listAt l t r').length c) ∧ VersAt lo hi w (.slice a (listAt l t r').length c) (listAt l t r'))

/-- The map of lists while rows are put in: those that are no longer to come have been. -/
def IMap (lo hi : Nat) (w2 : World) (N1 : Nat) (wr : World) (l : List Ch) (h : Int) (r : List Rw) (left : Lit → Bool) (f : Int → Int → Option Value) : Prop :=
  ∀ t r', wf t → wf r' →
    (∃ v, lv r r.length t r' = some v ∧ left (klit t r') = false ∧ tabB t = true ∧ takes (listAt l t r') h ∧ ∃ a c, f t r' = some (.slice a (listAt l t r' ++ [(h, v)]).length c) ∧ VersAt N1 wr.heap.size wr (.slice a (listAt l t r' ++ [(h, v)]).length c) (listAt l t r' ++ [(h, v)])) ∨
    ((lv r r.length t r' = none ∨ left (klit t r') = true) ∧ OldAt lo hi w2 l f t r')

theorem listAt_none {l : List Ch} {t r : Int} (h : ∀ i, i < l.length → ¬ km l i t r) : listAt l t r = [] := by
  unfold listAt
  cases hf : l.find? (fun c => decide (c.t = t ∧ c.r = r)) with
  | none => rfl
  | some c =>
    obtain ⟨i, hi, rfl⟩ := mem_cAt (List.mem_of_find?_eq_some hf)
    have := List.find?_some hf
    simp at this
    exact absurd this (h i hi)

theorem IMap.start {lo hi : Nat} {w2 : World} {N1 : Nat} {wr : World} {l : List Ch} {h : Int} {r : List Rw} {f : Int → Int → Option Value} {Di : DataW Value} (hs : storeOk l) (hby : ByKey lo hi w2 l l.length f) (hat : At Di (lvV r r.length)) : IMap lo hi w2 N1 wr l h r (Maps.has Di) f := fun t r' ht hr => by
  right
  constructor
  · cases hl : lv r r.length t r' with
    | none => exact .inl rfl
    | some v => exact .inr (has_true_of_atKey (y := .held (.int .i64 v)) fun z => by rw [hat.2 t r' ht hr z]; simp [lvV, hl])
  · rcases hby t r' with ⟨h1, h2⟩ | ⟨i, h1, h2, _, a, c, h3, h4⟩
    · exact .inl ⟨h1, listAt_none h2, h2⟩
    · rw [OldAt, listAt_is hs h1 h2]
      exact .inr ⟨⟨i, h1, h2⟩, (hs.2 i h1).2.2, a, c, h3, h4⟩

theorem IMap.step {lo hi : Nat} {w2 : World} {N1 : Nat} {wr w' : World} {l : List Ch} {h : Int} {r : List Rw} {left : Lit → Bool} {f : Int → Int → Option Value} (hm : IMap lo hi w2 N1 wr l h r left f) {t r' v : Int} (ht : wf t) (hr : wf r') (hl : lv r r.length t r' = some v) (htab : tabB t = true) (htk : takes (listAt l t r') h)
    {a : Option Addr} {c : Nat} (hv : VersAt N1 w'.heap.size w' (.slice a (listAt l t r' ++ [(h, v)]).length c) (listAt l t r' ++ [(h, v)])) (hk : ∀ b, N1 ≤ b → b < wr.heap.size → w'.heap[b]? = wr.heap[b]?) (hz : wr.heap.size ≤ w'.heap.size) :
    IMap lo hi w2 N1 w' l h r (fun z => left z && !z.sameKey (klit t r')) (put2 f t r' (.slice a (listAt l t r' ++ [(h, v)]).length c)) := fun t2 r2 ht2 hr2 => by
  by_cases e : t2 = t ∧ r2 = r'
  · obtain ⟨rfl, rfl⟩ := e
    exact .inl ⟨v, hl, by simp [klit, Lit.sameKey], htab, htk, a, c, by simp [put2], hv⟩
  · have hne : (klit t2 r2).sameKey (klit t r') = false := sameKey_ne fun e' => e (klit_inj ht2 hr2 ht hr e')
    have hf : put2 f t r' (.slice a (listAt l t r' ++ [(h, v)]).length c) t2 r2 = f t2 r2 := by simp [put2, e]
    rcases hm t2 r2 ht2 hr2 with ⟨v2, g1, g2, g3, g4, a2, c2, g5, g6⟩ | ⟨g1, g2⟩
    · exact .inl ⟨v2, g1, by simp [g2], g3, g4, a2, c2, by rw [hf]; exact g5, (g6.keep fun b h1 h2 _ => hk b h1 h2).wide (Nat.le_refl _) hz⟩
    · refine .inr ⟨?_, ?_⟩
      · rcases g1 with g1 | g1
        · exact .inl g1
        · exact .inr (by simp [g1, hne])
      · unfold OldAt at g2 ⊢
        rw [hf]
        exact g2

theorem IMap.keep {lo hi : Nat} {w2 : World} {N1 : Nat} {wr w' : World} {l : List Ch} {h : Int} {r : List Rw} {left : Lit → Bool} {f : Int → Int → Option Value} (hm : IMap lo hi w2 N1 wr l h r left f) (hk : ∀ b, N1 ≤ b → b < wr.heap.size → w'.heap[b]? = wr.heap[b]?) (hz : wr.heap.size ≤ w'.heap.size) : IMap lo hi w2 N1 w' l h r left f := fun t r' ht hr => by
  rcases hm t r' ht hr with ⟨v2, g1, g2, g3, g4, a2, c2, g5, g6⟩ | g
  · exact .inl ⟨v2, g1, g2, g3, g4, a2, c2, g5, (g6.keep fun b h1 h2 _ => hk b h1 h2).wide (Nat.le_refl _) hz⟩
  · exact .inr g

/-- The rows' keys and the store's. -/
def InstKeys (l : List Ch) (r : List Rw) (ks : List (Int × Int)) : Prop := ks.Nodup ∧ (ks.Pairwise fun x y => klB x.1 x.2 y.1 y.2 = true) ∧ (∀ x ∈ ks, wf x.1 ∧ wf x.2) ∧ ∀ t r', wf t → wf r' → ((t, r') ∈ ks ↔ (∃ i, i < l.length ∧ km l i t r') ∨ (lv r r.length t r').isSome = true)

def Args (l : List Ch) (h : Int) (r : List Rw) : Prop := storeOk l ∧ hourB h = true ∧ h ≠ 0 ∧ Fine l h r

/-- What Install answers. -/
def IAns (lo : Nat) (w' : World) (l : List Ch) (h : Int) (r : List Rw) (e : Ending) : Prop :=
  (¬ Args l h r ∧ e = .returned (.tuple #[.agg #[.slice none 0 0], .bool false])) ∨
  (Args l h r ∧ ∃ n ks, InstKeys l r ks ∧ ks.length = n ∧ 200 < n ∧ e = .returned (.tuple #[.agg #[.slice none 0 0], .bool false])) ∨
  (Args l h r ∧ ∃ ks v', InstKeys l r ks ∧ ks.length ≤ 200 ∧ e = .returned (.tuple #[.agg #[v'], .bool true]) ∧ OwnS lo w' v' (chainsOf ks (instL l h r)))

set_option maxHeartbeats 8000000 in
theorem implInstall_own (v : Value) (l : List Ch) (h : Int) (vw : Value) (r : List Rw) (w : World) {lo hi lo' hi' : Nat} (hl : ChainsAt lo hi w v l) (hr : RowsAt lo' hi' w vw r) (hw : WfCh l) (hwr : WfRw r) (hn : Small l) (hnr : r.length ≤ 1048576) :
    Calls Tryz.prog 93 #[.agg #[v], .int .i64 h, vw] w fun e w' => IAns w.heap.size w' l h r e ∧ Below w.heap.size w w' := by
  obtain ⟨a, cap, hv⟩ : ∃ a cap, v = .slice a l.length cap := by obtain ⟨a, cap, h1, _⟩ := hl; exact ⟨a, cap, h1⟩
  subst hv
  obtain ⟨i0, hI, hz0, hz1, hz2⟩ := info_parts infoVer
  have hbx : Below w.heap.size w ((w.alloc (Obj.cells #[Value.slice a l.length cap] 32)).alloc (Obj.cells #[Value.slice none 0 0] 32)) := ((Below.refl _ _).alloc (Nat.le_refl _) _).alloc (by simp) _
  go_enter Tryz.func93, Tryz.ntmps93
  go_wp2_with fail
  refine (implStoreOk_any _ l _ (hl.stays hbx)).mono ?_
  rintro e w1 ⟨⟨q, rfl, hq⟩, hb1⟩
  have b1 := hbx.trans (hb1.mono hbx.size)
  have p0 : w1.cell? ⟨w.heap.size, 0, none⟩ = some (.slice a l.length cap) := cell_stays hb1 (by simp [go_sem])
  have p1 : w1.cell? ⟨w.heap.size + 1, 0, none⟩ = some (.slice none 0 0) := cell_stays hb1 (by simp [go_sem])
  have q1 : w1.frozen? ⟨w.heap.size + 1, 0, none⟩ = false := by rw [hb1.frozen (by simp)]; simp [go_sem]
  have z1 : w.heap.size + 1 < w1.heap.size := cell_lt p1
  clear hb1 hbx
  by_cases hs : storeOk l
  · obtain rfl := hq.2 hs
    clear hq
    by_cases hh : hourB h = true
    · by_cases hz : h = 0
      · have hz' : (h == 0) = true := by simp [hz]
        have HZ : Hid (h = 0) := hz
        clear hz
        go_wp2_with (first | (go_at_call 106; refine (isHour_any _ _).mono ?_; rintro e w2 ⟨rfl, rfl⟩))
        refine bodyPost_ret (v := .tuple #[.agg #[.slice none 0 0], .bool false]) ?_ rfl ⟨.inl ⟨fun h => h.2.2.1 HZ.out, rfl⟩, b1.setCell (by simp) _⟩
        simp [results, Tryz.results93, go_sem, p1]
      · have hz' : (h == 0) = false := by rw [beq_eq_false_iff_ne]; exact hz
        have h200 := hs.1
        go_wp2_with (first | (go_at_call 106; refine (isHour_any _ _).mono ?_; rintro e w2 ⟨rfl, rfl⟩) | (go_at_call 120; refine (chainsByKey_any _ l _ (hl.stays b1) hw hn.1).mono ?_; rintro e w3 ⟨bm, D, f, rfl, hown, hat, hby, hbm, hb3⟩; have b3 := b1.trans (hb3.mono b1.size)) | (go_at_call 128; refine (lastValues_own _ r _ (hr.stays b3) hwr hnr).mono ?_; rintro e w4 ⟨bi, Di, rfl, howni, hati, hbi, hb4⟩) | (at_range; refine wpList_range_own _ rfl _ 177 rfl 46 3 mlaw Tryz.underlying177 _ bi r.length _ rfl howni ?_; intro w5 hrg5 hg5 hs5))
        have b4 := hb3.trans (hb4.mono hb3.size)
        have b5 : Below w2.heap.size w2 w5 := b4.grown hg5 b4.size (fun j hj => by cases hj)
        have hown5 := (hown.kept (gb_below none hb4) (by simp)).kept hg5 (by simp)
        have zm : bm < w3.heap.size := hown.lt
        have z34 := hb4.size
        have zi : bi < w4.heap.size := howni.lt
        go_frame
        go_loopw [10] (fun _ wr => ∃ (left : Lit → Bool) (cnt n : Nat) (D : DataW Value) (f : Int → Int → Option Value), wr.ranges Tryz.prog 46 KV bi w4.heap.size r.length Di left cnt ∧ wr.ownsMap Tryz.prog 46 KV bm n D ∧ n + cnt ≤ l.length + r.length ∧ At D f ∧ Below w2.heap.size w2 wr ∧ w5.heap.size ≤ wr.heap.size ∧ IMap lo hi w2 w5.heap.size wr l h r left f) (fun _ wr => wr.rangeLeft bi w4.heap.size)
        case atStart => exact ⟨_, _, l.length, D, f, hrg5, hown5, by have := howni.size_le; omega, hat, b5, Nat.le_refl _, IMap.start hs hby hati⟩
        case round =>
          rename World => wo
          clear hown5 hrg5 hown hat hby b4
          obtain ⟨left, cnt, n, D, f, hrg, hown, hnc, hat, hb, hsz, hmap⟩ := hrel
          go_wp2_with (at_next; refine wpList_next_ranges _ rfl _ rfl 46 mlaw KV encK id (fun key kl hk => by obtain ⟨x, hx, _⟩ := key_inv hk; exact ⟨x, hx⟩) (fun v _ _ => ⟨v, rfl⟩) bi w4.heap.size r.length _ _ _ rfl hrg ?_ ?_)
          · intro hc0 hl0
            have hfine : Fine l h r := fun t r' ht hr' v hv => by
              rcases hmap t r' ht hr' with ⟨v2, g1, g2, g3, g4, _⟩ | ⟨g1, _⟩
              · exact ⟨g3, g4⟩
              · rcases g1 with g1 | g1
                · rw [g1] at hv; cases hv
                · rw [hl0] at g1; cases g1
            have hinst : ∀ ks, KeysAre f ks → (ks.Pairwise fun x y => klB x.1 x.2 y.1 y.2 = true) → InstKeys l r ks := fun ks hK hP => ⟨hK.1, hP, hK.2.1, fun t r' ht hr' => by
              rw [hK.2.2 t r' ht hr']
              rcases hmap t r' ht hr' with ⟨v2, g1, _, _, _, a2, c2, g5, _⟩ | ⟨g1, g2⟩
              · simp [g1, g5]
              · have hln : lv r r.length t r' = none := by
                  rcases g1 with g1 | g1
                  · exact g1
                  · rw [hl0] at g1; cases g1
                rcases g2 with ⟨k1, _, k2⟩ | ⟨k1, _, a2, c2, k2, _⟩
                · simp [k1, hln]
                  exact k2
                · simp [k2, hln]
                  exact k1⟩
            have hvs : ∀ t r', wf t → wf r' → ∀ v, f t r' = some v → VersAt 0 (max hi wo.heap.size) wo v (instL l h r t r') ∧ (instL l h r t r').length ≤ 1048576 := fun t r' ht hr' v hfv => by
              rcases hmap t r' ht hr' with ⟨v2, g1, _, _, g4, a2, c2, g5, g6⟩ | ⟨g1, g2⟩
              · have e : instL l h r t r' = listAt l t r' ++ [(h, v2)] := by simp [instL, g1]
                rw [g5] at hfv
                cases hfv
                rw [e]
                exact ⟨g6.wide (Nat.zero_le _) (Nat.le_max_right _ _), by have := g4.2; simp; omega⟩
              · have hln : lv r r.length t r' = none := by
                  rcases g1 with g1 | g1
                  · exact g1
                  · rw [hl0] at g1; cases g1
                have e : instL l h r t r' = listAt l t r' := by simp [instL, hln]
                rcases g2 with ⟨k1, _, k2⟩ | ⟨k1, k3, a2, c2, k2, k4⟩
                · rw [k1] at hfv; cases hfv
                · rw [k2] at hfv
                  cases hfv
                  rw [e]
                  exact ⟨(k4.stays hb).wide (Nat.zero_le _) (Nat.le_max_left _ _), by have := k3.2.1; omega⟩
            obtain ⟨ks0, hK0, hl00⟩ := keys_ex hown hat
            have hlen := fun ty => hown.len Tryz.underlying169 ty
            have d0 := cell_stays hb p1
            have d1 : wo.frozen? ⟨w.heap.size + 1, 0, none⟩ = false := by rw [hb.frozen z1]; exact q1
            have bw := b1.trans (hb.mono b1.size)
            have hargs : Args l h r := ⟨hs, hh, hz, hfine⟩
            have HI1 : Hid (∀ ks, KeysAre f ks → (ks.Pairwise fun x y => klB x.1 x.2 y.1 y.2 = true) → InstKeys l r ks) := hinst
            have HV : Hid (∀ t r', wf t → wf r' → ∀ v, f t r' = some v → VersAt 0 (max hi wo.heap.size) wo v (instL l h r t r') ∧ (instL l h r t r').length ≤ 1048576) := hvs
            have HL : Hid (ks0.length = Maps.size D) := hl00
            have hsz2 := hb.size
            clear hinst hvs hl00 hmap hl0 hfine
            by_cases hbig : 200 < Maps.size D
            · have hbig' : (200 : Int) < ((Maps.size D : Nat) : Int) := by omega
              go_wp2
              refine bodyPost_ret (v := .tuple #[.agg #[.slice none 0 0], .bool false]) ?_ rfl ⟨.inr (.inl ⟨hargs, _, srtK ks0, HI1.out _ (srtK_keys hK0).1 (srtK_keys hK0).2, rfl, by rw [lenK, HL.out]; exact hbig, rfl⟩), bw.setCell (by simp) _⟩
              simp [results, Tryz.results93, go_sem, d0]
            · have hbig' : ¬ (200 : Int) < ((Maps.size D : Nat) : Int) := by omega
              go_wp2_with (go_at_call 130; refine (storeOf_own bm _ D f (instL l h r) _ hown hat HV.out (by omega)).mono ?_; rintro e w6 ⟨v6, ks, rfl, hK, hP, hO6, hb6⟩; have d2 := cell_stays hb6 d0; have d3 : w6.frozen? ⟨w.heap.size + 1, 0, none⟩ = false := (by rw [hb6.frozen (cell_lt d0)]; exact d1); obtain ⟨a6, n6, c6, rfl⟩ := hO6.form)
              refine bodyPost_ret (v := .tuple #[.agg #[.slice a6 n6 c6], .bool true]) ?_ rfl ⟨.inr (.inr ⟨hargs, ks, _, HI1.out _ hK hP, by rw [keys_len hK hK0, HL.out]; omega, rfl, (hO6.set (by omega) _).wide (by omega)⟩), (bw.trans (hb6.mono bw.size)).setCell (by simp) _⟩
              simp [results, Tryz.results93, go_sem, d2]
          · intro x1 x2 c kl yd yp w6 cnt6 hkey hlk hv6 hat6 hrg6 hlt6 hg6 hs6 hen6
            obtain ⟨x', ex, wx0, wx1⟩ := key_inv hkey
            obtain rfl := encK_inj ex
            have ekl : kl = klit x1 x2 := by rw [encK, key_is wx0 wx1] at hkey; exact (Option.some.inj hkey).symm
            subst ekl
            obtain ⟨v0, hlv, rfl⟩ : ∃ v0, lv r r.length x1 x2 = some v0 ∧ c = .int .i64 v0 := by
              have ey : yd = .held c := by simp [KV] at hv6; exact hv6.1.symm
              cases hc : lv r r.length x1 x2 with
              | none =>
                have e1 := hat6 (.held (.bool true))
                have e2 := hat6 (.held (.bool false))
                rw [hati.2 _ _ wx0 wx1] at e1 e2
                simp [lvV, hc] at e1 e2
                rw [← e2] at e1
                simp at e1
              | some v0 =>
                have e1 := hat6 (.held (.bool true))
                rw [hati.2 _ _ wx0 wx1] at e1
                simp [lvV, hc] at e1
                rw [ey] at e1
                simp at e1
                exact ⟨v0, rfl, e1.symm⟩
            obtain ⟨sa, sc, hget, hvo, hvk⟩ : ∃ sa sc, (f x1 x2).getD (.slice none 0 0) = .slice sa (listAt l x1 x2).length sc ∧ VersAt lo hi w2 (.slice sa (listAt l x1 x2).length sc) (listAt l x1 x2) ∧ (versOk (listAt l x1 x2) ∨ listAt l x1 x2 = []) := by
              rcases hmap x1 x2 wx0 wx1 with ⟨_, _, g2, _⟩ | ⟨_, g2⟩
              · rw [hlk] at g2; cases g2
              · rcases g2 with ⟨k1, k2, _⟩ | ⟨_, k3, a2, c2, k2, k4⟩
                · rw [k1, k2]
                  exact ⟨none, 0, rfl, ⟨none, 0, rfl, Nat.zero_le _, fun h => absurd h (Nat.lt_irrefl _)⟩, .inr rfl⟩
                · rw [k2]
                  exact ⟨a2, c2, rfl, k4, .inl k3⟩
            generalize hL : listAt l x1 x2 = L at *
            have hLn : L.length ≤ 200 := by
              rcases hvk with hvk | hvk
              · exact hvk.2.1
              · simp [hvk]
            have z23 := hb3.size
            have b6 : Below w2.heap.size w2 w6 := hb.grown hg6 hb.size (fun j hj => by cases hj; omega)
            have hown6 := hown.kept hg6 (by intro e; injection e with e; omega)
            have bA := below_alloc w6 (Obj.cells #[Value.int IntKind.i64 x1, Value.int IntKind.i64 x2] 46)
            have b7 := b6.trans (bA.mono b6.size)
            have hlk7 := look_vers (hown6.alloc (Obj.cells #[Value.int IntKind.i64 x1, Value.int IntKind.i64 x2] 46)) hat wx0 wx1
            rw [hget] at hlk7
            have hv7 := hvo.stays b7
            clear hkey hv6 ex
            unfold encK at hen6
            by_cases ht : tabB x1 = true
            · by_cases htk : takes L h
              · go_wp2_with (first | (go_at_call 118; refine (isTable_any _ _).mono ?_; rintro e w8 ⟨rfl, rfl⟩) | (go_at_call 129; refine (takesVer_any _ L _ _ hv7 hvk).mono ?_; rintro e w8 ⟨⟨q8, rfl, hq8⟩, hb8⟩; obtain rfl := hq8.2 htk; clear hq8))
                have hown8 := (hown6.alloc (Obj.cells #[Value.int IntKind.i64 x1, Value.int IntKind.i64 x2] 46)).kept (gb_below none hb8) (by simp)
                have hv8 := hv7.stays hb8
                have hc8 := hv8.cells
                have k0 : w8.cell? ⟨wo.heap.size, 0, none⟩ = some (.int .i64 x1) := cell_stays hb8 (by rw [← hs6]; simp [go_sem])
                have k1 : w8.cell? ⟨wo.heap.size, 1, none⟩ = some (.int .i64 x2) := cell_stays hb8 (by rw [← hs6]; simp [go_sem])
                have hS : ∀ x, Below w8.heap.size w8 x → x.cell? ⟨wo.heap.size, 0, none⟩ = some (.int .i64 x1) ∧ x.cell? ⟨wo.heap.size, 1, none⟩ = some (.int .i64 x2) ∧ (Instr.lookup 169 (.map (some bm)) (.agg #[.int .i64 x1, .int .i64 x2]) false).run Tryz.prog x = .ok (.slice sa L.length sc) x := fun x hx => by
                  have hlkx := look_vers (hown8.kept (gb_below none hx) (by simp)) hat wx0 wx1
                  rw [hget] at hlkx
                  exact ⟨cell_stays hx k0, cell_stays hx k1, hlkx⟩
                have HS : Hid (∀ x, Below w8.heap.size w8 x → _) := hS
                have z58 : w5.heap.size ≤ w8.heap.size := by have := hb8.size; simp at this; omega
                have HG : Hid ((f x1 x2).getD (.slice none 0 0) = .slice sa L.length sc) := hget
                have HLV : Hid (lv r r.length x1 x2 = some v0) := hlv
                have HM : Hid (IMap lo hi w2 w5.heap.size wo l h r left f) := hmap
                obtain ⟨e0, e1, e2⟩ := HS.out _ (Below.refl w8.heap.size w8).drew
                have e3 : ∀ o, ((w8.alloc o).drew).cell? ⟨wo.heap.size, 0, none⟩ = some (.int .i64 x1) := fun o => (HS.out _ ((Below.refl w8.heap.size w8).alloc (Nat.le_refl _) o).drew).1
                have e4 : ∀ o, ((w8.alloc o).drew).cell? ⟨wo.heap.size, 1, none⟩ = some (.int .i64 x2) := fun o => (HS.out _ ((Below.refl w8.heap.size w8).alloc (Nat.le_refl _) o).drew).2.1
                have e5 : ∀ o, (Instr.lookup 169 (.map (some bm)) (.agg #[.int .i64 x1, .int .i64 x2]) false).run Tryz.prog ((w8.alloc o).drew) = .ok (.slice sa L.length sc) ((w8.alloc o).drew) := fun o => (HS.out _ ((Below.refl w8.heap.size w8).alloc (Nat.le_refl _) o).drew).2.2
                have hnm : n < maxLen := by unfold maxLen; omega
                have hU : ∀ x, Below w8.heap.size w8 x → ∀ gg cap5, ∃ w11, (Instr.mapUpdate 169 (.map (some bm)) (.agg #[.int .i64 x1, .int .i64 x2]) (.slice (some ⟨gg, 0, none⟩) (L.length + 1) cap5)).run Tryz.prog x = .ok () w11 ∧ w11.ownsMap Tryz.prog 46 KV bm (n + 1) (D.put (klit x1 x2) (.held (.slice (some ⟨gg, 0, none⟩) (L.length + 1) cap5))) ∧ x.grownBy w11 (some bm) := fun x hx gg cap5 =>
                  (hown8.kept (gb_below none hx) (by simp)).update mlaw Tryz.underlying169 hnm (key_is wx0 wx1) (val := .slice (some ⟨gg, 0, none⟩) (L.length + 1) cap5) rfl
                have HU := hU
                change Hid _ at HU
                clear hU
                clear hS hget hlv hmap k0 k1 hv7 hv8 hlk7 hl hr hat6
                go_region_law ((first
                  | (rw [if_pos (by rfl)]; go_simp; go_at_call 104; refine (copyVer_block sa L.length sc (vcells L) _ (by omega) (vcells_length L) (vcells_one L) (by first | exact hc8.stays (Below.refl _ _).drew | exact hc8.stays ((Below.refl w8.heap.size w8).alloc (Nat.le_refl _) _).drew)).mono ?_; rintro e w9 ⟨rfl, hB9, hb9⟩; have z89 : w8.heap.size ≤ w9.heap.size := (by first | exact hb9.size | exact Nat.le_trans (by show w8.heap.size ≤ (w8.alloc _).heap.size; simp) hb9.size); have hO9 := ownsRow_of_block (base := w5.heap.size) hB9 (vcells_length L) (by first | exact z58 | (show w5.heap.size ≤ (w8.alloc _).heap.size; simp; omega)) (by unfold maxLen; omega); clear hB9; (try (change w9.ownsRow _ _ _ (Value.slice (some ⟨(w8.alloc _).heap.size, 0, none⟩) _ _) _ _ at hO9; rw [World.size_alloc] at hO9)); (try (have HN9 : Hid (w9.heap[w8.heap.size]? = some (Obj.cells #[Value.int IntKind.i64 h, Value.int IntKind.i64 v0] 123 (0, 0))) := (hb9.block w8.heap.size (by show w8.heap.size < (w8.alloc _).heap.size; simp)).trans (heap_alloc_new w8 _))); have bb9 : Below w8.heap.size w8 w9 := (by first | exact (Below.refl w8.heap.size w8).drew.trans hb9 | exact ((Below.refl w8.heap.size w8).alloc (Nat.le_refl _) _).drew.trans (hb9.mono (by show w8.heap.size ≤ (w8.alloc _).heap.size; simp))); obtain ⟨g0, g1, _⟩ := HS.out _ bb9; have g2 : ∀ o, (w9.alloc o).cell? ⟨wo.heap.size, 0, none⟩ = some (.int .i64 x1) := (fun o => cell_stays (below_alloc w9 o) g0); have g3 : ∀ o, (w9.alloc o).cell? ⟨wo.heap.size, 1, none⟩ = some (.int .i64 x2) := (fun o => cell_stays (below_alloc w9 o) g1); simp only [])
                  | (refine step_append_lies _ (by rfl) _ _ _ (by rfl) w5.heap.size 123 i0 _ 2 16 Tryz.underlying92 hI hz0 hz1 hz2 rfl (by omega) (.slice (some ⟨w8.heap.size, 0, none⟩) L.length L.length) L.length (vcells L) (by rfl) (hO9.alloc _) ⟨w9.heap.size, 0, none⟩ 1 1 [.int .i64 h, .int .i64 v0] (by rfl) (by rfl) (World.news_of_block (heap_alloc_new w9 _)) (by simp [Value.oneCell']) (by omega) (by unfold maxLen; omega) (by omega) (by simp; omega) (w9.heap.size + 1) (by simp) ?_; intro gg cap5 w10 hown10 hgrow hat10 hlt10; have hb10 : Below w8.heap.size w8 w10 := (((Below.refl w8.heap.size w8).drew.trans hb9).alloc z89 _).grown hgrow (by simp; omega) (fun k hk => by cases hk; simp); have hU10 := HU.out w10 hb10 gg cap5; rcases hU10 with ⟨w11, hrun11, hown11, hg11⟩; obtain ⟨f0, f1, _⟩ := HS.out _ hb10)
                  | (refine step_append_lies _ (by rfl) _ _ _ (by rfl) w5.heap.size 123 i0 _ 2 16 Tryz.underlying92 hI hz0 hz1 hz2 rfl (by omega) (.slice (some ⟨w8.heap.size + 1, 0, none⟩) L.length L.length) L.length (vcells L) (by rfl) hO9 ⟨w8.heap.size, 0, none⟩ 1 1 [.int .i64 h, .int .i64 v0] (by rfl) (by rfl) (World.news_of_block HN9.out) (by simp [Value.oneCell']) (by omega) (by unfold maxLen; omega) (by omega) (by omega) w9.heap.size rfl ?_; intro gg cap5 w10 hown10 hgrow hat10 hlt10; have hb10 : Below w8.heap.size w8 w10 := bb9.grown hgrow z89 (fun k hk => by cases hk; simp); have hU10 := HU.out w10 hb10 gg cap5; rcases hU10 with ⟨w11, hrun11, hown11, hg11⟩; obtain ⟨f0, f1, _⟩ := HS.out _ hb10)))
                all_goals (
                  subst hL
                  have e : (listAt l x1 x2 ++ [(h, v0)]).length = (listAt l x1 x2).length + 1 := by simp
                  have hV10 : VersAt w5.heap.size w10.heap.size w10 (.slice (some ⟨gg, 0, none⟩) (listAt l x1 x2 ++ [(h, v0)]).length cap5) (listAt l x1 x2 ++ [(h, v0)]) := by
                    refine versAt_of_owns (T := 123) ?_ (by rw [e]; unfold maxLen; omega)
                    rw [e, ← vcells_flatK, vcells_snoc]
                    exact hown10
                  have hV11 := (hV10.keep fun b h1 _ h3 => hg11.block b h3 (by intro e; injection e with e; omega)).wide (Nat.le_refl _) hg11.size
                  have z68 : wo.heap.size ≤ w8.heap.size := by have := hb8.size; simp at this; omega
                  have hkeep : ∀ b, w5.heap.size ≤ b → b < wo.heap.size → w11.heap[b]? = wo.heap[b]? := fun b h1 h2 => by
                    rw [hg11.block b (by have := hb10.size; omega) (by intro e; injection e with e; omega), hb10.block b (by omega), hb8.block b (by simp; omega), Below.heap_alloc _ _ _ (by omega), hg6.block b (by omega) (by intro e; injection e with e; omega)]
                  have hm11 := HM.out.step wx0 wx1 HLV.out ht htk hV11 hkeep (by have := hb10.size; have := hg11.size; omega)
                  have hrg11 := ((((hrg6.alloc (Obj.cells #[Value.int IntKind.i64 x1, Value.int IntKind.i64 x2] 46)).kept (gb_below none hb8) (by simp) (by simp)).kept (gb_below none hb10) (by simp) (by simp))).kept hg11 (by intro e; injection e with e; omega) (by intro e; injection e with e; omega)
                  have b8 := b7.trans (hb8.mono b7.size)
                  have b10 := b8.trans (hb10.mono b8.size)
                  have b11 := b10.grown hg11 b10.size (fun k hk => by cases hk; exact hbm)
                  have z11 : w5.heap.size ≤ w11.heap.size := by have := hb10.size; have := hg11.size; omega
                  have hat11 := hat.put wx0 wx1 (.slice (some ⟨gg, 0, none⟩) ((listAt l x1 x2).length + 1) cap5)
                  rw [e] at hm11
                  have HM11 : Hid (IMap lo hi w2 w5.heap.size w11 l h r _ _) := hm11
                  clear hV10 hV11 hkeep hm11 HM e
                  go_wp2
                  go_roundw
                  case rel => exact ⟨_, cnt6, n + 1, _, _, hrg11, hown11, by omega, hat11, b11, z11, HM11.out⟩
                  case measure => rw [hrg11.left_eq, hrg.left_eq]; exact hlt6)
              · have d0 := cell_stays b7 p1
                have d1 : ∀ x, Below (w6.alloc (Obj.cells #[Value.int IntKind.i64 x1, Value.int IntKind.i64 x2] 46)).heap.size (w6.alloc (Obj.cells #[Value.int IntKind.i64 x1, Value.int IntKind.i64 x2] 46)) x → x.cell? ⟨w.heap.size + 1, 0, none⟩ = some (.slice none 0 0) ∧ x.frozen? ⟨w.heap.size + 1, 0, none⟩ = false := fun x hx => ⟨cell_stays hx d0, by rw [hx.frozen (cell_lt d0), b7.frozen z1]; exact q1⟩
                go_wp2_with (first | (go_at_call 118; refine (isTable_any _ _).mono ?_; rintro e w8 ⟨rfl, rfl⟩) | (go_at_call 129; refine (takesVer_any _ L _ _ hv7 hvk).mono ?_; rintro e w8 ⟨⟨q8, rfl, hq8⟩, hb8⟩; obtain rfl := says_false hq8 htk; clear hq8; obtain ⟨d2, d3⟩ := d1 _ hb8))
                have b8 := b7.trans (hb8.mono b7.size)
                subst hL
                refine bodyPost_ret (v := .tuple #[.agg #[.slice none 0 0], .bool false]) ?_ rfl ⟨.inl ⟨fun hA => htk (hA.2.2.2 x1 x2 wx0 wx1 v0 hlv).2, rfl⟩, (b1.trans (b8.mono b1.size)).setCell (by simp) _⟩
                simp [results, Tryz.results93, go_sem, d2]
            · have ht' : tabB x1 = false := by simpa using ht
              have d0 := cell_stays b7 p1
              have d1 : (w6.alloc (Obj.cells #[Value.int IntKind.i64 x1, Value.int IntKind.i64 x2] 46)).frozen? ⟨w.heap.size + 1, 0, none⟩ = false := by rw [b7.frozen z1]; exact q1
              go_wp2_with (first | (go_at_call 118; refine (isTable_any _ _).mono ?_; rintro e w8 ⟨rfl, rfl⟩))
              refine bodyPost_ret (v := .tuple #[.agg #[.slice none 0 0], .bool false]) ?_ rfl ⟨.inl ⟨fun hA => ht (hA.2.2.2 x1 x2 wx0 wx1 v0 hlv).1, rfl⟩, (b1.trans (b7.mono b1.size)).setCell (by simp) _⟩
              simp [results, Tryz.results93, go_sem, d0]
    · have hh' : hourB h = false := by simpa using hh
      go_wp2_with (first | (go_at_call 106; refine (isHour_any _ _).mono ?_; rintro e w2 ⟨rfl, rfl⟩))
      refine bodyPost_ret (v := .tuple #[.agg #[.slice none 0 0], .bool false]) ?_ rfl ⟨.inl ⟨fun h => hh h.2.1, rfl⟩, b1.setCell (by simp) _⟩
      simp [results, Tryz.results93, go_sem, p1]
  · obtain rfl := says_false hq hs
    clear hq
    go_wp2
    refine bodyPost_ret (v := .tuple #[.agg #[.slice none 0 0], .bool false]) ?_ rfl ⟨.inl ⟨fun h => hs h.1, rfl⟩, b1.setCell (by simp) _⟩
    simp [results, Tryz.results93, go_sem, p1]

end Go.Proofs.YtmecbppblbmchaaGreatDoor
