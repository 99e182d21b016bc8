/- The specification's rows at an hour. -/
import Derived.Test.YtifdfelpbonckaaState
import Derived.Test.YtifdfelpbonckaaRead1
namespace Go.Proofs.Ytifdfelpbonckaa
open Go.ChangeShapes Go.WideShapes Go.ChangeAt Go.RowKit Go.Sort
set_option linter.unusedVariables false
set_option maxRecDepth 100000
attribute [local go_sem ↓] Go.wp_at_zero Go.wp_at_succ

/-- What the loop of the specification's StateAt holds on to. -/
def Held (w : World) (a : Option Addr) (n cap : Nat) (b o : Nat) (t r : Int) (u : Value) (rs : List Rw) (x : World) : Prop :=
  Below w.heap.size w x ∧ x.cell? ⟨w.heap.size, 0, none⟩ = some (.slice a n cap) ∧ x.cell? ⟨b, o, none⟩ = some (.int .i64 t) ∧ x.cell? ⟨b, o + 1, none⟩ = some (.int .i64 r) ∧ x.ownsRow (w.heap.size + 1) 38 3 u rs.length (flat rs)

theorem Held.kept {w x y : World} {a : Option Addr} {n cap b o : Nat} {t r : Int} {u : Value} {rs : List Rw} (h : Held w a n cap b o t r u rs x) (hb : Below x.heap.size x y) : Held w a n cap b o t r u rs y :=
  ⟨h.1.trans (hb.mono h.1.size), cell_stays hb h.2.1, cell_stays hb h.2.2.1, cell_stays hb h.2.2.2.1, ownsRow_below h.2.2.2.2 hb⟩

theorem Held.set {w y x : World} {a : Option Addr} {n cap b o : Nat} {t r : Int} {u : Value} {rs : List Rw} (h0 : Held w a n cap b o t r u rs y) (h : Held w a n cap b o t r u rs x) (hlt : w.heap.size < y.heap.size) (p p' : Value) :
    Held w a n cap b o t r u rs ((x.setCell ⟨y.heap.size, 0, none⟩ p).setCell ⟨y.heap.size, 1, none⟩ p') := by
  have e : ∀ k, k < y.heap.size → ((x.setCell ⟨y.heap.size, 0, none⟩ p).setCell ⟨y.heap.size, 1, none⟩ p').heap[k]? = x.heap[k]? := fun k hk => by
    rw [Below.heap_setCell _ _ _ _ (by simp; omega), Below.heap_setCell _ _ _ _ (by simp; omega)]
  refine ⟨(h.1.setCell (by simp; omega) _).setCell (by simp; omega) _, cell_same (e _ hlt) h.2.1, cell_same (e _ (cell_lt h0.2.2.1)) h.2.2.1, cell_same (e _ (cell_lt h0.2.2.2.1)) h.2.2.2.1, ?_⟩
  obtain ⟨h1, h2⟩ := h.2.2.2.2
  refine ⟨h1, ?_⟩
  rcases h2 with h2 | ⟨g, c, cur, hv, hg, hh, hr⟩
  · exact .inl h2
  · have := (h0.2.2.2.2.lt g (by rw [hv]; rfl)).2
    exact .inr ⟨g, c, cur, hv, hg, by rw [e g this]; exact hh, hr⟩

def Held2 (w : World) (a : Option Addr) (n cap : Nat) (b o : Nat) (t r : Int) (vb : Nat) (y : Int) (x : World) : Prop :=
  Below w.heap.size w x ∧ x.cell? ⟨w.heap.size, 0, none⟩ = some (.slice a n cap) ∧ x.cell? ⟨b, o, none⟩ = some (.int .i64 t) ∧ x.cell? ⟨b, o + 1, none⟩ = some (.int .i64 r) ∧ x.cell? ⟨vb, 1, none⟩ = some (.int .i64 y)
theorem Held2.kept {w x y : World} {a : Option Addr} {n cap b o vb : Nat} {t r z : Int} (h : Held2 w a n cap b o t r vb z x) (hb : Below x.heap.size x y) : Held2 w a n cap b o t r vb z y :=
  ⟨h.1.trans (hb.mono h.1.size), cell_stays hb h.2.1, cell_stays hb h.2.2.1, cell_stays hb h.2.2.2.1, cell_stays hb h.2.2.2.2⟩
theorem Held2.grown {w x y : World} {a : Option Addr} {n cap b o vb : Nat} {t r z : Int} {u : Value} {rs : List Rw} (h : Held2 w a n cap b o t r vb z x) (hown : x.ownsRow (w.heap.size + 1) 38 3 u rs.length (flat rs)) (hg : x.grownBy y u.ownBlock) (hb : b < w.heap.size) (hv : u.ownBlock ≠ some vb) : Held2 w a n cap b o t r vb z y := by
  have far : ∀ k, k ≤ w.heap.size → some k ≠ u.ownBlock := fun k hk e => by have := (hown.lt k e.symm).1; omega
  have hs := h.1.size
  exact ⟨h.1.trans (grown_below hown hg (by omega) hs), by rw [hg.cell_far _ (cell_lt h.2.1) (far _ (Nat.le_refl _))]; exact h.2.1, by rw [hg.cell_far _ (cell_lt h.2.2.1) (far b (by omega))]; exact h.2.2.1,
    by rw [hg.cell_far _ (cell_lt h.2.2.2.1) (far b (by omega))]; exact h.2.2.2.1, by rw [hg.cell_far _ (cell_lt h.2.2.2.2) (Ne.symm hv)]; exact h.2.2.2.2⟩

theorem owns_lower {w : World} {base base' : Nat} {e : TypeId} {size : Nat} {v : Value} {n : Nat} {xs : List Value} (h : w.ownsRow base e size v n xs) (hb : base' ≤ base) : w.ownsRow base' e size v n xs := by
  obtain ⟨h1, h2⟩ := h
  refine ⟨h1, ?_⟩
  rcases h2 with h2 | ⟨g, cap, cur, hv, hg, r⟩
  · exact .inl h2
  · exact .inr ⟨g, cap, cur, hv, by omega, r⟩

theorem read_own {l : List Ch} (hs : storeOk l) {k : Nat} (hk : k < l.length) {h : Int} {x : Vr} (hx : IsRead l (cAt l k).t (cAt l k).r h x) : IsLast (cAt l k).l h (cAt l k).l.length x := by
  rcases hx with ⟨_, h1⟩ | ⟨n, h1, h2, _, h4⟩
  · exact absurd ⟨rfl, rfl⟩ (h1 k hk)
  · obtain rfl := keys_one hs h1 hk h2 ⟨rfl, rfl⟩
    exact h4

theorem news3' {w : World} {B : Nat} {x y z : Value} {T : TypeId} (hb : w.heap[B]? = some (.cells #[x, y, z] T (0, 0))) : ∀ (j : Nat) (u : Value), [x, y, z][j]? = some u → w.cell? ((⟨B, 0, none⟩ : Addr).add j) = some u :=
  World.news_of_block hb

set_option maxHeartbeats 1000000 in
theorem specStateAt_any (v : Value) (l : List Ch) (h : Int) (w : World) {lo hi : Nat} (hl : ChainsAt lo hi w v l) :
    Calls Try.prog 13 #[.agg #[v], .int .i64 h] w fun e w' => ∃ rs v', e = .returned v' ∧ SAns l h rs ∧ OwnR w.heap.size w' v' rs ∧ Below w.heap.size w w' := by
  have hl2 := hl
  obtain ⟨a, cap, hv, hm, hc⟩ := hl2
  subst hv
  have hbx : Below w.heap.size w (w.alloc (Obj.cells #[Value.slice a l.length cap] 25)) := (Below.refl _ _).alloc (Nat.le_refl _) _
  obtain ⟨i0, hi, hz0, hz1, hz2⟩ := info_parts infoRow
  have hbr := build_row
  go_enter Try.func13, Try.ntmps13
  go_wp2_with fail
  refine (specStoreOk_any _ l _ (hl.stays hbx)).mono ?_
  rintro e w1 ⟨⟨q, rfl, hq⟩, hb1⟩
  have b1 := hbx.trans (hb1.mono hbx.size)
  have p0 : w1.cell? ⟨w.heap.size, 0, none⟩ = some (.slice a l.length cap) := cell_stays hb1 (by simp [go_sem])
  clear hb1 hbx
  by_cases hs : storeOk l
  · obtain rfl := hq.2 hs
    clear hq
    by_cases hh : hourB h = true
    · have h200 := hs.1
      go_wp2_with (first | (go_at_call 38; refine (l1hour_any _ _).mono ?_; rintro e w2 ⟨rfl, rfl⟩))
      go_loopw [5, 6] (fun x i wr => ∃ (k : Nat) (rs : List Rw), k ≤ l.length ∧ i = .int .i64 k ∧ St l h k rs ∧ wr.ownsRow (w.heap.size + 1) 38 3 x rs.length (flat rs) ∧ Below w.heap.size w wr ∧ wr.cell? ⟨w.heap.size, 0, none⟩ = some (.slice a l.length cap)) (fun _ i _ => l.length - (intOf i).toNat)
      case atStart => exact ⟨0, [], Nat.zero_le _, rfl, rfl, World.ownsRow_nil _ _ _ _, b1, p0⟩
      case round =>
        obtain ⟨k, rs, hk, rfl, hst, hown, hb, hp⟩ := hrel
        by_cases hlt : k < l.length
        · obtain ⟨b, off, rfl, hlo, hhi, hcc⟩ := hc (by omega)
          obtain ⟨c0, c1, a2, cap2, c2, c3⟩ := hcc k hlt
          have n0 : (0 : Int) ≤ (k : Int) := by omega
          have n1 : (k : Int) < (l.length : Int) := by omega
          have hlen := hst.len
          have hH : Held w (some ⟨b, off, none⟩) l.length cap b (off + k * 3) (cAt l k).t (cAt l k).r u5 rs wr := ⟨hb, hp, cell_stays hb c0, cell_stays hb c1, hown⟩
          have hws : w.heap.size < wr.heap.size := cell_lt hp
          have hbw : b < w.heap.size := cell_lt c0
          clear hcc hc c0 c1 c2 c3 p0
          go_wp2_with fail
          go_region_held3 (fun x => Below w.heap.size w x ∧ x.cell? ⟨w.heap.size, 0, none⟩ = some (.slice (some ⟨b, off, none⟩) l.length cap) ∧ x.cell? ⟨b, off + k * 3, none⟩ = some (.int .i64 (cAt l k).t) ∧ x.cell? ⟨b, off + k * 3 + 1, none⟩ = some (.int .i64 (cAt l k).r) ∧ x.ownsRow (w.heap.size + 1) 38 3 u5 rs.length (flat rs))
            (first | assumption | exact hH3 | exact hH3.kept (below_alloc _ _) | exact hH.set hH3 hws _ _ | exact hH.kept (Below.refl _ _).drew | exact hH.kept ((Below.refl _ _).drew.alloc (Nat.le_refl _) _))
            (first | (go_at_call 48; refine (l1read_any _ l _ _ h _ (hl.stays ?_)).mono ?_; (first | exact hb.drew | exact hb.drew.alloc hb.size _); rintro e w3 ⟨x, rfl, hx, hb3⟩; have hH3 : Held w (some ⟨b, off, none⟩) l.length cap b (off + k * 3) (cAt l k).t (cAt l k).r u5 rs w3 := by { first | exact (hH.kept (Below.refl _ _).drew).kept hb3 | exact (hH.kept ((Below.refl _ _).drew.alloc (Nat.le_refl _) _)).kept hb3 }; obtain ⟨hc3, hf3⟩ := bcell hb3))
          · --WAYA
            rename_i hW
            have hx' := read_own hs hlt hx
            have hs3 : wr.heap.size ≤ w3.heap.size := by have := hb3.size; simp at this; omega
            have hvb : u5.ownBlock ≠ some (w3.heap.size) := fun e => by have := (hown.lt _ e).2; omega
            have hV : Held2 w (some ⟨b, off, none⟩) l.length cap b (off + k * 3) (cAt l k).t (cAt l k).r (w3.heap.size) x.2 (w3.alloc (Obj.cells #[Value.int IntKind.i64 x.1, Value.int IntKind.i64 x.2] 69)) := ⟨hW.1, hW.2.1, hW.2.2.1, hW.2.2.2.1, by simp [go_sem]⟩
            have hvc := hV.2.2.2.2
            have hO := hW.2.2.2.2
            have hsz := hW.1.size
            have hblk : ((w3.alloc (Obj.cells #[Value.int IntKind.i64 x.1, Value.int IntKind.i64 x.2] 69)).alloc (Obj.cells #[Value.int IntKind.i64 (cAt l k).t, Value.int IntKind.i64 (cAt l k).r, Value.int IntKind.i64 x.2] 38)).drew.heap[w3.heap.size + 1]? = some (Obj.cells #[Value.int IntKind.i64 (cAt l k).t, Value.int IntKind.i64 (cAt l k).r, Value.int IntKind.i64 x.2] 38) := by have := Deep.blk_alloc_new (w3.alloc (Obj.cells #[Value.int IntKind.i64 x.1, Value.int IntKind.i64 x.2] 69)) (Obj.cells #[Value.int IntKind.i64 (cAt l k).t, Value.int IntKind.i64 (cAt l k).r, Value.int IntKind.i64 x.2] 38); rw [World.size_alloc] at this; exact this
            have hbs : w.heap.size + 1 ≤ ((w3.alloc (Obj.cells #[Value.int IntKind.i64 x.1, Value.int IntKind.i64 x.2] 69)).alloc (Obj.cells #[Value.int IntKind.i64 (cAt l k).t, Value.int IntKind.i64 (cAt l k).r, Value.int IntKind.i64 x.2] 38)).drew.heap.size := by show _ ≤ ((w3.alloc (Obj.cells #[Value.int IntKind.i64 x.1, Value.int IntKind.i64 x.2] 69)).alloc _).heap.size; rw [World.size_alloc]; omega
            have hbd : Below (w3.alloc (Obj.cells #[Value.int IntKind.i64 x.1, Value.int IntKind.i64 x.2] 69)).heap.size (w3.alloc (Obj.cells #[Value.int IntKind.i64 x.1, Value.int IntKind.i64 x.2] 69)) ((w3.alloc (Obj.cells #[Value.int IntKind.i64 x.1, Value.int IntKind.i64 x.2] 69)).alloc (Obj.cells #[Value.int IntKind.i64 (cAt l k).t, Value.int IntKind.i64 (cAt l k).r, Value.int IntKind.i64 x.2] 38)).drew := ((Below.refl _ _).alloc (Nat.le_refl _) _).drew
            clear hc3 hf3 hb3 hH3 hH hown hp
            by_cases hz : x.2 = 0
            · have hz' : (x.2 != 0) = false := by simp [hz]
              have HZ : Hid (x.2 = 0) := hz
              clear hz
              go_wp2
              go_roundw
              case rel => exact ⟨k + 1, rs, by omega, by go_num, ⟨rs, x, hst, hx', by rw [if_pos HZ.out]⟩, hO, hW.1, hW.2.1⟩
              case measure => simp [intOf]; omega
            · have hz' : (x.2 != 0) = true := by simp [hz]
              go_wp2_with fail
              go_region_held3 (fun y => Below w.heap.size w y ∧ y.cell? ⟨w.heap.size, 0, none⟩ = some (.slice (some ⟨b, off, none⟩) l.length cap) ∧ y.cell? ⟨b, off + k * 3, none⟩ = some (.int .i64 (cAt l k).t) ∧ y.cell? ⟨b, off + k * 3 + 1, none⟩ = some (.int .i64 (cAt l k).r) ∧ y.cell? ⟨w3.heap.size, 1, none⟩ = some (.int .i64 x.2))
                (first | assumption | exact hV5 | exact hV.kept (Below.refl _ _).drew | exact hV.kept hbd)
                ((refine step_append_lies _ (by rfl) _ _ 26 (by rfl) (w.heap.size + 1) 38 i0 _ 3 24 Try.underlying26 hi hz0 hz1 hz2 rfl (by decide) _ rs.length (flat rs) (by rfl) (ownsRow_below hO hbd) ⟨w3.heap.size + 1, 0, none⟩ 1 1 (cells3 ⟨(cAt l k).t, (cAt l k).r, x.2⟩) (by rfl) rfl (World.news_of_block hblk) (news3_one _ _ _) (by omega) (by unfold maxLen; omega) (by omega) hbs _ rfl ?_; intro g cap4 w4 hown4 hgrow hat hlt4; have hV5 : Held2 w (some ⟨b, off, none⟩) l.length cap b (off + k * 3) (cAt l k).t (cAt l k).r (w3.heap.size) x.2 w4 := (hV.kept hbd).grown (ownsRow_below hO hbd) hgrow hbw hvb))
              go_wp2
              go_roundw
              case rel => exact ⟨k + 1, rs ++ [⟨(cAt l k).t, (cAt l k).r, x.2⟩], by omega, by go_num, ⟨rs, x, hst, hx', by rw [if_neg hz]⟩, by rw [flat_snoc]; simpa using hown4, hV5.1, hV5.2.1⟩
              case measure => simp [intOf]; omega
          · --WAYB
            rename_i hW
            have hx' := read_own hs hlt hx
            have hs3 : wr.heap.size ≤ w3.heap.size := by have := hb3.size; simp at this; omega
            have hvb : u5.ownBlock ≠ some (wr.heap.size) := fun e => by have := (hown.lt _ e).2; omega
            have hV : Held2 w (some ⟨b, off, none⟩) l.length cap b (off + k * 3) (cAt l k).t (cAt l k).r (wr.heap.size) x.2 ((w3.setCell ⟨wr.heap.size, 0, none⟩ (Value.int IntKind.i64 x.1)).setCell ⟨wr.heap.size, 1, none⟩ (Value.int IntKind.i64 x.2)) := ⟨hW.1, hW.2.1, hW.2.2.1, hW.2.2.2.1, by simp [go_sem, hc3]⟩
            have hvc := hV.2.2.2.2
            have hO := hW.2.2.2.2
            have hsz := hW.1.size
            have hblk : (((w3.setCell ⟨wr.heap.size, 0, none⟩ (Value.int IntKind.i64 x.1)).setCell ⟨wr.heap.size, 1, none⟩ (Value.int IntKind.i64 x.2)).alloc (Obj.cells #[Value.int IntKind.i64 (cAt l k).t, Value.int IntKind.i64 (cAt l k).r, Value.int IntKind.i64 x.2] 38)).drew.heap[w3.heap.size]? = some (Obj.cells #[Value.int IntKind.i64 (cAt l k).t, Value.int IntKind.i64 (cAt l k).r, Value.int IntKind.i64 x.2] 38) := by have := Deep.blk_alloc_new ((w3.setCell ⟨wr.heap.size, 0, none⟩ (Value.int IntKind.i64 x.1)).setCell ⟨wr.heap.size, 1, none⟩ (Value.int IntKind.i64 x.2)) (Obj.cells #[Value.int IntKind.i64 (cAt l k).t, Value.int IntKind.i64 (cAt l k).r, Value.int IntKind.i64 x.2] 38); simp only [size_setCell] at this; exact this
            have hbs : w.heap.size + 1 ≤ (((w3.setCell ⟨wr.heap.size, 0, none⟩ (Value.int IntKind.i64 x.1)).setCell ⟨wr.heap.size, 1, none⟩ (Value.int IntKind.i64 x.2)).alloc (Obj.cells #[Value.int IntKind.i64 (cAt l k).t, Value.int IntKind.i64 (cAt l k).r, Value.int IntKind.i64 x.2] 38)).drew.heap.size := by show _ ≤ (((w3.setCell ⟨wr.heap.size, 0, none⟩ (Value.int IntKind.i64 x.1)).setCell ⟨wr.heap.size, 1, none⟩ (Value.int IntKind.i64 x.2)).alloc _).heap.size; rw [World.size_alloc]; omega
            have hbd : Below ((w3.setCell ⟨wr.heap.size, 0, none⟩ (Value.int IntKind.i64 x.1)).setCell ⟨wr.heap.size, 1, none⟩ (Value.int IntKind.i64 x.2)).heap.size ((w3.setCell ⟨wr.heap.size, 0, none⟩ (Value.int IntKind.i64 x.1)).setCell ⟨wr.heap.size, 1, none⟩ (Value.int IntKind.i64 x.2)) (((w3.setCell ⟨wr.heap.size, 0, none⟩ (Value.int IntKind.i64 x.1)).setCell ⟨wr.heap.size, 1, none⟩ (Value.int IntKind.i64 x.2)).alloc (Obj.cells #[Value.int IntKind.i64 (cAt l k).t, Value.int IntKind.i64 (cAt l k).r, Value.int IntKind.i64 x.2] 38)).drew := ((Below.refl _ _).alloc (Nat.le_refl _) _).drew
            clear hc3 hf3 hb3 hH3 hH hown hp
            by_cases hz : x.2 = 0
            · have hz' : (x.2 != 0) = false := by simp [hz]
              have HZ : Hid (x.2 = 0) := hz
              clear hz
              go_wp2
              go_roundw
              case rel => exact ⟨k + 1, rs, by omega, by go_num, ⟨rs, x, hst, hx', by rw [if_pos HZ.out]⟩, hO, hW.1, hW.2.1⟩
              case measure => simp [intOf]; omega
            · have hz' : (x.2 != 0) = true := by simp [hz]
              go_wp2_with fail
              go_region_held3 (fun y => Below w.heap.size w y ∧ y.cell? ⟨w.heap.size, 0, none⟩ = some (.slice (some ⟨b, off, none⟩) l.length cap) ∧ y.cell? ⟨b, off + k * 3, none⟩ = some (.int .i64 (cAt l k).t) ∧ y.cell? ⟨b, off + k * 3 + 1, none⟩ = some (.int .i64 (cAt l k).r) ∧ y.cell? ⟨wr.heap.size, 1, none⟩ = some (.int .i64 x.2))
                (first | assumption | exact hV5 | exact hV.kept (Below.refl _ _).drew | exact hV.kept hbd)
                ((refine step_append_lies _ (by rfl) _ _ 26 (by rfl) (w.heap.size + 1) 38 i0 _ 3 24 Try.underlying26 hi hz0 hz1 hz2 rfl (by decide) _ rs.length (flat rs) (by rfl) (ownsRow_below hO hbd) ⟨w3.heap.size, 0, none⟩ 1 1 (cells3 ⟨(cAt l k).t, (cAt l k).r, x.2⟩) (by rfl) rfl (World.news_of_block hblk) (news3_one _ _ _) (by omega) (by unfold maxLen; omega) (by omega) hbs _ rfl ?_; intro g cap4 w4 hown4 hgrow hat hlt4; have hV5 : Held2 w (some ⟨b, off, none⟩) l.length cap b (off + k * 3) (cAt l k).t (cAt l k).r (wr.heap.size) x.2 w4 := (hV.kept hbd).grown (ownsRow_below hO hbd) hgrow hbw hvb))
              go_wp2
              go_roundw
              case rel => exact ⟨k + 1, rs ++ [⟨(cAt l k).t, (cAt l k).r, x.2⟩], by omega, by go_num, ⟨rs, x, hst, hx', by rw [if_neg hz]⟩, by rw [flat_snoc]; simpa using hown4, hV5.1, hV5.2.1⟩
              case measure => simp [intOf]; omega
        · have hkl : k = l.length := by omega
          subst hkl
          clear hc
          go_wp2
          go_ret
          exact ⟨rs, _, rfl, .inr ⟨⟨hs, hh⟩, hst⟩, OwnR.of_ownsRow (owns_lower hown (Nat.le_succ _)), hb⟩
    · have hh' : hourB h = false := by simpa using hh
      clear hc
      go_wp2_with (first | (go_at_call 38; refine (l1hour_any _ _).mono ?_; rintro e w2 ⟨rfl, rfl⟩))
      go_ret
      exact ⟨[], _, rfl, .inl ⟨fun h => hh h.2, rfl⟩, .inl ⟨rfl, rfl⟩, b1⟩
  · obtain rfl := says_false hq hs
    clear hq hc
    go_wp2
    go_ret
    exact ⟨[], _, rfl, .inl ⟨fun h => hs h.1, rfl⟩, .inl ⟨rfl, rfl⟩, b1⟩

end Go.Proofs.Ytifdfelpbonckaa
