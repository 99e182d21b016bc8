/- The program's ownedOnce: each node has one owner. -/
import Derived.Test.YtjikmpdgednlaaaYClaim
namespace Go.Proofs.Ytjikmpdgednlaaa
open Go.ChangeShapes Go.WideShapes Go.ChangeAt Go.RowKit
set_option linter.unusedVariables false
set_option maxRecDepth 100000
attribute [local go_sem ↓] Go.wp_at_zero Go.wp_at_succ

def oKids (i : Nat) : List Int → List Int → Option (List Int)
  | [], L => some L
  | x :: r, L => if x < 0 ∨ (i : Int) ≤ x ∨ x ∈ L then none else oKids i r (L ++ [x])
def oNodes (l : List Nd) : Nat → Nat → List Int → Option (List Int)
  | 0, _, L => some L
  | n + 1, i, L => (oKids i (ndAt l i).kids L).bind fun L => oNodes l n (i + 1) L
def ownF (l : List Nd) (p : List Pr) : Bool := match (oNodes l l.length 0 []).bind fun L => oKids l.length (p.map (·.body)) L with
  | none => false
  | some L => (List.range l.length).all fun x => decide ((x : Int) ∈ L)

theorem infoB : (Try.prog.info? 4).map (fun i => (i.zero, i.size, i.bytes)) = some (some (.bool false), 1, 1) := by kernel_rfl
theorem mk_owned (n : Nat) (hn : n ≤ 1048576) (w : World) :
    (Instr.makeSlice 113 (.int .i64 (n : Int)) (.int .i64 (n : Int))).run Try.prog w = .ok (.slice (some ⟨w.heap.size, 0, none⟩) n n) (w.alloc (.cells (madeCells #[.bool false] n) 4)) := by
  obtain ⟨i, hi, hz0, hz1, hz2⟩ := info_parts infoB
  have hr := run_make (P := Try.prog) w 113 4 i _ Try.underlying113 hi hz0 .i64 .i64 n n (by omega) (Int.le_refl _) (by rw [hz2]; omega) (by omega)
  simpa [hz1, Value.cells] using hr
theorem owned_new (w : World) (n : Nat) : RowOf (w.alloc (.cells (madeCells #[.bool false] n) 4)) w.heap.size 4 n (of []) :=
  ⟨_, Deep.blk_alloc_new w _, by rw [size_madeCells]; exact Nat.le_refl _, fun i hi => by simp [madeCells, hi, of, Nat.mod_one]⟩

/-- Is there one without an owner? -/
def lackF (n : Nat) (L : List Int) : Bool := (List.range n).any fun x => decide (¬ (x : Int) ∈ L)
set_option maxHeartbeats 2000000 in
theorem index_any {w : World} {U n cap : Nat} {L : List Int} (h : RowOf w U 4 n (of L)) (hn : n ≤ 1048576) :
    Calls Try.prog 85 #[.slice (some ⟨U, 0, none⟩) n cap, .bool false] w fun e w' => w' = w ∧ ((lackF n L = true ∧ ∃ m : Nat, e = .returned (.int .i64 (m : Int))) ∨ (lackF n L = false ∧ e = .returned (.int .i64 (-1)))) := by
  go_enter Try.func85, Try.ntmps85
  go_wp2
  go_loopw [8] (fun t8 wr => ∃ m : Nat, t8 = .int .i64 (m : Int) ∧ m ≤ n ∧ wr = w ∧ ∀ x : Nat, x < m → (x : Int) ∈ L) (fun t8 _ => n - (intOf t8).toNat)
  case atStart => exact ⟨0, rfl, Nat.zero_le _, rfl, fun x hx => absurd hx (Nat.not_lt_zero _)⟩
  case round =>
    rename World => wo
    obtain ⟨m, rfl, hm, rfl, hall⟩ := hrel
    by_cases hlt : m < n
    · have m0 : (0 : Int) ≤ (m : Int) := by omega
      have m1 : (m : Int) < (n : Int) := by omega
      have c0 := h.cell hlt
      simp only [of] at c0
      by_cases hx : (m : Int) ∈ L
      · rw [decide_eq_true hx] at c0
        have hall2 : ∀ x : Nat, x < m + 1 → (x : Int) ∈ L := fun x hx2 => by
          by_cases e : x = m
          · subst e; exact hx
          · exact hall x (by omega)
        clear hall hx
        change Hid _ at hall2
        go_wp2
        go_roundw
        case rel => exact ⟨m + 1, by go_num, by omega, trivial, hall2.out⟩
        case measure => simp [intOf]; omega
      · rw [decide_eq_false hx] at c0
        have e : lackF n L = true := List.any_eq_true.2 ⟨m, List.mem_range.2 hlt, by simpa using hx⟩
        clear hall hx
        change Hid _ at e
        go_wp2
        go_ret
        exact ⟨rfl, .inl ⟨e.out, m, rfl⟩⟩
    · have hlt' : ¬ (m : Int) < (n : Int) := by omega
      have e : lackF n L = false := by
        rw [lackF, List.any_eq_false]
        intro x hx
        rw [List.mem_range] at hx
        simpa using hall x (by omega)
      clear hall
      change Hid _ at e
      go_wp2
      go_ret
      exact ⟨rfl, .inr ⟨e.out, rfl⟩⟩

theorem contains_any {w : World} {U n cap : Nat} {L : List Int} (h : RowOf w U 4 n (of L)) (hn : n ≤ 1048576) :
    Calls Try.prog 77 #[.slice (some ⟨U, 0, none⟩) n cap, .bool false] w fun e w' => w' = w ∧ e = .returned (.bool (lackF n L)) := by
  go_enter Try.func77, Try.ntmps77
  go_wp2_with fail
  refine (index_any h hn).mono ?_
  rintro e w1 ⟨rfl, ⟨hl, m, rfl⟩ | ⟨hl, rfl⟩⟩
  · have m0 : (0 : Int) ≤ (m : Int) := by omega
    change Hid _ at hl
    go_wp2
    go_ret
    exact ⟨rfl, by rw [hl.out]; rfl⟩
  · change Hid _ at hl
    go_wp2
    go_ret
    exact ⟨rfl, by rw [hl.out]; rfl⟩

theorem drop_kid' {l : List Int} {j : Nat} (hj : j < l.length) : l.drop j = iAt l j :: l.drop (j + 1) := by
  rw [List.drop_eq_getElem_cons hj]
  simp [iAt, hj]
def ownR (l : List Nd) (p : List Pr) (r : Option (List Int)) : Bool := match r.bind fun L => oKids l.length (p.map (·.body)) L with
  | none => false
  | some L => (List.range l.length).all fun x => decide ((x : Int) ∈ L)
def ownE (l : List Nd) (r : Option (List Int)) : Bool := match r with
  | none => false
  | some L => (List.range l.length).all fun x => decide ((x : Int) ∈ L)
theorem ownE_lack (l : List Nd) (L : List Int) : ownE l (some L) = !(lackF l.length L) := by
  show ((List.range l.length).all fun x => decide ((x : Int) ∈ L)) = !((List.range l.length).any fun x => decide (¬ (x : Int) ∈ L))
  rw [List.not_any_eq_all_not]
  congr 1
  funext x
  by_cases h : (x : Int) ∈ L <;> simp [h]

set_option maxHeartbeats 8000000 in
theorem ownedOnce_any (v u : Value) (l : List Nd) (p : List Pr) (w : World) {lo hi : Nat} (h : SetAt lo hi w v u l p) (hl : l.length ≤ 4000) :
    Calls Try.prog 62 #[.agg #[v, u]] w fun e w' => e = .returned (.bool (ownF l p)) ∧ Below w.heap.size w w' := by
  obtain ⟨a, c, b, d, rfl, rfl⟩ := h.forms
  have bA : Below w.heap.size w (w.alloc (Obj.cells #[.slice a l.length c, .slice b p.length d] 36)) := (Below.refl _ _).alloc (Nat.le_refl _) _
  have y0 : (w.alloc (Obj.cells #[.slice a l.length c, .slice b p.length d] 36)).cell? ⟨w.heap.size, 0, none⟩ = some (.slice a l.length c) := by simp [go_sem]
  have y1 : (w.alloc (Obj.cells #[.slice a l.length c, .slice b p.length d] 36)).cell? ⟨w.heap.size, 1, none⟩ = some (.slice b p.length d) := by simp [go_sem]
  have hT : ownF l p = ownR l p (oNodes l l.length 0 []) := rfl
  obtain ⟨TOP, hTOP⟩ : ∃ r, ownF l p = r := ⟨_, rfl⟩
  rw [hTOP] at hT ⊢
  clear hTOP
  change Hid _ at hT
  have hmk := mk_owned l.length (by omega)
  have hU0 := owned_new (w.alloc (Obj.cells #[.slice a l.length c, .slice b p.length d] 36)) l.length
  have hzA : (w.alloc (Obj.cells #[.slice a l.length c, .slice b p.length d] 36)).heap.size = w.heap.size + 1 := by simp
  rw [hzA] at hU0
  go_enter Try.func62, Try.ntmps62
  go_wp2_with fail
  clear hmk
  obtain ⟨B, hB⟩ : ∃ b, b = w.heap.size := ⟨_, rfl⟩
  rw [← hB] at y0 y1 hU0 hzA ⊢
  have VU : ∀ x : World, Below (B + 1) ((w.alloc (Obj.cells #[.slice a l.length c, .slice b p.length d] 36))) x → x.cell? ⟨B, 0, none⟩ = some (.slice a l.length c) ∧ x.cell? ⟨B, 1, none⟩ = some (.slice b p.length d) ∧ Below w.heap.size w x := fun x hx => by
    rw [← hzA] at hx
    exact ⟨cell_stays hx y0, cell_stays hx y1, bA.trans (hx.mono bA.size)⟩
  have bU0 : Below (B + 1) (w.alloc (Obj.cells #[.slice a l.length c, .slice b p.length d] 36)) ((w.alloc (Obj.cells #[.slice a l.length c, .slice b p.length d] 36)).alloc (.cells (madeCells #[.bool false] l.length) 4)) := by rw [← hzA]; exact (Below.refl _ _).alloc (Nat.le_refl _) _
  clear bA y0 y1 hzA hB
  generalize (w.alloc (Obj.cells #[.slice a l.length c, .slice b p.length d] 36)) = wA at *
  generalize wA.alloc (.cells (madeCells #[.bool false] l.length) 4) = wU at *
  go_loopw [17] (fun t17 wr => ∃ (i : Nat) (L : List Int), t17 = .int .i64 (i : Int) ∧ i ≤ l.length ∧ Below (B + 1) wA wr ∧ RowOf wr (B + 1) 4 l.length (of L) ∧ Hid (TOP = ownR l p (oNodes l (l.length - i) i L))) (fun t17 _ => l.length - (intOf t17).toNat)
  case atStart => exact ⟨0, [], rfl, Nat.zero_le _, bU0, hU0, hT⟩
  case round =>
    clear hT bU0 hU0
    rename World => wo
    obtain ⟨i, L, rfl, hi, hbo, hR, hT⟩ := hrel
    obtain ⟨y0, y1, bW⟩ := VU _ hbo
    by_cases hlt : i < l.length
    · obtain ⟨a1, c1, e1, hm1, hcc⟩ := id h.1
      cases e1
      obtain ⟨nb, off, rfl, hlo, hhi, hcl⟩ := hcc (by omega)
      obtain ⟨n0, n1, n2, ka, kc, n3, Ki⟩ := hcl i hlt
      replace n0 := cell_stays bW n0
      replace n1 := cell_stays bW n1
      replace n2 := cell_stays bW n2
      replace n3 := cell_stays bW n3
      obtain ⟨m, hm⟩ : ∃ m, l.length - i = m + 1 := ⟨l.length - i - 1, by omega⟩
      replace hT := hT.out; rw [hm, oNodes] at hT; change Hid _ at hT
      have i0 : (0 : Int) ≤ (i : Int) := by omega
      have i1 : (i : Int) < (l.length : Int) := by omega
      have hz := hR.lt
      have bL : Below wo.heap.size wo (wo.alloc (Obj.cells #[.int .i64 (ndAt l i).k, .string (ndAt l i).s, .int .i64 (ndAt l i).n, .slice ka (ndAt l i).kids.length kc] 72)) := (Below.refl _ _).alloc (Nat.le_refl _) _
      have hbL : Below (B + 1) wA (wo.alloc (Obj.cells #[.int .i64 (ndAt l i).k, .string (ndAt l i).s, .int .i64 (ndAt l i).n, .slice ka (ndAt l i).kids.length kc] 72)) := hbo.trans (bL.mono (by omega))
      have hRL := hR.of_block (w' := wo.alloc (Obj.cells #[.int .i64 (ndAt l i).k, .string (ndAt l i).s, .int .i64 (ndAt l i).n, .slice ka (ndAt l i).kids.length kc] 72)) (bL.block _ hz)
      have q3 : (wo.alloc (Obj.cells #[.int .i64 (ndAt l i).k, .string (ndAt l i).s, .int .i64 (ndAt l i).n, .slice ka (ndAt l i).kids.length kc] 72)).cell? ⟨wo.heap.size, 3, none⟩ = some (.slice ka (ndAt l i).kids.length kc) := by simp [go_sem]
      have hkm : (ndAt l i).kids.length ≤ 9223372036854775807 := by obtain ⟨_, _, _, hm, _⟩ := Ki; unfold maxLen at hm; omega
      clear hcc hcl
      go_wp2_with fail
      clear bL n0 n1 n2 n3 hR y0 y1 bW hbo q3 hz
      generalize wo.alloc (Obj.cells #[.int .i64 (ndAt l i).k, .string (ndAt l i).s, .int .i64 (ndAt l i).n, .slice ka (ndAt l i).kids.length kc] 72) = wL at *
      go_loopw [25] (fun t25 wr => ∃ (j : Nat) (L : List Int), t25 = .int .i64 (j : Int) ∧ j ≤ (ndAt l i).kids.length ∧ Below (B + 1) wA wr ∧ RowOf wr (B + 1) 4 l.length (of L) ∧ Hid (TOP = ownR l p ((oKids i ((ndAt l i).kids.drop j) L).bind fun L => oNodes l m (i + 1) L))) (fun t25 _ => (ndAt l i).kids.length - (intOf t25).toNat)
      case atStart => exact ⟨0, L, rfl, Nat.zero_le _, hbL, hRL, hT⟩
      case round =>
        clear hT hRL hbL
        rename World => wi
        obtain ⟨j, L', rfl, hj, hbi, hR, hT⟩ := hrel
        obtain ⟨y0, y1, bW⟩ := VU _ hbi
        by_cases hjl : j < (ndAt l i).kids.length
        · obtain ⟨ka', kc', e2, hm2, hkk⟩ := id Ki
          cases e2
          obtain ⟨kb, koff, rfl, hklo, hkhi, hkc⟩ := hkk (by omega)
          have kj := cell_stays bW (hkc j hjl)
          have j0 : (0 : Int) ≤ (j : Int) := by omega
          have j1 : (j : Int) < ((ndAt l i).kids.length : Int) := by omega
          have i2 : (i : Int) ≤ (l.length : Int) := by omega
          clear hkk hkc
          replace hT := hT.out
          rw [drop_kid' hjl, oKids] at hT
          generalize iAt (ndAt l i).kids j = xv at *
          by_cases hx : xv < 0 ∨ (i : Int) ≤ xv ∨ xv ∈ L'
          · rw [if_pos hx] at hT
            have e : TOP = false := by rw [hT]; rfl
            clear hT
            subst e
            go_wp2_with fail
            refine (claim_no hR (by omega) xv hx).mono ?_
            rintro er w2 ⟨rfl, rfl⟩
            go_wp2
            go_ret
            exact ⟨rfl, bW⟩
          · rw [if_neg hx] at hT
            change Hid _ at hT
            obtain ⟨xn, rfl⟩ := Int.eq_ofNat_of_zero_le (show 0 ≤ xv by omega)
            have hxn : ¬ (xn : Int) ∈ L' := fun hm => hx (.inr (.inr hm))
            have hxi : xn < i := by omega
            clear hx
            change Hid _ at hxn
            have hR2 := owned_more hR (show xn < l.length by omega)
            have hb2 : Below (B + 1) wA (wi.setCell ⟨B + 1, xn, none⟩ (.bool true)) := hbi.setCell (by exact Nat.le_refl _) _
            go_wp2_with fail
            refine (claim_yes hR (by omega) xn hxi hxn.out).mono ?_
            rintro er w2 ⟨rfl, rfl⟩
            clear hR bW y0 y1 kj hbi
            generalize wi.setCell ⟨B + 1, xn, none⟩ (.bool true) = w3 at *
            go_wp2
            go_roundw
            case rel => exact ⟨j + 1, L' ++ [(xn : Int)], by go_num, by omega, hb2, hR2, hT⟩
            case measure => simp [intOf]; omega
        · have hje : j = (ndAt l i).kids.length := by omega
          have hjl' : ¬ (j : Int) < ((ndAt l i).kids.length : Int) := by omega
          replace hT := hT.out
          rw [hje, List.drop_length, oKids, Option.bind_some] at hT
          have hm2 : l.length - (i + 1) = m := by omega
          rw [← hm2] at hT
          change Hid _ at hT
          clear hje hm2 hm
          go_wp2
          go_roundw
          case rel => exact ⟨i + 1, L', by go_num, by omega, hbi, hR, hT⟩
          case measure => simp [intOf]; omega
    · have hlt' : ¬ (i : Int) < (l.length : Int) := by omega
      replace hT := hT.out
      rw [show l.length - i = 0 from by omega, oNodes] at hT
      have hT2 : Hid (TOP = ownE l (oKids l.length ((p.map (·.body)).drop 0) L)) := by show _ = _; rw [hT, List.drop_zero]; rfl
      clear hT
      obtain ⟨a1, c1, e1, hm1, hcc⟩ := id h.2
      cases e1
      unfold maxLen at hm1
      go_wp2_with fail
      go_loopw [40] (fun t40 wr => ∃ (k : Nat) (L : List Int), t40 = .int .i64 (k : Int) ∧ k ≤ p.length ∧ Below (B + 1) wA wr ∧ RowOf wr (B + 1) 4 l.length (of L) ∧ Hid (TOP = ownE l (oKids l.length ((p.map (·.body)).drop k) L))) (fun t40 _ => p.length - (intOf t40).toNat)
      case atStart => exact ⟨0, L, rfl, Nat.zero_le _, hbo, hR, hT2⟩
      case round =>
        clear hT2 hR y0 y1 bW hbo hlt hlt' hi
        rename World => wi
        obtain ⟨k, L', rfl, hk, hbi, hR, hT⟩ := hrel
        obtain ⟨y0, y1, bW⟩ := VU _ hbi
        by_cases hkl : k < p.length
        · obtain ⟨pb, off, rfl, hlo, hhi, hcl⟩ := hcc (by omega)
          obtain ⟨n0, ⟨ka, kc, n1, Ki⟩, n2⟩ := hcl k hkl
          replace n0 := cell_stays bW n0
          replace n1 := cell_stays bW n1
          replace n2 := cell_stays bW n2
          have k0 : (0 : Int) ≤ (k : Int) := by omega
          have k1 : (k : Int) < (p.length : Int) := by omega
          have hz := hR.lt
          have hdk : (p.map (·.body)).drop k = (prAt p k).body :: (p.map (·.body)).drop (k + 1) := by
            rw [List.drop_eq_getElem_cons (by simpa using hkl)]
            simp [prAt, hkl]
          replace hT := hT.out
          rw [hdk, oKids] at hT
          have bL : Below wi.heap.size wi (wi.alloc (Obj.cells #[.string (prAt p k).name, .slice ka (prAt p k).ps.length kc, .int .i64 (prAt p k).body] 73)) := (Below.refl _ _).alloc (Nat.le_refl _) _
          have hbL : Below (B + 1) wA (wi.alloc (Obj.cells #[.string (prAt p k).name, .slice ka (prAt p k).ps.length kc, .int .i64 (prAt p k).body] 73)) := hbi.trans (bL.mono (by omega))
          have BW := bW.trans (bL.mono bW.size)
          have q2 : (wi.alloc (Obj.cells #[.string (prAt p k).name, .slice ka (prAt p k).ps.length kc, .int .i64 (prAt p k).body] 73)).cell? ⟨wi.heap.size, 2, none⟩ = some (.int .i64 (prAt p k).body) := by simp [go_sem]
          have hRL := hR.of_block (w' := wi.alloc (Obj.cells #[.string (prAt p k).name, .slice ka (prAt p k).ps.length kc, .int .i64 (prAt p k).body] 73)) (bL.block _ hz)
          clear hdk hcl hcc
          generalize hxv : (prAt p k).body = xv at *
          by_cases hx : xv < 0 ∨ (l.length : Int) ≤ xv ∨ xv ∈ L'
          · rw [if_pos hx] at hT
            have e : TOP = false := by rw [hT]; rfl
            clear hT
            subst e
            go_wp2_with fail
            refine (claim_no hRL (Nat.le_refl _) xv hx).mono ?_
            rintro er w2 ⟨rfl, rfl⟩
            go_wp2
            go_ret
            exact ⟨rfl, BW⟩
          · rw [if_neg hx] at hT
            change Hid _ at hT
            obtain ⟨xn, rfl⟩ := Int.eq_ofNat_of_zero_le (show 0 ≤ xv by omega)
            have hxn : ¬ (xn : Int) ∈ L' := fun hm => hx (.inr (.inr hm))
            have hxi : xn < l.length := by omega
            clear hx
            change Hid _ at hxn
            have hR2 := owned_more hRL hxi
            have hb2 : Below (B + 1) wA ((wi.alloc (Obj.cells #[.string (prAt p k).name, .slice ka (prAt p k).ps.length kc, .int .i64 (xn : Int)] 73)).setCell ⟨B + 1, xn, none⟩ (.bool true)) := hbL.setCell (by exact Nat.le_refl _) _
            go_wp2_with fail
            refine (claim_yes hRL (Nat.le_refl _) xn hxi hxn.out).mono ?_
            rintro er w2 ⟨rfl, rfl⟩
            clear hR hRL bW y0 y1 BW bL hbL q2 n0 n1 n2
            generalize (wi.alloc (Obj.cells #[.string (prAt p k).name, .slice ka (prAt p k).ps.length kc, .int .i64 (xn : Int)] 73)).setCell ⟨B + 1, xn, none⟩ (.bool true) = w3 at *
            go_wp2
            go_roundw
            case rel => exact ⟨k + 1, L' ++ [(xn : Int)], by go_num, by omega, hb2, hR2, hT⟩
            case measure => simp [intOf]; omega
        · have hkl' : ¬ (k : Int) < (p.length : Int) := by omega
          replace hT := hT.out
          rw [show k = (p.map (·.body)).length from by simp; omega, List.drop_length, oKids, ownE_lack] at hT
          change Hid _ at hT
          go_wp2_with fail
          refine (contains_any hR (by omega)).mono ?_
          rintro er w2 ⟨rfl, rfl⟩
          go_wp2
          go_ret
          exact ⟨by rw [hT.out]; rfl, bW⟩

end Go.Proofs.Ytjikmpdgednlaaa
