/- For every code, the law of trees returns true: in what is read of the drawn text kids stand ahead of what they belong to, and each node belongs to one; what can't be read is told with a place in the text. No condition. -/
import Derived.Test.YtkdlgglikhbnkacTreesP
import Derived.Test.YtkdlgglikhbnkacPDraw
import Derived.Test.YtkdlgglikhbnkacOpenCode
import Derived.ChangeOld
import Derived.Lib.SmallJoins
namespace Go.Proofs.Ytkdlgglikhbnkac
set_option linter.unusedVariables false
set_option maxRecDepth 100000
open Go.ChangeShapes Go.WideShapes Go.ChangeAt Go.RowKit Go.Sort Go.Deep Go.Joins
attribute [local go_sem ↓] Go.wp_at_zero Go.wp_at_succ

theorem mk_uses (n : Nat) (hn : n ≤ 1048576) (w : World) :
    (Instr.makeSlice 31 (.int .i64 (n : Int)) (.int .i64 (n : Int))).run Try.prog w = .ok (.slice (some ⟨w.heap.size, 0, none⟩) n n) (w.alloc (.cells (madeCells #[.int .i64 0] n) 3)) := by
  obtain ⟨i, hi, hz0, hz1, hz2⟩ := info_parts infoI
  have hr := run_make (P := Try.prog) w 31 3 i _ Try.underlying31 hi hz0 .i64 .i64 n n (by omega) (Int.le_refl _) (by rw [hz2]; omega) (by omega)
  simpa [hz1, Value.cells] using hr

/-- How often each number stands in L. -/
def cf (L : List Int) : Nat → Value := fun x => .int .i64 ((L.count (x : Int) : Nat) : Int)
theorem uses_new (w : World) (n : Nat) : RowOf (w.alloc (.cells (madeCells #[.int .i64 0] n) 3)) w.heap.size 3 n (cf []) :=
  ⟨_, heap_alloc_new w _, by rw [size_madeCells]; exact Nat.le_refl _, fun i hi => by simp [madeCells, hi, cf, Nat.mod_one]⟩
theorem uses_more {w : World} {U n : Nat} {L : List Int} (h : RowOf w U 3 n (cf L)) {x : Nat} (hx : x < n) : RowOf (w.setCell ⟨U, x, none⟩ (.int .i64 (((L.count (x : Int) : Nat) : Int) + 1))) U 3 n (cf (L ++ [(x : Int)])) :=
  (h.set x _).congr fun j hj => by
    by_cases e : j = x
    · subst e
      simp [cf, List.count_append]
    · rw [if_neg e]
      have : ¬ (x : Int) = (j : Int) := by omega
      simp [cf, List.count_append, this]
theorem rg_count (n x : Nat) (h : x < n) : (rg 0 n).count (x : Int) = 1 := by
  induction n with
  | zero => omega
  | succ n ih =>
    rw [rg_append, rg_one, List.count_append, List.count_singleton]
    by_cases e : x = n
    · subst e
      have : (rg 0 x).count (x : Int) = 0 := by
        rw [List.count_eq_zero]
        intro hm
        have := mem_rg hm
        omega
      rw [this]
      simp
    · rw [ih (by omega)]
      have : ¬ (n : Int) = (x : Int) := by omega
      simp [this]
theorem kids_take {l : List Int} {j : Nat} (hj : j < l.length) : l.take (j + 1) = l.take j ++ [iAt l j] := by
  rw [List.take_add_one, List.getElem?_eq_getElem hj]
  simp [iAt, hj]
theorem nds_take {l : List Nd} {i : Nat} (hi : i < l.length) : l.take (i + 1) = l.take i ++ [ndAt l i] := by
  rw [List.take_add_one, List.getElem?_eq_getElem hi]
  simp [ndAt, hi]
theorem prs_take {l : List Pr} {i : Nat} (hi : i < l.length) : l.take (i + 1) = l.take i ++ [prAt l i] := by
  rw [List.take_add_one, List.getElem?_eq_getElem hi]
  simp [prAt, hi]
theorem count_small {l : List Int} {m : Nat} (h : l.length ≤ m) (x : Int) : l.count x ≤ m := Nat.le_trans List.count_le_length h
theorem iAt_mem {l : List Int} {j : Nat} (hj : j < l.length) : iAt l j ∈ l := by
  have e : iAt l j = l[j] := by simp [iAt, hj]
  rw [e]
  exact List.getElem_mem hj
theorem flat_take_le (l : List Nd) (i : Nat) : (flatK (l.take i)).length ≤ (flatK l).length := by
  have e : flatK l = flatK (l.take i) ++ flatK (l.drop i) := by rw [← flatK_append, List.take_append_drop]
  rw [e, List.length_append]
  omega
theorem flat_take_kids (l : List Nd) {i : Nat} (hi : i < l.length) : (flatK (l.take i)).length + (ndAt l i).kids.length ≤ (flatK l).length := by
  have h := flat_take_le l (i + 1)
  rw [nds_take hi, flatK_append, flatK_one, List.length_append] at h
  exact h

theorem psum_two : ∀ l : List Pr, 2 * l.length ≤ psum l
  | [] => by simp
  | x :: l => by
    have h := psum_two l
    have e : psum (x :: l) = 2 + x.ps.length + psum l := by simp [psum]
    rw [e, List.length_cons]
    omega

set_option maxHeartbeats 8000000 in
theorem fnTrees_any (a : Option Addr) (n cap : Nat) (w : World) (hc : BytesIn w a n) :
    Calls Try.prog 3 #[.slice a n cap] w fun e w' => e = .returned (.bool true) ∧ Below w.heap.size w w' := by
  go_enter Try.func3, Try.ntmps3
  go_wp2_with fail
  refine (drawParse_any a n cap _ hc).mono ?_
  rintro e w1 ⟨⟨s, rfl, hs⟩, hb1⟩
  have hF := parseF_forest s
  have hFl := hF.lengths
  have h8 := parseF_small s
  have h6 := parseF_psum s (lexF_length s)
  have hpl := parseF_place s
  have hI := implParse_any s w1 (by omega)
  have hSp := specParse_any s
  generalize (parseF s).1.1 = ns at *
  generalize (parseF s).1.2 = ps at *
  generalize (parseF s).2 = kk at *
  go_wp2_with fail
  refine hI.mono ?_
  rintro e w2 ⟨na, nc, q, pa, pc, p, rfl, hN, hqn, hP, hpn, hd, hb2⟩
  have hql : q.length = ns.length := by rw [← hqn, qnds_length]
  have hpl' : p.length = ps.length := by rw [← hpn, qprs_length]
  have V2 : SetAt w1.heap.size w2.heap.size w2 (.slice na q.length nc) (.slice pa p.length pc) ns ps := ⟨by rw [← hqn]; exact nodesAt_own hN, by rw [← hpn]; exact procsAt_own hP⟩
  rw [hql, hpl'] at V2 ⊢
  clear hN hP hd hqn hpn hI hql hpl'
  have B2 := hb1.trans (hb2.mono hb1.size)
  have bA : Below w2.heap.size w2 (w2.alloc (Obj.cells #[.slice na ns.length nc, .slice pa ps.length pc] 27)) := (Below.refl _ _).alloc (Nat.le_refl _) _
  have V3 := V2.stays bA
  have y0 : (w2.alloc (Obj.cells #[.slice na ns.length nc, .slice pa ps.length pc] 27)).cell? ⟨w2.heap.size, 0, none⟩ = some (.slice na ns.length nc) := by simp [go_sem]
  have y1 : (w2.alloc (Obj.cells #[.slice na ns.length nc, .slice pa ps.length pc] 27)).cell? ⟨w2.heap.size, 1, none⟩ = some (.slice pa ps.length pc) := by simp [go_sem]
  have B3 := B2.trans (bA.mono B2.size)
  go_wp2_with fail
  obtain ⟨B4, hB4⟩ : ∃ b, b = w2.heap.size := ⟨_, rfl⟩
  rw [← hB4] at y0 y1 V3 ⊢
  clear hB4 bA V2
  generalize w2.alloc (Obj.cells #[.slice na ns.length nc, .slice pa ps.length pc] 27) = w3 at *
  refine (hSp w3 (by omega)).mono ?_
  rintro e w4 ⟨na', nc', q', pa', pc', p', rfl, -, -, -, -, -, hb4⟩
  have b5 : Below w3.heap.size w3 (w4.alloc (Obj.cells #[.slice na' q'.length nc', .slice pa' p'.length pc'] 27)) := hb4.alloc hb4.size _
  have V5 := V3.stays b5
  replace y0 := cell_stays b5 y0
  replace y1 := cell_stays b5 y1
  have B5 := B3.trans (b5.mono B3.size)
  clear V3 hSp hb4 B3 B2 hb1 hb2
  generalize hW5 : w4.alloc (Obj.cells #[.slice na' q'.length nc', .slice pa' p'.length pc'] 27) = w5 at *
  rcases hpl with hk | ⟨hk0, hk1, hk2⟩
  · subst hk
    have hmk := mk_uses ns.length (by omega)
    have hU0 := uses_new w5 ns.length
    have bU : Below w5.heap.size w5 (w5.alloc (.cells (madeCells #[.int .i64 0] ns.length) 3)) := (Below.refl _ _).alloc (Nat.le_refl _) _
    have hz6 : w5.heap.size < (w5.alloc (.cells (madeCells #[.int .i64 0] ns.length) 3)).heap.size := by simp
    go_wp2_with fail
    clear hW5 hmk
    obtain ⟨U, hU⟩ : ∃ b, b = w5.heap.size := ⟨_, rfl⟩
    rw [← hU] at hU0 bU hz6 ⊢
    have hUw : w.heap.size ≤ U := by have := B5.size; omega
    have B5' : ∀ x : World, Below U w5 x → Below w.heap.size w x := fun x hx => B5.trans (hx.mono hUw)
    have VU : ∀ x : World, Below U w5 x → SetAt w1.heap.size B4 x (.slice na ns.length nc) (.slice pa ps.length pc) ns ps ∧ x.cell? ⟨B4, 0, none⟩ = some (.slice na ns.length nc) ∧ x.cell? ⟨B4, 1, none⟩ = some (.slice pa ps.length pc) := fun x hx => by
      rw [hU] at hx
      exact ⟨V5.stays hx, cell_stays hx y0, cell_stays hx y1⟩
    clear hU V5 y0 y1 B5
    generalize w5.alloc (.cells (madeCells #[.int .i64 0] ns.length) 3) = w6 at *
    go_loopw [9] (fun t9 wr => ∃ i : Nat, t9 = .int .i64 (i : Int) ∧ i ≤ ns.length ∧ Below U w5 wr ∧ RowOf wr U 3 ns.length (cf (flatK (ns.take i)))) (fun t9 _ => ns.length - (intOf t9).toNat)
    case atStart => exact ⟨0, rfl, Nat.zero_le _, bU, hU0⟩
    case round =>
      clear bU hU0 hz6
      rename World => wo
      obtain ⟨i, rfl, hi, hbo, hR⟩ := hrel
      obtain ⟨⟨Vn, Vp⟩, y0, y1⟩ := VU _ hbo
      by_cases hlt : i < ns.length
      · have i0 : (0 : Int) ≤ (i : Int) := by omega
        have i1 : (i : Int) < (ns.length : Int) := by omega
        generalize wo = wO at *
        go_wp2_with fail
        go_loopw [10] (fun t10 wr => ∃ j : Nat, t10 = .int .i64 (j : Int) ∧ j ≤ (ndAt ns i).kids.length ∧ Below U w5 wr ∧ RowOf wr U 3 ns.length (cf (flatK (ns.take i) ++ (ndAt ns i).kids.take j))) (fun t10 _ => (ndAt ns i).kids.length - (intOf t10).toNat)
        case atStart => exact ⟨0, rfl, Nat.zero_le _, hbo, by simpa using hR⟩
        case round =>
          clear hR Vn Vp y0 y1 hbo
          rename World => wi
          obtain ⟨j, rfl, hj, hbi, hR⟩ := hrel
          obtain ⟨⟨Vn, Vp⟩, y0, y1⟩ := VU _ hbi
          obtain ⟨a1, c1, e1, hm1, hcc⟩ := Vn
          cases e1
          obtain ⟨b, off, rfl, hlo, hhi, hcl⟩ := hcc (by omega)
          obtain ⟨_, _, _, ka, kc, k3, Ki⟩ := hcl i hlt
          clear hcc hcl
          by_cases hjl : j < (ndAt ns i).kids.length
          · obtain ⟨ka', kc', e2, hm2, hkk⟩ := Ki
            cases e2
            obtain ⟨kb, koff, rfl, hklo, hkhi, hkc⟩ := hkk (by omega)
            have kj := hkc j hjl
            clear hkc hkk
            have j0 : (0 : Int) ≤ (j : Int) := by omega
            have j1 : (j : Int) < ((ndAt ns i).kids.length : Int) := by omega
            have hx := hF.less i hlt _ (iAt_mem hjl)
            have hcs : (flatK (ns.take i) ++ (ndAt ns i).kids.take j).length ≤ 800 := by
              rw [List.length_append, List.length_take]
              have := flat_take_kids ns hlt
              omega
            have hk8 : (ndAt ns i).kids.length ≤ 800 := by have := flat_take_kids ns hlt; omega
            have htk := kids_take hjl
            generalize hxv : iAt (ndAt ns i).kids j = xv at *
            obtain ⟨xn, rfl⟩ := Int.eq_ofNat_of_zero_le hx.1
            have x0 : (0 : Int) ≤ (xn : Int) := by omega
            have x1 : (xn : Int) < (i : Int) := by omega
            have x2 : (xn : Int) < (ns.length : Int) := by omega
            have u0 := hR.cell (show xn < ns.length by omega)
            have uf := hR.frozen xn
            have hcs2 := count_small hcs (xn : Int)
            have hR2 := uses_more hR (show xn < ns.length by omega)
            have hb2 : Below U w5 (wi.setCell ⟨U, xn, none⟩ (.int .i64 (((((flatK (ns.take i) ++ (ndAt ns i).kids.take j).count (xn : Int)) : Nat) : Int) + 1))) := hbi.setCell (by exact Nat.le_refl _) _
            rw [List.append_assoc, ← htk] at hR2
            simp only [cf] at u0
            clear hxv htk hcs hR
            generalize (flatK (ns.take i) ++ (ndAt ns i).kids.take j).count (xn : Int) = cc at *
            go_wp2
            go_roundw
            case rel => exact ⟨j + 1, by go_num, by omega, hb2, hR2⟩
            case measure => simp [intOf]; omega
          · have hje : j = (ndAt ns i).kids.length := by omega
            have hR2 : RowOf wi U 3 ns.length (cf (flatK (ns.take (i + 1)))) := by
              rw [nds_take hlt, flatK_append, flatK_one]
              rw [hje, List.take_length] at hR
              exact hR
            have hjl' : ¬ (j : Int) < ((ndAt ns i).kids.length : Int) := by omega
            clear hje hR
            go_wp2
            go_roundw
            case rel => exact ⟨i + 1, by go_num, by omega, hbi, hR2⟩
            case measure => simp [intOf]; omega
      · have hie : i = ns.length := by omega
        have hR2 : RowOf wo U 3 ns.length (cf (flatK ns)) := by
          rw [hie, List.take_length] at hR
          exact hR
        have hlt' : ¬ (i : Int) < (ns.length : Int) := by omega
        clear hie hR
        have hps : ps.length ≤ 6000 := by have := psum_two ps; omega
        have hbod : ∀ x, x ∈ ps.map (·.body) → 0 ≤ x ∧ x < (ns.length : Int) := fun x hx => by have := hF.root hx; omega
        go_wp2_with fail
        go_loopw [12] (fun t12 wr => ∃ k : Nat, t12 = .int .i64 (k : Int) ∧ k ≤ ps.length ∧ Below U w5 wr ∧ RowOf wr U 3 ns.length (cf (flatK ns ++ (ps.take k).map (·.body)))) (fun t12 _ => ps.length - (intOf t12).toNat)
        case atStart => exact ⟨0, rfl, Nat.zero_le _, hbo, by simpa using hR2⟩
        case round =>
          clear hR2 Vn Vp y0 y1 hbo hlt hlt' hi
          rename World => wi
          obtain ⟨k, rfl, hk, hbi, hR⟩ := hrel
          obtain ⟨⟨Vn, Vp⟩, y0, y1⟩ := VU _ hbi
          by_cases hkl : k < ps.length
          · obtain ⟨a1, c1, e1, hm1, hcc⟩ := Vp
            cases e1
            obtain ⟨b, off, rfl, hlo, hhi, hcl⟩ := hcc (by omega)
            obtain ⟨_, _, k2⟩ := hcl k hkl
            clear hcc hcl
            have k0 : (0 : Int) ≤ (k : Int) := by omega
            have k1 : (k : Int) < (ps.length : Int) := by omega
            have hx := hbod (prAt ps k).body (by
              have e : prAt ps k = ps[k] := by simp [prAt, hkl]
              rw [e]
              exact List.mem_map_of_mem (List.getElem_mem hkl))
            have htk := prs_take hkl
            have hcs : (flatK ns ++ (ps.take k).map (·.body)).length ≤ 7000 := by
              rw [List.length_append, List.length_map, List.length_take]
              omega
            have hR1 := fun (x : Nat) (hx : x < ns.length) => uses_more hR hx
            have htk2 : (ps.take (k + 1)).map (·.body) = (ps.take k).map (·.body) ++ [(prAt ps k).body] := by rw [htk, List.map_append]; rfl
            generalize hxv : (prAt ps k).body = xv at *
            obtain ⟨xn, rfl⟩ := Int.eq_ofNat_of_zero_le hx.1
            have x0 : ¬ (xn : Int) < 0 := by omega
            have x2 : (xn : Int) < (ns.length : Int) := hx.2
            have x3 : ¬ (ns.length : Int) ≤ (xn : Int) := by omega
            have d0 : decide ((xn : Int) < 0) = false := decide_eq_false x0
            have d1 : decide ((ns.length : Int) ≤ (xn : Int)) = false := decide_eq_false x3
            have r0 := cell_regrown y0
            have r1 := cell_regrown y1
            have r2 := cell_regrown k2
            go_wp2_with fail
            refine wp_region_quiet_below (by kernel_rfl) (by kernel_rfl) ?_
            repeat (go_big_quiet_step (fail))
            refine wpQuiet_nil ?_
            intro w4' hw4
            obtain ⟨⟨dq, osq⟩, hw5⟩ := hw4
            have hb4 : Below _ _ w4' := hw5 ▸ below_regrown _ dq osq
            clear hw5 r0 r1 r2
            have hUl := hR.lt
            have hbj : Below U w5 w4' := hbi.trans (hb4.mono (by omega))
            have R4 := hR.of_block (hb4.block _ hUl)
            have z1 := cell_stays hb4 y1
            have z2 := cell_stays hb4 k2
            have u0 := R4.cell (show xn < ns.length by omega)
            have uf := R4.frozen xn
            have hcs2 := count_small hcs (xn : Int)
            have hR2 := uses_more R4 (show xn < ns.length by omega)
            have hb2 : Below U w5 (w4'.setCell ⟨U, xn, none⟩ (.int .i64 (((((flatK ns ++ (ps.take k).map (·.body)).count (xn : Int)) : Nat) : Int) + 1))) := hbj.setCell (by exact Nat.le_refl _) _
            rw [List.append_assoc, ← htk2] at hR2
            simp only [cf] at u0
            clear hxv htk htk2 hcs hR hR1 R4 y0 y1 k2 d0 d1 hb4 hbj
            generalize (flatK ns ++ (ps.take k).map (·.body)).count (xn : Int) = cc at *
            go_wp2
            go_roundw
            case rel => exact ⟨k + 1, by go_num, by omega, hb2, hR2⟩
            case measure => simp [intOf]; omega
          · have hke : k = ps.length := by omega
            have hR2 : RowOf wi U 3 ns.length (fun _ => .int .i64 1) := by
              rw [hke, List.take_length] at hR
              refine hR.congr fun j hj => ?_
              have h1 := hF.cnt (j : Int)
              rw [rg_count ns.length j hj] at h1
              simp only [cf, List.count_append]
              rw [h1]
              rfl
            have hkl' : ¬ (k : Int) < (ps.length : Int) := by omega
            clear hke hR
            go_wp2_with fail
            go_loopw [13] (fun t13 wr => ∃ m : Nat, t13 = .int .i64 (m : Int) ∧ m ≤ ns.length ∧ wr = wi) (fun t13 _ => ns.length - (intOf t13).toNat)
            case atStart => exact ⟨0, rfl, Nat.zero_le _, rfl⟩
            case round =>
              rename World => wf
              obtain ⟨m, rfl, hm, rfl⟩ := hrel
              by_cases hml : m < ns.length
              · have m0 : (0 : Int) ≤ (m : Int) := by omega
                have m1 : (m : Int) < (ns.length : Int) := by omega
                have u0 := hR2.cell hml
                go_wp2
                go_roundw
                case rel => exact ⟨m + 1, by go_num, by omega, trivial⟩
                case measure => simp [intOf]; omega
              · have hml' : ¬ (m : Int) < (ns.length : Int) := by omega
                obtain ⟨V, q0, q1⟩ := VU _ hbi
                have BW := B5' _ hbi
                clear hR2 VU B5' Vn Vp y0 y1 hbi
                have hbd : ∀ y : World, (Instr.build 27 #[(0, .slice na ns.length nc)]).run Try.prog y = .ok (.agg #[.slice na ns.length nc, .slice none 0 0]) y := fun y => by kernel_rfl
                go_wp2_with fail
                refine (implSameSet_any _ _ _ _ ns ns ps ps _ V V).mono ?_
                rintro e w7 ⟨⟨b7, rfl, hb7⟩, hbb7⟩
                have hbt : b7 = true := hb7.2 ⟨rfl, rfl⟩
                subst hbt
                clear hb7
                have V7 := V.stays hbb7
                have s0 := cell_stays hbb7 q0
                have s1 := cell_stays hbb7 q1
                have B7 := BW.trans (hbb7.mono BW.size)
                clear V q0 q1
                by_cases hp0 : ps.length = 0
                · rw [hp0] at s1
                  go_wp2_with fail
                  refine (trees_any _).mono ?_
                  rintro e w8 ⟨rfl, hb8⟩
                  go_wp2
                  go_ret
                  exact ⟨rfl, B7.trans (hb8.mono B7.size)⟩
                · have hpe : ¬ (ps.length : Int) = 0 := by omega
                  have hpb : ((ps.length : Int) == 0) = false := beq_eq_false_iff_ne.2 hpe
                  have V8 : SetAt w1.heap.size B4 w7 (.slice na ns.length nc) (.slice none 0 0) ns [] := ⟨V7.1, none, 0, rfl, by unfold maxLen; simp, fun h => absurd h (Nat.not_lt_zero _)⟩
                  go_wp2_with fail
                  refine (implSameSet_any _ _ _ _ ns ns ps [] _ V7 V8).mono ?_
                  rintro e w8 ⟨⟨b8, rfl, hb8⟩, hbb8⟩
                  have hbf : b8 = false := by
                    cases b8 with
                    | false => rfl
                    | true =>
                      have := hb8.1 rfl
                      exact absurd (by rw [this.2]; rfl) hp0
                  subst hbf
                  clear hb8
                  have B8 := B7.trans (hbb8.mono B7.size)
                  go_wp2_with fail
                  refine (trees_any _).mono ?_
                  rintro e w9 ⟨rfl, hb9⟩
                  go_wp2
                  go_ret
                  exact ⟨rfl, B8.trans (hb9.mono B8.size)⟩
  · subst hk2
    go_wp2_with fail
    refine (trees_any w5).mono ?_
    rintro e w6 ⟨rfl, hb6⟩
    go_wp2
    go_ret
    exact ⟨rfl, B5.trans (hb6.mono B5.size)⟩

theorem own : ownKnob Try.prog.godebug = none := by kernel_rfl
theorem laidOut : laidOutB Try.prog = true := by kernel_rfl

set_option maxRecDepth 100000 in
theorem liftedTrees (os : Os) (started : os.Started) (H : Type) (enc : TypeId × Value → H) :
    ReturnsInHanded {} Try.checked os 3 .any (Rows.fnTreesSpec.pre6 enc Try.prog Try.f3 Rows.fnTreesRow.domain false) (Rows.fnTreesSpec.post enc Try.prog Try.f3 false true false false) := by
  refine returnsInHanded_of_change (C := Try.checked) own started (by kernel_rfl) Try.func3
    (ChangeSpec.witness6 (enc := enc) (C := Try.checked) false ⟨#[], #[.slice none 0 0], []⟩ 8 (by kernel_rfl) (by kernel_rfl) (by kernel_rfl) (by kernel_rfl)) ?_
  intro W base args ds gs before hval0 hW hcnd _
  have hval : ∀ (j : Nat) t v, Try.f3.params[j]? = some t → args[j]? = some v → Value.okWide Try.prog W .any base t v := hval0
  have hW' := hW
  obtain ⟨p, q, hA0, hV, rfl, hfz, hnd⟩ := hW
  have hA : DataW.TrodAll enc Try.prog W 0 (fun _ => true) true Try.f3.params.toList args.toList ds p := hA0
  rw [Try.params3] at hA hval
  obtain ⟨v0, vs0, d0, ds0, p0, q0, hargs, rfl, rfl, h0, r0⟩ := trodAll_cons hA
  obtain ⟨rfl, rfl, rfl⟩ := trodAll_nil r0
  obtain rfl : args = #[v0] := by cases args; simp_all
  obtain ⟨rfl, rfl⟩ := trodVars_none hV
  have k0 := h0
  have lt0 : ∀ x ∈ p0, x.block < W.heap.size := by obtain ⟨m, hm⟩ := k0; exact DataW.trod_lt m _ _ _ hm
  obtain ⟨a, n, cap, rfl, hl⟩ := open_code (hval 0 22 v0 rfl rfl) h0
  clear hA0 hval0
  refine (fnTrees_any a n cap W hl).mono fun e W' ⟨he, bel⟩ => ?_
  subst he
  exact ⟨_, rfl, _, _, _, [], _, [], hW', trodAll_mk1 (shut_bool Try.underlying4 _), trodAll_cons_mk (Below.trod laidOut (by kernel_rfl) (of_decide_eq_true (by kernel_rfl)) k0 bel lt0) trodAll_mk0, rfl, bel.frame _, fun h => by cases h⟩

theorem fnTrees_holds : Rows.FnTreesSaid :=
  OpenClaim.holds_of_wide 3 Try.f3 rfl rfl rfl rfl rfl rfl rfl ⟨rfl, rfl, rfl, rfl, rfl⟩ rfl rfl rfl rfl rfl (by kernel_rfl) Try.func3 (by kernel_rfl)
    (of_decide_eq_true (by kernel_rfl)) (by unfold Func.isWrapper; first | (rw [if_pos (by decide +kernel)]; kernel_rfl) | (rw [if_neg (by decide +kernel)]; exact ⟨rfl, rfl⟩))
    (fun os started H enc _ => liftedTrees os started H enc)

#print axioms fnTrees_holds

end Go.Proofs.Ytkdlgglikhbnkac
