/- What spec.InEdges answers. -/
import Derived.Test.YtebgngofnmcklaaSHeapWalks
namespace Go.Proofs.Ytebgngofnmcklaa
open Go.RowKit
set_option linter.unusedVariables false

/-- How many fields of an object, of objects, lead to an id. -/
def inO (id : Int) (o : ObjD) : Nat := if o.live = true then o.field.count id else 0
def inE (id : Int) (os : List ObjD) : Nat := (os.map (inO id)).sum
theorem inE_succ (id : Int) (os : List ObjD) (j : Nat) (h : j < os.length) : inE id (os.take (j + 1)) = inE id (os.take j) + inO id os[j] := by
  unfold inE
  rw [List.take_succ_eq_append_getElem h, List.map_append, List.sum_append]
  simp
theorem inE_le (id : Int) (os : List ObjD) (m : Nat) (h : ∀ z ∈ os, z.field.length ≤ m) : inE id os ≤ os.length * m := by
  unfold inE
  induction os with
  | nil => simp
  | cons o r ih =>
    have h1 := h o (by simp)
    have h2 := ih (fun z hz => h z (by simp [hz]))
    have h3 : inO id o ≤ m := by
      unfold inO; split
      · exact Nat.le_trans List.count_le_length h1
      · omega
    simp only [List.map_cons, List.sum_cons, List.length_cons, Nat.add_mul, Nat.one_mul]
    omega
theorem count_succ (id : Int) (zs : List Int) (k : Nat) (h : k < zs.length) : (zs.take (k + 1)).count id = (zs.take k).count id + if zs[k] = id then 1 else 0 := by
  rw [List.take_succ_eq_append_getElem h, List.count_append]
  generalize zs[k] = z
  by_cases e : z = id
  · subst e; simp
  · have e2 : ([z] : List Int).count id = 0 := List.count_eq_zero.2 (by simp; exact fun h => e h.symm)
    rw [e2, if_neg e]
def inEdges (H : HeapD) (slot : Int) : Int :=
  if 0 ≤ slot then match H.objs[slot.toNat]? with
    | none => 0
    | some o => if o.live = true then (inE (idZ slot o.gen) H.objs : Int) else 0
  else 0

theorem sInEdges_no (v : Value) (H : HeapD) (slot : Int) (w : World) (h : RdH w v H) (hs : SmallH H) (h0 : -9223372036854775808 ≤ slot) (h9 : slot ≤ 9223372036854775807) (hb : slot < 0 ∨ (H.objs.length : Int) - 1 < slot) :
    Calls Try.prog 15 #[v, .int .i64 slot] w fun e w' => e = .returned (.int .i64 (inEdges H slot)) ∧ Below w.heap.size w w' := by
  obtain ⟨ao, co, aw, cw, ab, cb, sa, sc, rfl, ro, -, -, -⟩ := h
  have HE : Hid (inEdges H slot = 0) := by
    show _ = _
    unfold inEdges
    by_cases h1 : 0 ≤ slot
    · rw [if_pos h1, List.getElem?_eq_none (by omega)]
    · rw [if_neg h1]
  have hn := hs.objs
  have C1 : Hid (∀ X, _) := fun X => l1In_no slot 0 ((H.objs.length : Int) - 1) X hb
  clear ro hb
  go_enter Try.func15, Try.ntmps15
  go_wp2_with fail
  refine (C1.out _).mono ?_
  rintro e w1 ⟨rfl, hw1⟩
  have B1 : Below w.heap.size w w1 := by rw [hw1]; exact (Below.refl _ _).alloc (Nat.le_refl _) _
  clear hw1
  go_wp2
  go_ret
  exact ⟨ret_zz HE.out.symm, B1⟩

theorem sInEdges_live (v : Value) (H : HeapD) (s : Nat) (w : World) (h : RdH w v H) (hs : SmallH H) (hl : s < H.objs.length) :
    Calls Try.prog 15 #[v, .int .i64 (s : Int)] w fun e w' => e = .returned (.int .i64 (inEdges H (s : Int))) ∧ Below w.heap.size w w' := by
  obtain ⟨ao, co, aw, cw, ab, cb, sa, sc, rfl, ro, -, -, -⟩ := h
  have hn := hs.objs
  obtain ⟨W, hW⟩ : ∃ W, W = w.alloc (.cells #[.slice ao H.objs.length co, .slice aw H.weaks.length cw, .slice ab H.buffer.length cb, .slice sa H.sites.length sc] 33) := ⟨_, rfl⟩
  have BW : Below w.heap.size w W := by rw [hW]; exact (Below.refl _ _).alloc (Nat.le_refl _) _
  have HR : Hid (RdO W ao H.objs) := rdO_later ro BW
  have hp : W.cell? ⟨w.heap.size, 0, none⟩ = some (.slice ao H.objs.length co) := by rw [hW, World.cell?_alloc_mark]; rfl
  have C1 : Hid (∀ X, _) := fun X => l1In_yes (s : Int) 0 ((H.objs.length : Int) - 1) X (by omega) (by omega)
  obtain ⟨g, off, f, fc, rfl, -, hc, -⟩ := HR.out s hl
  obtain ⟨o, ho⟩ : ∃ o, H.objs[s] = o := ⟨_, rfl⟩
  rw [ho] at hc
  have HE : Hid (inEdges H (s : Int) = if o.live = true then (inE (idZ (s : Int) o.gen) H.objs : Int) else 0) := by
    show _ = _
    unfold inEdges
    rw [if_pos (by omega), show ((s : Int)).toNat = s from by omega, List.getElem?_eq_getElem hl, ho]
  obtain ⟨c0, c1, -⟩ := hc
  have c0' : W.cell? ⟨g, off + s * 8, none⟩ = _ := c0
  clear ro ho
  obtain ⟨n, hnn⟩ : ∃ n, H.objs.length = n := ⟨_, rfl⟩
  have Hn : Hid (H.objs.length = n) := hnn
  rw [hnn] at hn hp hW hl C1 ⊢
  clear hnn
  obtain ⟨ol, og, os1, oh, orr, oc, ofl, op⟩ := o
  simp only at c0 c1 HE
  clear c0'
  cases ol with
  | false =>
    have HV : Hid (inEdges H (s : Int) = 0) := by show _ = _; rw [HE.out, if_neg (by simp)]
    go_enter Try.func15, Try.ntmps15
    go_wp2_with fail
    rw [← hW]
    refine (C1.out _).mono ?_
    rintro e W1 ⟨rfl, hw1⟩
    subst hw1
    clear hW
    go_wp2
    go_ret
    exact ⟨ret_zz HV.out.symm, BW⟩
  | true =>
    have HV : Hid (inEdges H (s : Int) = (inE (idZ (s : Int) og) H.objs : Int)) := by show _ = _; rw [HE.out, if_pos rfl]
    have CID : Hid (∀ X, _) := fun X => sIdOf_calls (s : Int) og X
    generalize idZ (s : Int) og = id at *
    have HS : Hid (∀ (j : Nat) (h : j < H.objs.length), inE id (H.objs.take (j + 1)) = inE id (H.objs.take j) + inO id H.objs[j]) := fun j h => inE_succ id H.objs j h
    have HL : Hid (∀ j, inE id (H.objs.take j) ≤ 1048576 * 1048576) := by
      intro j
      have h1 := inE_le id (H.objs.take j) 1048576 (fun z hz => hs.fields z (List.mem_of_mem_take hz))
      have h2 : (H.objs.take j).length ≤ 1048576 := by rw [List.length_take]; have := hs.objs; omega
      exact Nat.le_trans h1 (Nat.mul_le_mul_right _ h2)
    have HF : Hid (∀ z ∈ H.objs, z.field.length ≤ 1048576) := hs.fields
    have HW : Hid (inE id (H.objs.take n) = inE id H.objs) := by show _ = _; rw [← Hn.out, List.take_length]
    have HB : Hid (Below w.heap.size w W) := BW
    go_enter Try.func15, Try.ntmps15
    go_wp2_with fail
    rw [← hW]
    refine (C1.out _).mono ?_
    rintro e W1 ⟨rfl, hw1⟩
    subst hw1
    clear hW BW hs
    go_wp2_with fail
    refine (CID.out _).mono ?_
    rintro e W2 ⟨rfl, hw2⟩
    subst hw2
    clear c0 c1 CID C1
    go_wp2
    go_loopw [5, 7] (fun x i wr => ∃ j : Nat, j ≤ n ∧ i = .int .i64 j ∧ x = .int .i64 (inE id (H.objs.take j) : Int) ∧ Hid (∀ p, wr.cell? p = W2.cell? p) ∧ Below w.heap.size w wr) (fun _ i _ => n - (intOf i).toNat)
    case atStart => exact ⟨0, by omega, rfl, by simp [inE], fun _ => rfl, HB.out⟩
    case round =>
      obtain ⟨j, hj, rfl, rfl, HC, hb⟩ := hrel
      by_cases hlt : j < n
      · have hj2 : j < H.objs.length := by have := Hn.out; omega
        obtain ⟨g', off', fj, fcj, hge, -, hcj, hrj⟩ := HR.out j hj2
        obtain ⟨rfl, rfl⟩ : g = g' ∧ off = off' := by simpa using hge
        obtain ⟨o, ho⟩ : ∃ o, H.objs[j] = o := ⟨_, rfl⟩
        have HS2 : Hid (_ = _) := HS.out j hj2
        have hfl := HF.out _ (List.getElem_mem hj2)
        have hbd := HL.out j
        rw [ho] at hcj hrj HS2 hfl
        clear ho hge
        obtain ⟨c0, -, -, -, -, -, c6, -⟩ := hcj
        have HRJ : Hid _ := hrj
        clear hrj
        obtain ⟨ol, og, os1, oh, orr, oc, ofl, op⟩ := o
        simp only at c0 c6 HS2 hfl HRJ
        rw [← HC.out] at c0 c6 hp
        generalize inE id (H.objs.take j) = N at *
        cases ol with
        | false =>
          have HT : Hid (inE id (H.objs.take (j + 1)) = N) := by show _ = _; rw [HS2.out]; simp [inO]
          go_wp2
          go_loop [5, 8] (fun x k => k = .int .i64 0 ∧ x = .int .i64 (N : Int)) (fun _ _ => 0)
          case atStart => exact ⟨rfl, rfl⟩
          case round =>
            obtain ⟨rfl, rfl⟩ := hrel
            by_cases hf0 : 0 < ofl.length
            · go_wp2
              go_roundw
              case rel => exact ⟨j + 1, by omega, by go_num, by rw [HT.out], HC, hb⟩
              case measure => simp [intOf]; omega
            · go_wp2
              go_roundw
              case rel => exact ⟨j + 1, by omega, by go_num, by rw [HT.out], HC, hb⟩
              case measure => simp [intOf]; omega
        | true =>
          have HT : Hid (inE id (H.objs.take (j + 1)) = N + ofl.count id) := by show _ = _; rw [HS2.out]; simp [inO]
          have HCS : Hid (∀ (k : Nat) (h : k < ofl.length), _) := fun k h => count_succ id ofl k h
          have HCL : Hid (∀ k, (ofl.take k).count id ≤ 1048576) := fun k => Nat.le_trans List.count_le_length (by rw [List.length_take]; omega)
          have HCA : Hid ((ofl.take ofl.length).count id = ofl.count id) := by show _ = _; rw [List.take_length]
          obtain ⟨m, hm⟩ : ∃ m, ofl.length = m := ⟨_, rfl⟩
          have Hm : Hid (ofl.length = m) := hm
          rw [hm] at c6 hfl HCA
          clear hm
          go_wp2
          go_loop [5, 8] (fun x k => ∃ kk : Nat, kk ≤ m ∧ k = .int .i64 kk ∧ x = .int .i64 ((N + (ofl.take kk).count id : Nat) : Int)) (fun _ k => m - (intOf k).toNat)
          case atStart => exact ⟨0, by omega, rfl, by simp⟩
          case round =>
            obtain ⟨kk, hkk, rfl, rfl⟩ := hrel
            by_cases hkl : kk < m
            · have hk2 : kk < ofl.length := by have := Hm.out; omega
              obtain ⟨gf, of2, rfl, -, hcf⟩ := HRJ.out kk hk2
              rw [← HC.out] at hcf
              have HC2 : Hid (_ = _) := HCS.out kk hk2
              have hcl := HCL.out kk
              generalize (ofl.take kk).count id = M at *
              generalize ofl[kk] = z at *
              by_cases hz : z = id
              · have HN : Hid ((ofl.take (kk + 1)).count id = M + 1) := by show _ = _; rw [HC2.out, if_pos hz]
                subst hz
                go_wp2
                go_round
                case rel => exact ⟨kk + 1, by omega, by go_num, by rw [HN.out]; go_num⟩
                case measure => simp [intOf]; omega
              · have HN : Hid ((ofl.take (kk + 1)).count id = M) := by show _ = _; rw [HC2.out, if_neg hz]; rfl
                have hq : (z == id) = false := by rw [beq_eq_false_iff_ne]; exact hz
                go_wp2
                go_round
                case rel => exact ⟨kk + 1, by omega, by go_num, by rw [HN.out]⟩
                case measure => simp [intOf]; omega
            · obtain rfl : kk = m := by omega
              go_wp2
              go_roundw
              case rel => exact ⟨j + 1, by omega, by go_num, by rw [HT.out, ← HCA.out], HC, hb⟩
              case measure => simp [intOf]; omega
      · obtain rfl : j = n := by omega
        rw [← HC.out] at hp
        go_wp2
        go_ret
        exact ⟨ret_zz (by rw [HV.out, ← HW.out]), hb⟩

theorem sInEdges_calls (v : Value) (H : HeapD) (slot : Int) (w : World) (h : RdH w v H) (hs : SmallH H) (h0 : -9223372036854775808 ≤ slot) (h9 : slot ≤ 9223372036854775807) :
    Calls Try.prog 15 #[v, .int .i64 slot] w fun e w' => e = .returned (.int .i64 (inEdges H slot)) ∧ Below w.heap.size w w' := by
  by_cases hb : slot < 0 ∨ (H.objs.length : Int) - 1 < slot
  · exact sInEdges_no v H slot w h hs h0 h9 hb
  · obtain ⟨s, rfl⟩ := Int.eq_ofNat_of_zero_le (a := slot) (by omega)
    exact sInEdges_live v H s w h hs (by omega)

end Go.Proofs.Ytebgngofnmcklaa
