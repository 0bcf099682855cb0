/- The program's Top, Up, Attr of layer 10: they answer by the functions of 'DocA', or tell that there is no such node; what lay in the world lies there still. Conditions: a document as it lies in the world; rows of at most 2^47 bytes. -/
import Derived.Test.YtkloahpkjbohoaaDocS8
import Derived.Test.YtkloahpkjbohoaaDocR4
import Derived.Test.YtkloahpkjbohoaaDocLib
import Derived.Deep.RegionHeld3
namespace Go.Proofs.Ytkloahpkjbohoaa
open Go.RowKit

def topQ (l : List Nd) (id : Int) : Int := if hasN l id = true then topP l id else -1
def upQ (l : List Nd) (id : Int) (name : ByteArray) : Int := if hasN l id = true then upP l id name else -1
def attrQ (l : List Nd) (id : Int) (name : ByteArray) : Option ByteArray := if hasN l id = true then attrP l id name else none
theorem topP_root {l : List Nd} (h : Right l) {m : Nat} (hm : m < l.length) (hp : l[m].parent = -1) : topP l (m : Int) = (m : Int) := by
  have hu := anc_up (h.ende (k := (m : Int)) (by omega)) (by omega)
  rw [parI_nat hm] at hu
  unfold topP
  rw [hu, anc_neg (by omega)]; rfl
theorem topP_up {l : List Nd} (h : Right l) {m n : Nat} (hm : m < l.length) (hp : l[m].parent = (n : Int)) : topP l (n : Int) = topP l (m : Int) := by
  have hu := anc_up (h.ende (k := (m : Int)) (by omega)) (by omega)
  have pb := h.par m hm
  rw [nd_at hm, hp] at pb
  have hu2 := anc_up (h.ende (k := (n : Int)) (by omega)) (by omega)
  rw [parI_nat hm, hp] at hu
  unfold topP
  rw [hu, hu2]; rfl
set_option maxHeartbeats 2000000 in
theorem top_any (v : Value) (l : List Nd) (id : Int) (w : World) (hv : NodesV w v l) (hz : DocSz l) :
    Calls Try.prog 27 #[v, .int .i64 id] w fun e w' => e = .returned (.int .i64 (topQ l id)) ∧ Below w.heap.size w w' := by
  have HH := hide (isThere_any v l id w hv hz)
  obtain ⟨p, c, rfl, hv⟩ := hv
  have HV := hide hv
  clear hv hz
  cases q : hasN l id with
  | false =>
    rw [q] at HH
    have E : Hid (topQ l id = -1) := by show _ = _; unfold topQ; rw [q]; rfl
    clear q
    go_enter Try.func27, Try.ntmps27
    go_wp2_with fail
    refine HH.out.mono ?_
    rintro e w1 ⟨rfl, b1⟩
    go_wp2_with fail
    go_ret
    exact ⟨ret_int E.out.symm, b1⟩
  | true =>
    rw [q] at HH
    obtain ⟨hR, hi⟩ := has_is q
    obtain ⟨m0, rfl⟩ : ∃ m : Nat, id = (m : Int) := ⟨id.toNat, by have := hi.1; omega⟩
    have h0 : m0 < l.length := by have := hi.2; omega
    obtain ⟨T, hT⟩ : ∃ T, Hid (topP l (m0 : Int) = T) := ⟨_, show topP l (m0 : Int) = _ from rfl⟩
    have E : Hid (topQ l (m0 : Int) = T) := by show _ = _; unfold topQ; rw [q]; exact hT.out
    have HRt := hide hR
    have hlen := hR.len.2
    obtain ⟨b, o, rfl, hcell⟩ : ∃ b o, p = some ⟨b, o, none⟩ ∧ ∀ i (h : i < l.length), ∃ va vk, NodeAt w b (o + i * 5) l[i] va vk := by
      rcases HV.out with t | t
      · rw [t] at h0; simp at h0
      · exact t
    have HC := hide hcell
    clear q hi hR hcell HV
    go_enter Try.func27, Try.ntmps27
    go_wp2_with fail
    refine HH.out.mono ?_
    rintro e w1 ⟨rfl, b1⟩
    go_wp2_with fail
    have B1 := hide b1
    clear b1 HH
    go_loop [1] (fun kv => ∃ m : Nat, kv = .int .i64 (m : Int) ∧ m < l.length ∧ Hid (topP l (m : Int) = T)) (fun kv => hgt l (intOf kv))
    case atStart => exact ⟨m0, rfl, h0, hT⟩
    case round =>
      obtain ⟨m, rfl, hm, hc⟩ := hrel
      clear hT
      have he := HRt.out.ende (show (m : Int) < (l.length : Int) by omega)
      have HH := hide (hgt_up he (by omega))
      have pb := HRt.out.par m hm
      rw [nd_at hm] at pb
      rw [parI_nat hm] at HH
      obtain ⟨va, vk, N0⟩ := HC.out m hm
      have a3 := (N0.below B1.out).parent
      have m1 : (m : Int) < (l.length : Int) := by omega
      have m0' : (0 : Int) ≤ (m : Int) := by omega
      by_cases q1 : l[m].parent = -1
      · have f1 : (l[m].parent != -1) = false := by rw [q1]; rfl
        have f2 : (l[m].parent == -1) = true := by rw [q1]; rfl
        have E2 : Hid (topQ l (m0 : Int) = (m : Int)) := by show _ = _; rw [E.out, ← hc.out]; exact topP_root HRt.out hm q1
        clear q1 hc he HH pb N0
        generalize l[m].parent = pm at *
        go_wp2_with fail
        go_ret
        exact ⟨ret_int E2.out.symm, B1.out⟩
      · have f1 : (l[m].parent != -1) = true := by rw [bne_iff_ne]; exact q1
        have f2 : (l[m].parent == -1) = false := by rw [beq_eq_false_iff_ne]; exact q1
        obtain ⟨n, en⟩ : ∃ n : Nat, l[m].parent = (n : Int) := ⟨l[m].parent.toNat, by omega⟩
        have hn : n < l.length := by omega
        have HC1 : Hid (topP l (n : Int) = T) := by show _ = _; rw [topP_up HRt.out hm en]; exact hc.out
        rw [en] at a3 f1 f2 HH
        clear q1 hc he pb N0 en
        go_wp2_with fail
        go_round
        case rel => exact ⟨n, rfl, hn, HC1⟩
        case measure => have := HH.out; show hgt l (n : Int) < hgt l (m : Int); omega

set_option maxHeartbeats 2000000 in
theorem up_any (v : Value) (l : List Nd) (id : Int) (name : ByteArray) (w : World) (hv : NodesV w v l) (hz : DocSz l) :
    Calls Try.prog 28 #[v, .int .i64 id, .string name] w fun e w' => e = .returned (.int .i64 (upQ l id name)) ∧ Below w.heap.size w w' := by
  have HH := hide (isThere_any v l id w hv hz)
  obtain ⟨p, c, rfl, hv⟩ := hv
  have HV := hide hv
  clear hv hz
  cases q : hasN l id with
  | false =>
    rw [q] at HH
    have E : Hid (upQ l id name = -1) := by show _ = _; unfold upQ; rw [q]; rfl
    clear q
    go_enter Try.func28, Try.ntmps28
    go_wp2_with fail
    refine HH.out.mono ?_
    rintro e w1 ⟨rfl, b1⟩
    go_wp2_with fail
    go_ret
    exact ⟨ret_int E.out.symm, b1⟩
  | true =>
    rw [q] at HH
    obtain ⟨hR, hi⟩ := has_is q
    obtain ⟨m0, rfl⟩ : ∃ m : Nat, id = (m : Int) := ⟨id.toNat, by have := hi.1; omega⟩
    have h0 : m0 < l.length := by have := hi.2; omega
    obtain ⟨T, hT⟩ : ∃ T, Hid (((anc l (parI l (m0 : Int))).find? fun k => decide ((nd l k.toNat).name = name)) = T) := ⟨_, show _ = _ from rfl⟩
    have E : Hid (upQ l (m0 : Int) name = T.getD (-1)) := by show _ = _; unfold upQ; rw [q]; unfold upP; rw [hT.out]; rfl
    have HRt := hide hR
    have hlen := hR.len.2
    obtain ⟨b, o, rfl, hcell⟩ : ∃ b o, p = some ⟨b, o, none⟩ ∧ ∀ i (h : i < l.length), ∃ va vk, NodeAt w b (o + i * 5) l[i] va vk := by
      rcases HV.out with t | t
      · rw [t] at h0; simp at h0
      · exact t
    have HC := hide hcell
    have i0 : (0 : Int) ≤ (m0 : Int) := by omega
    have i1 : (m0 : Int) < (l.length : Int) := by omega
    have pb0 := hR.par m0 h0
    rw [nd_at h0] at pb0
    have z1 := pb0.1
    have z2 := pb0.2
    rw [parI_nat h0] at hT
    have NW : Hid (∀ W, Below w.heap.size w W → W.cell? ⟨b, o + m0 * 5 + 3, none⟩ = some (.int .i64 l[m0].parent)) := fun W hb => by
      obtain ⟨va, vk, N0⟩ := HC.out m0 h0
      exact (N0.below hb).parent
    clear q hi hR hcell HV pb0
    go_enter Try.func28, Try.ntmps28
    go_wp2_with fail
    refine HH.out.mono ?_
    rintro e w1 ⟨rfl, b1⟩
    have a3 := NW.out w1 b1
    go_wp2_with fail
    have B1 := hide b1
    clear b1 HH NW a3
    go_loop [7] (fun kv => ∃ z : Int, kv = .int .i64 z ∧ -1 ≤ z ∧ z < (l.length : Int) ∧ Hid (((anc l z).find? fun k => decide ((nd l k.toNat).name = name)) = T)) (fun kv => hgt l (intOf kv))
    case atStart => exact ⟨l[m0].parent, rfl, z1, z2, hT⟩
    case round =>
      obtain ⟨z, rfl, y1, y2, hc⟩ := hrel
      clear hT z1 z2
      by_cases q1 : z = -1
      · have f1 : (z != -1) = false := by rw [q1]; rfl
        have f2 : (z == -1) = true := by rw [q1]; rfl
        have E2 : Hid (upQ l (m0 : Int) name = -1) := by
          show _ = _
          rw [E.out, ← hc.out, anc_neg (by omega)]; rfl
        clear q1 hc
        go_wp2_with fail
        go_ret
        exact ⟨ret_int E2.out.symm, B1.out⟩
      · have f1 : (z != -1) = true := by rw [bne_iff_ne]; exact q1
        have f2 : (z == -1) = false := by rw [beq_eq_false_iff_ne]; exact q1
        obtain ⟨m, rfl⟩ : ∃ m : Nat, z = (m : Int) := ⟨z.toNat, by omega⟩
        have hm : m < l.length := by omega
        have he := HRt.out.ende y2
        have hu := anc_up he (by omega)
        have HH := hide (hgt_up he (by omega))
        have pb := HRt.out.par m hm
        rw [nd_at hm] at pb
        rw [parI_nat hm] at HH hu
        obtain ⟨va, vk, N0⟩ := HC.out m hm
        have a0 := (N0.below B1.out).name
        have a3 := (N0.below B1.out).parent
        have m0' : (0 : Int) ≤ (m : Int) := by omega
        have hc1 := hc.out
        rw [hu, up_cons hm] at hc1
        have p1 := pb.1
        have p2 := pb.2
        have TB := hide (txt_beq l[m].name name)
        by_cases q2 : l[m].name = name
        · rw [if_pos q2] at hc1
          have E2 : Hid (upQ l (m0 : Int) name = (m : Int)) := by show _ = _; rw [E.out, ← hc1]; rfl
          have f3 : (l[m].name.toList == name.toList) = true := by rw [TB.out]; exact decide_eq_true q2
          clear q1 q2 hc hc1 he hu pb N0 TB HH
          generalize l[m].name = nm at *
          generalize l[m].parent = pm at *
          go_wp2_with fail
          go_ret
          exact ⟨ret_int E2.out.symm, B1.out⟩
        · rw [if_neg q2] at hc1
          have HC1 := hide hc1
          have f3 : (l[m].name.toList == name.toList) = false := by rw [TB.out]; exact decide_eq_false q2
          clear q1 q2 hc hc1 he hu pb N0 TB
          generalize l[m].name = nm at *
          generalize l[m].parent = pm at *
          go_wp2_with fail
          go_round
          case rel => exact ⟨pm, rfl, p1, p2, HC1⟩
          case measure => have := HH.out; show hgt l pm < hgt l (m : Int); omega

theorem attr_find (l : List Nd) (m : Nat) (hm : m < l.length) (name : ByteArray) : attrP l (m : Int) name = (l[m].attrs.findIdx? (isN name)).map fun i => (l[m].attrs.getD i at0).2 := by
  unfold attrP
  rw [Int.toNat_natCast, nd_at hm]
  rfl

theorem attr_hit {l : List Nd} {m : Nat} (hm : m < l.length) {name : ByteArray} {k : Nat} (h : l[m].attrs.findIdx? (isN name) = some k) : ∃ hk : k < l[m].attrs.length, attrP l (m : Int) name = some l[m].attrs[k].2 := by
  have h1 := (List.findIdx?_eq_some_iff_getElem.1 h).1
  refine ⟨h1, ?_⟩
  rw [attr_find l m hm, h]
  simp [List.getD, h1]
set_option maxHeartbeats 4000000 in
set_option maxRecDepth 100000 in
theorem attr_any (v : Value) (l : List Nd) (id : Int) (name : ByteArray) (w : World) (hv : NodesV w v l) (hz : DocSz l) :
    Calls Try.prog 24 #[v, .int .i64 id, .string name] w fun e w' => e = .returned (attrV (attrQ l id name)) ∧ Below w.heap.size w w' := by
  have HH := hide (isThere_any v l id w hv hz)
  obtain ⟨p, c, rfl, hv⟩ := hv
  have HV := hide hv
  have HZ := hide hz
  clear hv hz
  cases q : hasN l id with
  | false =>
    rw [q] at HH
    have E : Hid (attrQ l id name = none) := by show _ = _; unfold attrQ; rw [q]; rfl
    clear q
    go_enter Try.func24, Try.ntmps24
    go_wp2_with fail
    refine HH.out.mono ?_
    rintro e w1 ⟨rfl, b1⟩
    go_wp2_with fail
    go_ret2
    exact ⟨by rw [E.out]; rfl, b1⟩
  | true =>
    rw [q] at HH
    obtain ⟨hR, hi⟩ := has_is q
    obtain ⟨m, rfl⟩ : ∃ m : Nat, id = (m : Int) := ⟨id.toNat, by have := hi.1; omega⟩
    have hm : m < l.length := by have := hi.2; omega
    have E : Hid (attrQ l (m : Int) name = attrP l (m : Int) name) := by show _ = _; unfold attrQ; rw [q]; rfl
    have hlen := hR.len.2
    obtain ⟨b, o, rfl, hcell⟩ : ∃ b o, p = some ⟨b, o, none⟩ ∧ ∀ i (h : i < l.length), ∃ va vk, NodeAt w b (o + i * 5) l[i] va vk := by
      rcases HV.out with t | t
      · rw [t] at hm; simp at hm
      · exact t
    obtain ⟨va, vk, N0⟩ := hcell m hm
    have NW : Hid (∀ W, Below w.heap.size w W → NodeAt W b (o + m * 5) l[m] va vk) := fun W hb => N0.below hb
    have i0 : (0 : Int) ≤ (m : Int) := by omega
    have i1 : (m : Int) < (l.length : Int) := by omega
    have za := (HZ.out.nds l[m] (List.getElem_mem _)).attrs
    have ZA := hide za
    have al : aloneB l[m] = true := by have := hR.alone m hm; rw [nd_at hm] at this; exact this
    have SM : Hid (∀ k (hk : k < l[m].attrs.length), l[m].attrs[k].2.size ≤ 4000) := fun k hk => by
      by_cases nn : l[m].name.size = 0
      · unfold aloneB at al
        rw [if_pos nn, Bool.and_eq_true] at al
        have : l[m].attrs = [] := List.isEmpty_iff.1 al.1
        rw [this] at hk; simp at hk
      · exact ((alone_attrs al nn).2.each _ (List.getElem_mem _)).2
    clear q hi hR hcell HV N0 HZ za al
    go_enter Try.func24, Try.ntmps24
    go_wp2_with fail
    refine HH.out.mono ?_
    rintro e w1 ⟨rfl, b1⟩
    have a2 := (NW.out w1 b1).attrs
    have HA := hide (NW.out w1 b1).at_
    have B1 := hide b1
    have ln : b < w1.heap.size := World.block_lt_of_cell? _ _ a2
    have lne : b ≠ w1.heap.size := by omega
    have AB : Hid (∀ m, Below w1.heap.size w1 ((w1.alloc (.cells #[.string name] 9)).drewN m)) := fun m => bel_drewN ((Below.refl _ w1).alloc (Nat.le_refl _) _) m
    have HCF := hide (fun t => indexFuncA_any va l[m].attrs (isN name) 73 #[.pointer (some ⟨w1.heap.size, 0, none⟩)] entersCalled ((w1.alloc (.cells #[.string name] 9)).drewN t) (HA.out.below (AB.out t)) ((called_pred name w1).later (bel_drewN (Below.refl _ _) t)) ZA.out)
    obtain ⟨F, hF⟩ : ∃ F, Hid (l[m].attrs.findIdx? (isN name) = F) := ⟨_, show _ = _ from rfl⟩
    rw [hF.out] at HCF
    clear b1 HH
    go_wp2_with fail
    go_region_held3 (fun w' => w'.cell? ⟨b, o + m * 5 + 2, none⟩ = some va) (first | go_keep | exact cell_below a2 (chain (AB.out 1) bb))
      (first | (go_at_call 57; refine (called_any name _).mono ?_; rintro e w' ⟨rfl, rfl⟩) | (go_at_call 56; refine (HCF.out 1).mono ?_; rintro e w2 ⟨rfl, bb⟩))
    have B2 : Hid (Below w.heap.size w w2) := chain B1.out (chain (AB.out 1) bb)
    have d2 := (NW.out w2 B2.out).attrs
    obtain ⟨pa, ca, eva, hca⟩ := (NW.out w2 B2.out).at_
    have HCA := hide hca
    clear hca bb AB HCF a2 HA ln lne
    subst eva
    cases F with
    | none =>
      have E2 : Hid (attrQ l (m : Int) name = none) := by show _ = _; rw [E.out, attr_find l m hm, hF.out]; rfl
      have f1 : findV none < 0 := by decide
      clear hF E SM
      go_wp2_with fail
      go_ret2
      exact ⟨by rw [E2.out]; rfl, B2.out⟩
    | some k =>
      obtain ⟨hk, e2⟩ := attr_hit hm hF.out
      have E2 := hide (E.out.trans e2)
      have c1 : ∃ ba oa, pa = some ⟨ba, oa, none⟩ ∧ w2.cell? ⟨ba, oa + k * 2 + 1, none⟩ = some (.string l[m].attrs[k].2) := by
        rcases HCA.out with t | ⟨ba, oa, t1, t2⟩
        · rw [t] at hk; simp at hk
        · exact ⟨ba, oa, t1, (t2 k hk).2⟩
      obtain ⟨ba, oa, rfl, c1⟩ := c1
      have HCl := hide (fun W => clone_any l[m].attrs[k].2 W (by have := SM.out k hk; omega))
      have k0 : (0 : Int) ≤ (k : Int) := by omega
      have k1 : (k : Int) < (l[m].attrs.length : Int) := by omega
      have f1 : ¬ (k : Int) < 0 := by omega
      have f2 : findV (some k) = (k : Int) := rfl
      have zz := ZA.out
      clear hF E SM e2 HCA
      generalize l[m].attrs[k].2 = u at *
      go_wp2_with fail
      refine (HCl.out _).mono ?_
      rintro e w3 ⟨rfl, b3⟩
      go_wp2_with fail
      go_ret2
      exact ⟨by rw [E2.out]; rfl, chain B2.out b3⟩

end Go.Proofs.Ytkloahpkjbohoaa
