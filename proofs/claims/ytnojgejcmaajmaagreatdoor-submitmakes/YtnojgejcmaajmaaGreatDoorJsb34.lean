/- The wrap of a row that lists variables, for a contract that wants the world's shape and the form's reach besides. Arguments that are states of controls, or a document with its states, opened. Arguments that are a row of texts, and a form with a submitter and draws that is asked for, opened. -/
import Derived.Test.YtnojgejcmaajmaaGreatDoorJsb9
import Derived.Test.YtnojgejcmaajmaaGreatDoorJsb19

namespace Go.Proofs.YtnojgejcmaajmaaGreatDoor
open Go
set_option maxRecDepth 100000
theorem reach_rest {H : Type} {P : Program} {t : TypeId} {ts : List TypeId} {d : DataW H} {ds : List (DataW H)} (h : (DataW.weightsEach P (t :: ts) (d :: ds)).all (· ≤ reachBytes) = true) : (DataW.weightsEach P ts ds).all (· ≤ reachBytes) = true := by
  simp only [DataW.weightsEach, List.all_append, Bool.and_eq_true] at h
  exact h.2
end Go.Proofs.YtnojgejcmaajmaaGreatDoor

namespace Go.Proofs.YtnojgejcmaajmaaGreatDoor
open Go.RowKit Go.ChangeShapes Go.WideShapes Go.Deep
theorem cellsOfNs : Tryz.prog.cellsOf 22 = 1 := by kernel_rfl
theorem cellsOfCs : Tryz.prog.cellsOf 23 = 1 := by kernel_rfl
theorem cellsOfD : Tryz.prog.cellsOf 25 = 2 := by kernel_rfl
theorem bytesOfCt : Tryz.prog.bytesOf 113 = 64 := by kernel_rfl
theorem choose_pair {P : Nat → Ct → Value → Prop} {n : Nat} (h : ∀ i, i < n → ∃ c f, P i c f) : ∃ (C : List Ct) (F : List Value), C.length = n ∧ F.length = n ∧ ∀ i (h1 : i < C.length), P i C[i] (fvAt F i) := by
  haveI : Inhabited (Ct × Value) := ⟨(ct0, fv0)⟩
  obtain ⟨f, hf⟩ := choose_lt (p := fun i (z : Ct × Value) => P i z.1 z.2) (fun i hi => by
    obtain ⟨c, v, q⟩ := h i hi
    exact ⟨(c, v), q⟩)
  refine ⟨(List.range n).map fun i => (f i).1, (List.range n).map fun i => (f i).2, by simp, by simp, fun i h1 => ?_⟩
  have hi : i < n := by simpa using h1
  have e1 : ((List.range n).map fun i => (f i).1)[i] = (f i).1 := by simp
  have e2 : fvAt ((List.range n).map fun i => (f i).2) i = (f i).2 := by
    unfold fvAt
    rw [List.getD_eq_getElem?_getD, List.getElem?_eq_getElem (by simpa using hi), Option.getD_some]
    simp
  rw [e1, e2]
  exact hf i hi
theorem cellsOfEn : Tryz.prog.cellsOf 76 = 5 := by kernel_rfl
theorem cellsOfCt : Tryz.prog.cellsOf 113 = 10 := by kernel_rfl
theorem cellsOfB : Tryz.prog.cellsOf 4 = 1 := by kernel_rfl
theorem cellsOfEs : Tryz.prog.cellsOf 29 = 1 := by kernel_rfl
theorem bytesOfEn : Tryz.prog.bytesOf 76 = 72 := by kernel_rfl
section
variable {H : Type} {enc : TypeId × Value → H} {w : World}
theorem str_reach {P : Program} {t : TypeId} {s : ByteArray} (h : inReach ((.lit (.string s.data.toList) : DataW H).weights P t)) : s.size ≤ reachBytes := by
  simp only [inReach, DataW.weights, List.all_cons, List.all_nil, Bool.and_true, decide_eq_true_eq, Array.length_toList] at h
  exact h
set_option maxRecDepth 100000 in
theorem open_entry {fuel : Nat} {cs : List Value} {x : DataW H × List MemPlace} (h : DataW.trod enc Tryz.prog w 0 (fun _ => true) true fuel 76 cs = some x) (hr : inReach (x.1.weights Tryz.prog 76)) :
    ∃ e : En, cs = [.string e.name, .string e.val, .bool e.file, .string e.fname, .string e.typ] ∧ e.fname.size ≤ reachBytes ∧ e.name.size ≤ reachBytes ∧ e.val.size ≤ reachBytes ∧ e.typ.size ≤ reachBytes := by
  obtain ⟨xs, n, _, rfl, hl, hlen, hf⟩ := DataW.trod_struct Tryz.underlying76 h
  rw [cellsOfEn] at hl
  match xs, hlen with
  | [y0, y1, y2, y3, y4], _ =>
    match cs, hl with
    | [c0, c1, c2, c3, c4], _ =>
      have h0 : DataW.trod enc Tryz.prog w 0 (fun _ => true) true n 9 (List.take (Tryz.prog.cellsOf 9) (List.drop 0 [c0, c1, c2, c3, c4])) = some y0 := hf 0 _ rfl
      have h1 : DataW.trod enc Tryz.prog w 0 (fun _ => true) true n 9 (List.take (Tryz.prog.cellsOf 9) (List.drop 1 [c0, c1, c2, c3, c4])) = some y1 := hf 1 _ rfl
      have h2 : DataW.trod enc Tryz.prog w 0 (fun _ => true) true n 4 (List.take (Tryz.prog.cellsOf 4) (List.drop 2 [c0, c1, c2, c3, c4])) = some y2 := hf 2 _ rfl
      have h3 : DataW.trod enc Tryz.prog w 0 (fun _ => true) true n 9 (List.take (Tryz.prog.cellsOf 9) (List.drop 3 [c0, c1, c2, c3, c4])) = some y3 := hf 3 _ rfl
      have h4 : DataW.trod enc Tryz.prog w 0 (fun _ => true) true n 9 (List.take (Tryz.prog.cellsOf 9) (List.drop 4 [c0, c1, c2, c3, c4])) = some y4 := hf 4 _ rfl
      rw [cellsOfS] at h0 h1 h3 h4
      rw [cellsOfB] at h2
      obtain ⟨s0, e0, r0, _⟩ := DataW.trod_string Tryz.underlying9 (x := y0) h0
      obtain ⟨s1, e1, r1, _⟩ := DataW.trod_string Tryz.underlying9 (x := y1) h1
      obtain ⟨b2, e2, _⟩ := DataW.trod_bool Tryz.underlying4 (x := y2) h2
      obtain ⟨s3, e3, r3, _⟩ := DataW.trod_string Tryz.underlying9 (x := y3) h3
      obtain ⟨s4, e4, r4, _⟩ := DataW.trod_string Tryz.underlying9 (x := y4) h4
      cases e0
      cases e1
      cases e2
      cases e3
      cases e4
      simp only [inReach, List.map_cons, List.map_nil, DataW.weights, Tryz.underlying76, DataW.weightsEach, List.all_append, Bool.and_eq_true] at hr
      have q0 := hr.1
      have q1 := hr.2.1
      have q3 := hr.2.2.2.1
      have q4 := hr.2.2.2.2.1
      rw [r0] at q0
      rw [r1] at q1
      rw [r3] at q3
      rw [r4] at q4
      exact ⟨⟨s0, s1, b2, s3, s4⟩, rfl, str_reach (H := H) q3, str_reach (H := H) q0, str_reach (H := H) q1, str_reach (H := H) q4⟩
theorem open_files {fuel : Nat} {v : Value} {x : DataW H × List MemPlace} (h : DataW.trod enc Tryz.prog w 0 (fun _ => true) true fuel 29 [v] = some x) (hr : inReach (x.1.weights Tryz.prog 29)) :
    ∃ fs, FilesV w v fs ∧ FsOK fs := by
  rcases open_slice Tryz.underlying29 h with ⟨e, rfl⟩ | ⟨a, len, cap, m, n, D, Pl, e, _, hl, hm, hmm, rfl, hc⟩
  · cases e
    exact ⟨[], ⟨none, 0, rfl, .inl rfl⟩, ⟨by decide, by decide, fun a q => (by cases q), fun a q => (by cases q)⟩⟩
  · cases e
    have hmm : m = cap := by simpa using hmm
    subst hmm
    rw [cellsOfEn] at hc
    have hV : ∀ i, i < len → ∃ z : En, (w.cell? (a.add (i * 5)) = some (.string z.name) ∧ w.cell? ((a.add (i * 5)).add 1) = some (.string z.val) ∧ w.cell? ((a.add (i * 5)).add 2) = some (.bool z.file) ∧ w.cell? ((a.add (i * 5)).add 3) = some (.string z.fname) ∧ w.cell? ((a.add (i * 5)).add 4) = some (.string z.typ)) ∧ z.fname.size ≤ reachBytes ∧ z.name.size ≤ reachBytes ∧ z.val.size ≤ reachBytes ∧ z.typ.size ≤ reachBytes := fun i hi => by
      obtain ⟨cs', c1, c2⟩ := hc i (by omega)
      obtain ⟨z, rfl, z0⟩ := open_entry c2 (all_weights (reach_slice Tryz.underlying29 hr).2 (List.mem_map.2 ⟨i, List.mem_range.2 hi, rfl⟩))
      have := (World.cells?_some c1).2.2
      have q0 := this 0 (by omega)
      have q1 := this 1 (by omega)
      have q2 := this 2 (by omega)
      have q3 := this 3 (by omega)
      have q4 := this 4 (by omega)
      rw [show (a.add (i * 5)).add 0 = a.add (i * 5) by simp [Addr.add]] at q0
      exact ⟨z, ⟨q0, q1, q2, q3, q4⟩, z0⟩
    haveI : Inhabited En := ⟨⟨⟨#[]⟩, ⟨#[]⟩, false, ⟨#[]⟩, ⟨#[]⟩⟩⟩
    obtain ⟨f, hf⟩ := choose_lt hV
    refine ⟨(List.range len).map f, ⟨some a, m, by simp, ?_⟩, ?_, ?_, ?_, ?_⟩
    · by_cases h0 : len = 0
      · exact .inl (by rw [h0]; rfl)
      · have sp := addr_noneD (hf 0 (by omega)).1.1
        have sp' : a.spot = none := by
          have : a.add (0 * 5) = a := by simp [Addr.add]
          rwa [this] at sp
        refine .inr ⟨a.block, a.off, addr_eta sp', fun i hi => ?_⟩
        have hi : i < len := by simpa using hi
        have := (hf i hi).1
        rw [add_plain sp', add_plain rfl, add_plain rfl, add_plain rfl, add_plain rfl] at this
        have e : ((List.range len).map f)[i]'(by simpa using hi) = f i := by simp
        rw [e]
        exact ⟨this.1, this.2.1, this.2.2.1, this.2.2.2.1, this.2.2.2.2⟩
    · have := (reach_slice Tryz.underlying29 hr).1
      rw [bytesOfEn, List.length_map, List.length_range, List.length_map, List.length_range] at this
      unfold reachBytes at this
      rw [List.length_map, List.length_range]
      omega
    · have := (reach_slice Tryz.underlying29 hr).1
      rw [bytesOfEn, List.length_map, List.length_range, List.length_map, List.length_range] at this
      unfold reachBytes at this
      rw [List.length_map, List.length_range]
      omega
    · intro y hy
      obtain ⟨i, hi, rfl⟩ := List.mem_map.1 hy
      have := (hf i (List.mem_range.1 hi)).2.1
      unfold reachBytes at this
      omega
    · intro y hy
      obtain ⟨i, hi, rfl⟩ := List.mem_map.1 hy
      have := (hf i (List.mem_range.1 hi)).2.2
      unfold reachBytes at this
      omega
set_option maxRecDepth 100000 in
theorem open_ctl {fuel : Nat} {cs : List Value} {x : DataW H × List MemPlace} (h : DataW.trod enc Tryz.prog w 0 (fun _ => true) true fuel 113 cs = some x) (hr : inReach (x.1.weights Tryz.prog 113)) :
    ∃ (c : Ct) (fv : Value), cs = ctCells c fv ∧ FilesV w fv c.files ∧ FsOK c.files ∧ c.custom.size ≤ 140737488355328 ∧ c.val.size ≤ 140737488355328 := by
  obtain ⟨xs, n, _, rfl, hl, hlen, hf⟩ := DataW.trod_struct Tryz.underlying113 h
  rw [cellsOfCt] at hl
  match xs, hlen with
  | [y0, y1, y2, y3, y4, y5, y6, y7, y8, y9], _ =>
    match cs, hl with
    | [c0, c1, c2, c3, c4, c5, c6, c7, c8, c9], _ =>
      have h0 : DataW.trod enc Tryz.prog w 0 (fun _ => true) true n 9 (List.take (Tryz.prog.cellsOf 9) (List.drop 0 [c0, c1, c2, c3, c4, c5, c6, c7, c8, c9])) = some y0 := hf 0 _ rfl
      have h1 : DataW.trod enc Tryz.prog w 0 (fun _ => true) true n 4 (List.take (Tryz.prog.cellsOf 4) (List.drop 1 [c0, c1, c2, c3, c4, c5, c6, c7, c8, c9])) = some y1 := hf 1 _ rfl
      have h2 : DataW.trod enc Tryz.prog w 0 (fun _ => true) true n 4 (List.take (Tryz.prog.cellsOf 4) (List.drop 2 [c0, c1, c2, c3, c4, c5, c6, c7, c8, c9])) = some y2 := hf 2 _ rfl
      have h3 : DataW.trod enc Tryz.prog w 0 (fun _ => true) true n 4 (List.take (Tryz.prog.cellsOf 4) (List.drop 3 [c0, c1, c2, c3, c4, c5, c6, c7, c8, c9])) = some y3 := hf 3 _ rfl
      have h4 : DataW.trod enc Tryz.prog w 0 (fun _ => true) true n 4 (List.take (Tryz.prog.cellsOf 4) (List.drop 4 [c0, c1, c2, c3, c4, c5, c6, c7, c8, c9])) = some y4 := hf 4 _ rfl
      have h5 : DataW.trod enc Tryz.prog w 0 (fun _ => true) true n 4 (List.take (Tryz.prog.cellsOf 4) (List.drop 5 [c0, c1, c2, c3, c4, c5, c6, c7, c8, c9])) = some y5 := hf 5 _ rfl
      have h6 : DataW.trod enc Tryz.prog w 0 (fun _ => true) true n 4 (List.take (Tryz.prog.cellsOf 4) (List.drop 6 [c0, c1, c2, c3, c4, c5, c6, c7, c8, c9])) = some y6 := hf 6 _ rfl
      have h7 : DataW.trod enc Tryz.prog w 0 (fun _ => true) true n 4 (List.take (Tryz.prog.cellsOf 4) (List.drop 7 [c0, c1, c2, c3, c4, c5, c6, c7, c8, c9])) = some y7 := hf 7 _ rfl
      have h8 : DataW.trod enc Tryz.prog w 0 (fun _ => true) true n 9 (List.take (Tryz.prog.cellsOf 9) (List.drop 8 [c0, c1, c2, c3, c4, c5, c6, c7, c8, c9])) = some y8 := hf 8 _ rfl
      have h9 : DataW.trod enc Tryz.prog w 0 (fun _ => true) true n 29 (List.take (Tryz.prog.cellsOf 29) (List.drop 9 [c0, c1, c2, c3, c4, c5, c6, c7, c8, c9])) = some y9 := hf 9 _ rfl
      rw [cellsOfS] at h0 h8
      rw [cellsOfB] at h1 h2 h3 h4 h5 h6 h7
      rw [cellsOfEs] at h9
      obtain ⟨s0, e0, r0, _⟩ := DataW.trod_string Tryz.underlying9 (x := y0) h0
      obtain ⟨b1, e1, _⟩ := DataW.trod_bool Tryz.underlying4 (x := y1) h1
      obtain ⟨b2, e2, _⟩ := DataW.trod_bool Tryz.underlying4 (x := y2) h2
      obtain ⟨b3, e3, _⟩ := DataW.trod_bool Tryz.underlying4 (x := y3) h3
      obtain ⟨b4, e4, _⟩ := DataW.trod_bool Tryz.underlying4 (x := y4) h4
      obtain ⟨b5, e5, _⟩ := DataW.trod_bool Tryz.underlying4 (x := y5) h5
      obtain ⟨b6, e6, _⟩ := DataW.trod_bool Tryz.underlying4 (x := y6) h6
      obtain ⟨b7, e7, _⟩ := DataW.trod_bool Tryz.underlying4 (x := y7) h7
      obtain ⟨s8, e8, r8, _⟩ := DataW.trod_string Tryz.underlying9 (x := y8) h8
      cases e0
      cases e1
      cases e2
      cases e3
      cases e4
      cases e5
      cases e6
      cases e7
      cases e8
      simp only [inReach, List.map_cons, List.map_nil, DataW.weights, Tryz.underlying113, DataW.weightsEach, List.all_append, Bool.and_eq_true] at hr
      obtain ⟨fs, f1, f2⟩ := open_files (x := y9) h9 hr.2.2.2.2.2.2.2.2.2.1
      have p0 := hr.1
      rw [r0] at p0
      have p9 := str_reach (H := H) p0
      have q8 := hr.2.2.2.2.2.2.2.2.1
      rw [r8] at q8
      have q9 := str_reach (H := H) q8
      exact ⟨⟨s0, b1, b2, b3, b4, b5, b6, b7, s8, fs⟩, c9, rfl, f1, f2, (show s8.size ≤ 140737488355328 by unfold reachBytes at q9; omega), (show s0.size ≤ 140737488355328 by unfold reachBytes at p9; omega)⟩
/-- States that came in. -/
theorem open_ctls {fuel : Nat} {v : Value} {x : DataW H × List MemPlace} (h : DataW.trod enc Tryz.prog w 0 (fun _ => true) true fuel 23 [v] = some x) (hr : inReach (x.1.weights Tryz.prog 23)) :
    ∃ C, CtsV w v C ∧ CsOK C := by
  rcases open_slice Tryz.underlying23 h with ⟨e, rfl⟩ | ⟨a, len, cap, m, n, D, Pl, e, _, hl, hm, hmm, rfl, hc⟩
  · cases e
    exact ⟨[], cts_nil w, by decide, (fun a q => by cases q), (fun a q => by cases q)⟩
  · cases e
    have hmm : m = cap := by simpa using hmm
    subst hmm
    rw [cellsOfCt] at hc
    have hr := reach_slice Tryz.underlying23 hr
    rw [bytesOfCt, List.length_map, List.length_range, List.length_map, List.length_range] at hr
    have hV : ∀ i, i < len → ∃ (z : Ct) (fv : Value), (∀ j u, (ctCells z fv)[j]? = some u → w.cell? ((a.add (i * 10)).add j) = some u) ∧ FilesV w fv z.files ∧ FsOK z.files ∧ z.custom.size ≤ 140737488355328 ∧ z.val.size ≤ 140737488355328 := fun i hi => by
      obtain ⟨cs', c1, c2⟩ := hc i (by omega)
      obtain ⟨z, fv, rfl, a1, a2, a3, a4⟩ := open_ctl c2 (all_weights hr.2 (List.mem_map.2 ⟨i, List.mem_range.2 hi, rfl⟩))
      have g := (World.cells?_some c1).2.2
      refine ⟨z, fv, fun j u hu => ?_, a1, a2, a3, a4⟩
      have hj : j < 10 := (List.getElem?_eq_some_iff.1 hu).1
      have := g j hj
      rw [this]
      obtain ⟨hj', e'⟩ := List.getElem?_eq_some_iff.1 hu
      first | exact hu | simpa using e' | simp [e']
    obtain ⟨C, F, lC, lF, hf⟩ := choose_pair hV
    refine ⟨C, ⟨F, ⟨by rw [lF, lC], fun i hi => (hf i hi).2.1⟩, some a, m, by rw [lC], ?_⟩, ?_, ?_, ?_⟩
    · by_cases h0 : C = []
      · exact .inl h0
      · have l0 : 0 < C.length := List.length_pos_iff.2 h0
        have c0 := (hf 0 l0).1 0 _ rfl
        have sp' : a.spot = none := by
          have e0 : (a.add (0 * 10)).add 0 = a := by simp [Addr.add]
          rw [e0] at c0
          exact addr_noneD c0
        refine .inr ⟨a.block, a.off, addr_eta sp', fun i hi j u hu => ?_⟩
        have := (hf i hi).1 j u hu
        rw [add_plain sp', add_plain rfl] at this
        exact this
    · have := hr.1
      unfold reachBytes at this
      rw [lC]
      omega
    · intro c hc'
      obtain ⟨i, hi, rfl⟩ := List.getElem_of_mem hc'
      exact (hf i hi).2.2.1
    · intro c hc'
      obtain ⟨i, hi, rfl⟩ := List.getElem_of_mem hc'
      exact ⟨(hf i hi).2.2.2.2, (hf i hi).2.2.2.1⟩
set_option maxRecDepth 100000 in
/-- A document with its states that came in. -/
theorem open_apidoc {fuel : Nat} {cs : List Value} {x : DataW H × List MemPlace} (h : DataW.trod enc Tryz.prog w 0 (fun _ => true) true fuel 25 cs = some x) (hr : inReach (x.1.weights Tryz.prog 25)) :
    ∃ (nv cv : Value) (l : List Nd) (C : List Ct), cs = [nv, cv] ∧ DocV w nv cv l C ∧ DocSz l ∧ CsOK C := by
  obtain ⟨xs, n, _, rfl, hl, hlen, hf⟩ := DataW.trod_struct Tryz.underlying25 h
  rw [cellsOfD] at hl
  match xs, hlen with
  | [y0, y1], _ =>
    match cs, hl with
    | [c0, c1], _ =>
      have h0 : DataW.trod enc Tryz.prog w 0 (fun _ => true) true n 22 (List.take (Tryz.prog.cellsOf 22) (List.drop 0 [c0, c1])) = some y0 := hf 0 _ rfl
      have h1 : DataW.trod enc Tryz.prog w 0 (fun _ => true) true n 23 (List.take (Tryz.prog.cellsOf 23) (List.drop 1 [c0, c1])) = some y1 := hf 1 _ rfl
      rw [cellsOfNs] at h0
      rw [cellsOfCs] at h1
      simp only [inReach, List.map_cons, List.map_nil, DataW.weights, Tryz.underlying25, DataW.weightsEach, List.all_append, Bool.and_eq_true] at hr
      obtain ⟨l, a1, a2⟩ := open_doc (x := y0) h0 hr.1
      obtain ⟨C, b1, b2⟩ := open_ctls (x := y1) h1 hr.2.1
      exact ⟨c0, c1, l, C, rfl, ⟨a1, b1⟩, a2, b2⟩
end
end Go.Proofs.YtnojgejcmaajmaaGreatDoor

namespace Go.Proofs.YtnojgejcmaajmaaGreatDoor
open Go.RowKit Go.ChangeShapes Go.WideShapes Go.Deep
set_option maxRecDepth 100000
theorem cellsOfAsk24 : Tryz.prog.cellsOf 28 = 3 := by kernel_rfl
theorem cellsOfTs : Tryz.prog.cellsOf 26 = 1 := by kernel_rfl
section
variable {H : Type} {enc : TypeId × Value → H} {w : World}
theorem bytesOfS : Tryz.prog.bytesOf 9 = 16 := by kernel_rfl
/-- A row of texts that came in. -/
theorem open_texts {fuel : Nat} {v : Value} {x : DataW H × List MemPlace} (h : DataW.trod enc Tryz.prog w 0 (fun _ => true) true fuel 26 [v] = some x) (hr : inReach (x.1.weights Tryz.prog 26)) :
    ∃ ds : List ByteArray, (∃ p c, v = .slice p ds.length c ∧ (ds = [] ∨ ∃ b o, p = some ⟨b, o, none⟩ ∧ ∀ i (h : i < ds.length), w.cell? ⟨b, o + i, none⟩ = some (.string ds[i])) ∧ ds.length ≤ c) ∧ ds.length * 16 ≤ 140737488355328 ∧ ∀ d ∈ ds, d.size ≤ maxLen := by
  rcases open_slice1 Tryz.underlying26 cellsOfS h with ⟨e, rfl⟩ | ⟨a, len, cap, m, n, V, D, Pl, e, _, hl, hm, hmm, rfl, hc⟩
  · cases e
    exact ⟨[], ⟨none, 0, rfl, .inl rfl, Nat.le_refl _⟩, by decide, fun d q => by cases q⟩
  · cases e
    have hmm : m = cap := by simpa using hmm
    subst hmm
    have hV : ∀ i, i < len → ∃ z : ByteArray, w.cell? (a.add i) = some (.string z) ∧ z.size ≤ reachBytes := fun i hi => by
      obtain ⟨c1, c2⟩ := hc i (by omega)
      obtain ⟨z, e, r, _⟩ := DataW.trod_string Tryz.underlying9 c2
      have e : V i = .string z := (List.cons.inj e).1
      have q := all_weights (reach_slice Tryz.underlying26 hr).2 (List.mem_map.2 ⟨i, List.mem_range.2 hi, rfl⟩)
      refine ⟨z, by rw [← e]; exact c1, str_reach (H := H) (P := Tryz.prog) (t := 9) ?_⟩
      have rd : D i = .lit (.string z.data.toList) := congrArg Prod.fst r
      rw [rd] at q
      exact q
    haveI : Inhabited ByteArray := ⟨⟨#[]⟩⟩
    obtain ⟨f, hf⟩ := choose_lt hV
    refine ⟨(List.range len).map f, ⟨some a, m, by simp, ?_, by simpa using hl⟩, ?_, ?_⟩
    · by_cases h0 : len = 0
      · exact .inl (by rw [h0]; rfl)
      · have sp := addr_noneD (hf 0 (by omega)).1
        have sp' : a.spot = none := by
          have : a.add 0 = a := by simp [Addr.add]
          rwa [this] at sp
        refine .inr ⟨a.block, a.off, addr_eta sp', fun i hi => ?_⟩
        have hi : i < len := by simpa using hi
        have := (hf i hi).1
        rw [add_plain sp'] at this
        simpa using this
    · have := (reach_slice Tryz.underlying26 hr).1
      rw [bytesOfS, List.length_map, List.length_range, List.length_map, List.length_range] at this
      unfold reachBytes at this
      rw [List.length_map, List.length_range]
      omega
    · intro y hy
      obtain ⟨i, hi, rfl⟩ := List.mem_map.1 hy
      have := (hf i (List.mem_range.1 hi)).2
      unfold reachBytes at this
      unfold maxLen
      omega
theorem open_ask24 {fuel : Nat} {cs : List Value} {x : DataW H × List MemPlace} (h : DataW.trod enc Tryz.prog w 0 (fun _ => true) true fuel 28 cs = some x) (hr : inReach (x.1.weights Tryz.prog 28)) :
    ∃ (f s : Int) (dv : Value) (ds : List ByteArray), cs = [.int .i64 f, .int .i64 s, dv] ∧ DrawsV w dv ds ∧ ds.length * 16 ≤ 140737488355328 ∧ ∀ d ∈ ds, d.size ≤ maxLen := by
  obtain ⟨xs, n, _, rfl, hl, hlen, hf⟩ := DataW.trod_struct Tryz.underlying28 h
  rw [cellsOfAsk24] at hl
  match xs, hlen with
  | [y0, y1, y2], _ =>
    match cs, hl with
    | [c0, c1, c2], _ =>
      have h0 : DataW.trod enc Tryz.prog w 0 (fun _ => true) true n 3 (List.take (Tryz.prog.cellsOf 3) (List.drop 0 [c0, c1, c2])) = some y0 := hf 0 _ rfl
      have h1 : DataW.trod enc Tryz.prog w 0 (fun _ => true) true n 3 (List.take (Tryz.prog.cellsOf 3) (List.drop 1 [c0, c1, c2])) = some y1 := hf 1 _ rfl
      have h2 : DataW.trod enc Tryz.prog w 0 (fun _ => true) true n 26 (List.take (Tryz.prog.cellsOf 26) (List.drop 2 [c0, c1, c2])) = some y2 := hf 2 _ rfl
      rw [cellsOfI] at h0 h1
      rw [cellsOfTs] at h2
      obtain ⟨n0, e0, _⟩ := DataW.trod_int Tryz.underlying3 (x := y0) h0
      obtain ⟨n1, e1, _⟩ := DataW.trod_int Tryz.underlying3 (x := y1) h1
      cases e0
      cases e1
      simp only [inReach, List.map_cons, List.map_nil, DataW.weights, Tryz.underlying28, DataW.weightsEach, List.all_append, Bool.and_eq_true] at hr
      obtain ⟨ds, a1, a2, a3⟩ := open_texts (x := y2) h2 hr.2.2.1
      exact ⟨n0, n1, c2, ds, rfl, a1, a2, a3⟩
end

end Go.Proofs.YtnojgejcmaajmaaGreatDoor
