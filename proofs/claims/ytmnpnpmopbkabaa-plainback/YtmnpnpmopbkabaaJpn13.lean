/- A control's state as it lies in the world. The document's Clear, Choose, Encode of layer 20. An argument that is a row of entries, opened. -/
import Derived.Test.YtmnpnpmopbkabaaRows
import Derived.Test.YtmnpnpmopbkabaaJpn6
import Derived.Laws.BytesArg
import Derived.Lib.ConvBytes
import Derived.Lib.AppendStr
import Derived.Lib.Replace
import Derived.Deep.RegionHeld3
import Derived.Laws.Concat
import Derived.Lib.SlTrimSet
import Derived.Deep.Slices
import Derived.ChangeSame

namespace Go.Proofs.Ytmnpnpmopbkabaa
open Go.RowKit
/-- Files that a statement takes. -/
structure FsOK (fs : List En) : Prop where
  len : fs.length ≤ 4398046511104
  few : fs.length * 72 ≤ 140737488355328
  name : ∀ e ∈ fs, e.fname.size ≤ 140737488355328
  rest : ∀ e ∈ fs, e.name.size ≤ 140737488355328 ∧ e.val.size ≤ 140737488355328 ∧ e.typ.size ≤ 140737488355328
end Go.Proofs.Ytmnpnpmopbkabaa

namespace Go.Proofs.Ytmnpnpmopbkabaa
open Go.RowKit
set_option maxRecDepth 100000
theorem files_formP {w : World} {v : Value} {l : List En} (h : FilesV w v l) : ∃ p c, v = .slice p l.length c := by
  obtain ⟨p, c, e, _⟩ := h; exact ⟨p, c, e⟩
end Go.Proofs.Ytmnpnpmopbkabaa

namespace Go.Proofs.Ytmnpnpmopbkabaa
open Go.RowKit Go.ChangeShapes Go.WideShapes Go.Deep
theorem all_weights {H : Type} {P : Program} {e : TypeId} {p : Nat → Bool} : ∀ {l : List (DataW H)}, (DataW.weightsAll P e l).all p = true → ∀ {d}, d ∈ l → (d.weights P e).all p = true
  | [], _, _, hd => by cases hd
  | x :: l, h, d, hd => by
    have h : ((x.weights P e ++ DataW.weightsAll P e l).all p) = true := by simpa only [DataW.weightsAll] using h
    rw [List.all_append, Bool.and_eq_true] at h
    rcases List.mem_cons.1 hd with q | q
    · rw [q]; exact h.1
    · exact all_weights h.2 q
theorem addrS_none {w : World} {a : Addr} {v : Value} (h : w.cell? a = some v) : a.spot = none := by
  unfold World.cell? at h
  split at h
  · split at h
    · cases h
    · rename_i q; simpa using q
  · cases h
theorem add_plain {a : Addr} (h : a.spot = none) (i : Nat) : a.add i = ⟨a.block, a.off + i, none⟩ := by
  unfold Addr.add
  split
  · rename_i q; subst q; cases a; simp_all
  · rfl
theorem cellsOfS : Try.prog.cellsOf 9 = 1 := by kernel_rfl
theorem cellsOfEn : Try.prog.cellsOf 32 = 5 := by kernel_rfl
theorem cellsOfB : Try.prog.cellsOf 4 = 1 := by kernel_rfl
theorem bytesOfEn : Try.prog.bytesOf 32 = 72 := by kernel_rfl
section
variable {H : Type} {enc : TypeId × Value → H} {w : World}
abbrev inReach (l : List Nat) : Prop := l.all (· ≤ reachBytes) = true
theorem addr_eta {a : Addr} (h : a.spot = none) : (some a : Option Addr) = some ⟨a.block, a.off, none⟩ := by cases a with | mk b o s => have h : s = none := h; rw [h]
theorem reach_slice {P : Program} {t e : TypeId} {els sp : List (DataW H)} (ht : P.underlying t = some (.slice e)) (h : inReach ((DataW.slice els sp).weights P t)) : (els.length + sp.length) * P.bytesOf e ≤ reachBytes ∧ inReach (DataW.weightsAll P e els) := by
  have h : inReach ((els.length + sp.length) * P.bytesOf e :: (DataW.weightsAll P e els ++ DataW.weightsAll P e sp)) := by simpa only [DataW.weights, ht] using h
  rw [inReach, List.all_cons, Bool.and_eq_true, List.all_append, Bool.and_eq_true] at h
  exact ⟨of_decide_eq_true h.1, h.2.1⟩
theorem str_reach {P : Program} {t : TypeId} {s : ByteArray} (h : inReach ((.lit (.string s.data.toList) : DataW H).weights P t)) : s.size ≤ reachBytes := by
  simp only [inReach, DataW.weights, List.all_cons, List.all_nil, Bool.and_true, decide_eq_true_eq, Array.length_toList] at h
  exact h
set_option maxRecDepth 100000 in
theorem open_entry {fuel : Nat} {cs : List Value} {x : DataW H × List MemPlace} (h : DataW.trod enc Try.prog w 0 (fun _ => true) true fuel 32 cs = some x) (hr : inReach (x.1.weights Try.prog 32)) :
    ∃ e : En, cs = [.string e.name, .string e.val, .bool e.file, .string e.fname, .string e.typ] ∧ e.fname.size ≤ reachBytes ∧ e.name.size ≤ reachBytes ∧ e.val.size ≤ reachBytes ∧ e.typ.size ≤ reachBytes := by
  obtain ⟨xs, n, _, rfl, hl, hlen, hf⟩ := DataW.trod_struct Try.underlying32 h
  rw [cellsOfEn] at hl
  match xs, hlen with
  | [y0, y1, y2, y3, y4], _ =>
    match cs, hl with
    | [c0, c1, c2, c3, c4], _ =>
      have h0 : DataW.trod enc Try.prog w 0 (fun _ => true) true n 9 (List.take (Try.prog.cellsOf 9) (List.drop 0 [c0, c1, c2, c3, c4])) = some y0 := hf 0 _ rfl
      have h1 : DataW.trod enc Try.prog w 0 (fun _ => true) true n 9 (List.take (Try.prog.cellsOf 9) (List.drop 1 [c0, c1, c2, c3, c4])) = some y1 := hf 1 _ rfl
      have h2 : DataW.trod enc Try.prog w 0 (fun _ => true) true n 4 (List.take (Try.prog.cellsOf 4) (List.drop 2 [c0, c1, c2, c3, c4])) = some y2 := hf 2 _ rfl
      have h3 : DataW.trod enc Try.prog w 0 (fun _ => true) true n 9 (List.take (Try.prog.cellsOf 9) (List.drop 3 [c0, c1, c2, c3, c4])) = some y3 := hf 3 _ rfl
      have h4 : DataW.trod enc Try.prog w 0 (fun _ => true) true n 9 (List.take (Try.prog.cellsOf 9) (List.drop 4 [c0, c1, c2, c3, c4])) = some y4 := hf 4 _ rfl
      rw [cellsOfS] at h0 h1 h3 h4
      rw [cellsOfB] at h2
      obtain ⟨s0, e0, r0, _⟩ := DataW.trod_string Try.underlying9 (x := y0) h0
      obtain ⟨s1, e1, r1, _⟩ := DataW.trod_string Try.underlying9 (x := y1) h1
      obtain ⟨b2, e2, _⟩ := DataW.trod_bool Try.underlying4 (x := y2) h2
      obtain ⟨s3, e3, r3, _⟩ := DataW.trod_string Try.underlying9 (x := y3) h3
      obtain ⟨s4, e4, r4, _⟩ := DataW.trod_string Try.underlying9 (x := y4) h4
      cases e0
      cases e1
      cases e2
      cases e3
      cases e4
      simp only [inReach, List.map_cons, List.map_nil, DataW.weights, Try.underlying32, DataW.weightsEach, List.all_append, Bool.and_eq_true] at hr
      have q0 := hr.1
      have q1 := hr.2.1
      have q3 := hr.2.2.2.1
      have q4 := hr.2.2.2.2.1
      rw [r0] at q0
      rw [r1] at q1
      rw [r3] at q3
      rw [r4] at q4
      exact ⟨⟨s0, s1, b2, s3, s4⟩, rfl, str_reach (H := H) q3, str_reach (H := H) q0, str_reach (H := H) q1, str_reach (H := H) q4⟩
theorem open_files {fuel : Nat} {v : Value} {x : DataW H × List MemPlace} (h : DataW.trod enc Try.prog w 0 (fun _ => true) true fuel 22 [v] = some x) (hr : inReach (x.1.weights Try.prog 22)) :
    ∃ fs, FilesV w v fs ∧ FsOK fs := by
  rcases open_slice Try.underlying22 h with ⟨e, rfl⟩ | ⟨a, len, cap, m, n, D, Pl, e, _, hl, hm, hmm, rfl, hc⟩
  · cases e
    exact ⟨[], ⟨none, 0, rfl, .inl rfl⟩, ⟨by decide, by decide, fun a q => (by cases q), fun a q => (by cases q)⟩⟩
  · cases e
    have hmm : m = cap := by simpa using hmm
    subst hmm
    rw [cellsOfEn] at hc
    have hV : ∀ i, i < len → ∃ z : En, (w.cell? (a.add (i * 5)) = some (.string z.name) ∧ w.cell? ((a.add (i * 5)).add 1) = some (.string z.val) ∧ w.cell? ((a.add (i * 5)).add 2) = some (.bool z.file) ∧ w.cell? ((a.add (i * 5)).add 3) = some (.string z.fname) ∧ w.cell? ((a.add (i * 5)).add 4) = some (.string z.typ)) ∧ z.fname.size ≤ reachBytes ∧ z.name.size ≤ reachBytes ∧ z.val.size ≤ reachBytes ∧ z.typ.size ≤ reachBytes := fun i hi => by
      obtain ⟨cs', c1, c2⟩ := hc i (by omega)
      obtain ⟨z, rfl, z0⟩ := open_entry c2 (all_weights (reach_slice Try.underlying22 hr).2 (List.mem_map.2 ⟨i, List.mem_range.2 hi, rfl⟩))
      have := (World.cells?_some c1).2.2
      have q0 := this 0 (by omega)
      have q1 := this 1 (by omega)
      have q2 := this 2 (by omega)
      have q3 := this 3 (by omega)
      have q4 := this 4 (by omega)
      rw [show (a.add (i * 5)).add 0 = a.add (i * 5) by simp [Addr.add]] at q0
      exact ⟨z, ⟨q0, q1, q2, q3, q4⟩, z0⟩
    haveI : Inhabited En := ⟨⟨⟨#[]⟩, ⟨#[]⟩, false, ⟨#[]⟩, ⟨#[]⟩⟩⟩
    obtain ⟨f, hf⟩ := choose_lt hV
    refine ⟨(List.range len).map f, ⟨some a, m, by simp, ?_⟩, ?_, ?_, ?_, ?_⟩
    · by_cases h0 : len = 0
      · exact .inl (by rw [h0]; rfl)
      · have sp := addrS_none (hf 0 (by omega)).1.1
        have sp' : a.spot = none := by
          have : a.add (0 * 5) = a := by simp [Addr.add]
          rwa [this] at sp
        refine .inr ⟨a.block, a.off, addr_eta sp', fun i hi => ?_⟩
        have hi : i < len := by simpa using hi
        have := (hf i hi).1
        rw [add_plain sp', add_plain rfl, add_plain rfl, add_plain rfl, add_plain rfl] at this
        have e : ((List.range len).map f)[i]'(by simpa using hi) = f i := by simp
        rw [e]
        exact ⟨this.1, this.2.1, this.2.2.1, this.2.2.2.1, this.2.2.2.2⟩
    · have := (reach_slice Try.underlying22 hr).1
      rw [bytesOfEn, List.length_map, List.length_range, List.length_map, List.length_range] at this
      unfold reachBytes at this
      rw [List.length_map, List.length_range]
      omega
    · have := (reach_slice Try.underlying22 hr).1
      rw [bytesOfEn, List.length_map, List.length_range, List.length_map, List.length_range] at this
      unfold reachBytes at this
      rw [List.length_map, List.length_range]
      omega
    · intro y hy
      obtain ⟨i, hi, rfl⟩ := List.mem_map.1 hy
      have := (hf i (List.mem_range.1 hi)).2.1
      unfold reachBytes at this
      omega
    · intro y hy
      obtain ⟨i, hi, rfl⟩ := List.mem_map.1 hy
      have := (hf i (List.mem_range.1 hi)).2.2
      unfold reachBytes at this
      omega
theorem bytesOfS : Try.prog.bytesOf 9 = 16 := by kernel_rfl
/-- A row of texts that came in. -/
theorem open_texts {fuel : Nat} {v : Value} {x : DataW H × List MemPlace} (h : DataW.trod enc Try.prog w 0 (fun _ => true) true fuel 27 [v] = some x) (hr : inReach (x.1.weights Try.prog 27)) :
    ∃ ds : List ByteArray, (∃ p c, v = .slice p ds.length c ∧ (ds = [] ∨ ∃ b o, p = some ⟨b, o, none⟩ ∧ ∀ i (h : i < ds.length), w.cell? ⟨b, o + i, none⟩ = some (.string ds[i])) ∧ ds.length ≤ c) ∧ ds.length * 16 ≤ 140737488355328 ∧ ∀ d ∈ ds, d.size ≤ maxLen := by
  rcases open_slice1 Try.underlying27 cellsOfS h with ⟨e, rfl⟩ | ⟨a, len, cap, m, n, V, D, Pl, e, _, hl, hm, hmm, rfl, hc⟩
  · cases e
    exact ⟨[], ⟨none, 0, rfl, .inl rfl, Nat.le_refl _⟩, by decide, fun d q => by cases q⟩
  · cases e
    have hmm : m = cap := by simpa using hmm
    subst hmm
    have hV : ∀ i, i < len → ∃ z : ByteArray, w.cell? (a.add i) = some (.string z) ∧ z.size ≤ reachBytes := fun i hi => by
      obtain ⟨c1, c2⟩ := hc i (by omega)
      obtain ⟨z, e, r, _⟩ := DataW.trod_string Try.underlying9 c2
      have e : V i = .string z := (List.cons.inj e).1
      have q := all_weights (reach_slice Try.underlying27 hr).2 (List.mem_map.2 ⟨i, List.mem_range.2 hi, rfl⟩)
      refine ⟨z, by rw [← e]; exact c1, str_reach (H := H) (P := Try.prog) (t := 9) ?_⟩
      have rd : D i = .lit (.string z.data.toList) := congrArg Prod.fst r
      rw [rd] at q
      exact q
    haveI : Inhabited ByteArray := ⟨⟨#[]⟩⟩
    obtain ⟨f, hf⟩ := choose_lt hV
    refine ⟨(List.range len).map f, ⟨some a, m, by simp, ?_, by simpa using hl⟩, ?_, ?_⟩
    · by_cases h0 : len = 0
      · exact .inl (by rw [h0]; rfl)
      · have sp := addrS_none (hf 0 (by omega)).1
        have sp' : a.spot = none := by
          have : a.add 0 = a := by simp [Addr.add]
          rwa [this] at sp
        refine .inr ⟨a.block, a.off, addr_eta sp', fun i hi => ?_⟩
        have hi : i < len := by simpa using hi
        have := (hf i hi).1
        rw [add_plain sp'] at this
        simpa using this
    · have := (reach_slice Try.underlying27 hr).1
      rw [bytesOfS, List.length_map, List.length_range, List.length_map, List.length_range] at this
      unfold reachBytes at this
      rw [List.length_map, List.length_range]
      omega
    · intro y hy
      obtain ⟨i, hi, rfl⟩ := List.mem_map.1 hy
      have := (hf i (List.mem_range.1 hi)).2
      unfold reachBytes at this
      unfold maxLen
      omega
end

end Go.Proofs.Ytmnpnpmopbkabaa
