package state

import (
	"math"
	"math/rand"
	"testing"

	"squint/api"
	"squint/payload"
)

// words are the chapter's table, row by row.
var words = [5][9]string{
	{"Open", "-", "-", "-", "fault", "fault", "fault", "fault", "fault"},
	{"Open", "Open", "Theirs", "Closed", "Open", "Open", "Ours", "Closed", "Open"},
	{"Ours", "Ours", "Closed", "Closed", "shut", "shut", "shut", "Closed", "Ours"},
	{"-", "-", "-", "Closed", "Theirs", "Theirs", "Closed", "Closed", "Theirs"},
	{"-", "-", "-", "-", "shut", "shut", "shut", "Closed", "Closed"},
}

var names = map[string]State{"Idle": 0, "Open": 1, "Ours": 2, "Theirs": 3, "Closed": 4}

func TestNumbers(t *testing.T) {
	if Idle != 0 || Open != 1 || Ours != 2 || Theirs != 3 || Closed != 4 {
		t.Errorf("states: %d, %d, %d, %d, %d", Idle, Open, Ours, Theirs, Closed)
	}
	for i, e := range []Event{SendHeaders, SendData, SendEnd, SendReset, GetHeaders, GetData, GetEnd, GetReset, GetUpdate} {
		if int(e) != i {
			t.Errorf("event %d is %d", i, e)
		}
	}
}

// P13.1
func TestTable(t *testing.T) {
	for i, row := range words {
		s := State(i)
		for j, word := range row {
			e := Event(j)
			may := s.May(e)
			if j < 4 {
				next, no := s.Send(e)
				wantState, wantNo := names[word], api.OK
				if word == "-" {
					wantState, wantNo = 0, api.ErrState
				}
				if next != wantState || no != wantNo || may != (wantNo == api.OK) {
					t.Errorf("%d.Send(%d): %d, %d, May %v", i, j, next, no, may)
				}
				if next, fault := s.Get(e); next != Closed || fault != (payload.Fault{Code: api.Internal, Conn: true}) {
					t.Errorf("%d.Get(%d): %d, %v", i, j, next, fault)
				}
				continue
			}
			next, fault := s.Get(e)
			wantState, wantFault := names[word], payload.Fault{}
			switch word {
			case "fault":
				wantState, wantFault = s, payload.Fault{Code: api.Protocol, Conn: true}
			case "shut":
				wantState, wantFault = Closed, payload.Fault{Code: api.Closed}
			}
			if next != wantState || fault != wantFault || may != fault.OK() {
				t.Errorf("%d.Get(%d): %d, %v, May %v", i, j, next, fault, may)
			}
			if next, no := s.Send(e); next != 0 || no != api.ErrRange {
				t.Errorf("%d.Send(%d): %d, %d", i, j, next, no)
			}
		}
		if s.Done() != (i == 4) {
			t.Errorf("%d.Done: %v", i, s.Done())
		}
	}
}

// P13.1
func TestNoStateNoEvent(t *testing.T) {
	internal := payload.Fault{Code: api.Internal, Conn: true}
	for _, s := range []State{-1, 5, 6, 7, 8, math.MinInt, math.MaxInt} {
		for e := Event(-2); e < 12; e++ {
			if next, no := s.Send(e); next != 0 || no != api.ErrRange {
				t.Errorf("%d.Send(%d): %d, %d", s, e, next, no)
			}
			if next, fault := s.Get(e); next != Closed || fault != internal {
				t.Errorf("%d.Get(%d): %d, %v", s, e, next, fault)
			}
			if s.May(e) {
				t.Errorf("%d.May(%d)", s, e)
			}
		}
		if s.Done() {
			t.Errorf("%d is done", s)
		}
	}
	for s := Idle; s <= Closed; s++ {
		for _, e := range []Event{-1, 9, math.MinInt, math.MaxInt} {
			if next, no := s.Send(e); next != 0 || no != api.ErrRange {
				t.Errorf("%d.Send(%d): %d, %d", s, e, next, no)
			}
			if next, fault := s.Get(e); next != Closed || fault != internal {
				t.Errorf("%d.Get(%d): %d, %v", s, e, next, fault)
			}
			if s.May(e) {
				t.Errorf("%d.May(%d)", s, e)
			}
		}
	}
}

// P13.2: the chapter's example.
func TestRun(t *testing.T) {
	r := NewRun()
	if r.At() != Idle {
		t.Errorf("new: %d", r.At())
	}
	for i, e := range []Event{SendHeaders, SendEnd, GetHeaders, GetEnd} {
		no, fault := r.Do(e)
		if want := []State{Open, Theirs, Theirs, Closed}[i]; r.At() != want || no != api.OK || !fault.OK() || r.Count(e) != 1 {
			t.Errorf("%d: %d, %d, %v", e, r.At(), no, fault)
		}
	}
	if no, fault := r.Do(GetData); no != api.OK || fault != (payload.Fault{Code: api.Closed}) || r.Count(GetData) != 0 || r.At() != Closed {
		t.Errorf("behind it: %d, %v", no, fault)
	}
	if no, fault := r.Do(SendReset); no != api.ErrState || !fault.OK() || r.Count(SendReset) != 0 || r.At() != Closed {
		t.Errorf("behind it: %d, %v", no, fault)
	}
	if no, fault := r.Do(GetUpdate); no != api.OK || !fault.OK() || r.Count(GetUpdate) != 1 {
		t.Errorf("behind it: %d, %v", no, fault)
	}
}

// P13.2: a run by the table, whatever happens.
func TestAnyRun(t *testing.T) {
	rd := rand.New(rand.NewSource(1))
	for range 500 {
		r := NewRun()
		at := Idle
		var count [9]int
		closed := false
		for range 30 {
			e := Event(rd.Intn(11) - 1)
			no, fault := r.Do(e)
			wantNo, wantFault := api.OK, payload.Fault{}
			switch {
			case e < 0 || e > 8:
				wantNo = api.ErrRange
			case e < 4:
				next, n := at.Send(e)
				if wantNo = n; n == api.OK {
					at = next
					count[e]++
				}
			default:
				at, wantFault = at.Get(e)
				if wantFault.OK() {
					count[e]++
				}
			}
			if no != wantNo || fault != wantFault || r.At() != at {
				t.Fatalf("Do(%d): %d, %v, at %d", e, no, fault, r.At())
			}
			closed = closed || at == Closed
			if closed && r.At() != Closed {
				t.Fatalf("a run left Closed")
			}
			for e := range count {
				if r.Count(Event(e)) != count[e] {
					t.Fatalf("Count(%d): %d, not %d", e, r.Count(Event(e)), count[e])
				}
			}
		}
		for _, e := range []Event{-1, 9, math.MinInt, math.MaxInt} {
			if r.Count(e) != 0 {
				t.Fatalf("Count(%d): %d", e, r.Count(e))
			}
		}
	}
}

// P13.2: a fault of the connection leaves an idle one as it is.
func TestIdleFaults(t *testing.T) {
	for e := GetHeaders; e <= GetUpdate; e++ {
		r := NewRun()
		if no, fault := r.Do(e); no != api.OK || fault != (payload.Fault{Code: api.Protocol, Conn: true}) || r.At() != Idle || r.Count(e) != 0 {
			t.Errorf("%d: %d, %v, at %d", e, no, fault, r.At())
		}
	}
	r := NewRun()
	r.Do(SendHeaders)
	r.Do(GetEnd)
	if no, fault := r.Do(GetHeaders); no != api.OK || fault != (payload.Fault{Code: api.Closed}) || r.At() != Closed {
		t.Errorf("shut: %d, %v, at %d", no, fault, r.At())
	}
}
