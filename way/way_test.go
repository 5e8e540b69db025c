package way_test

import (
	"slices"
	"testing"

	"tappet/sample"
	"tappet/way"
)

// P11.2: of each Op, in programs that are well, as the words tell it; also when it is left early, and gone over again.
func TestBehind(t *testing.T) {
	row := sample.From(1)
	for range 2000 {
		l := row.Program(1+row.Below(30), row.Below(9))
		for n, i := range l {
			want := sample.Behind(l, n)
			seq := way.Behind(i, n)
			for next := range seq {
				if next != want[0] {
					t.Fatalf("behind %d of %s comes %d first, not %d", n, sample.Short(l), next, want[0])
				}
				break
			}
			if got := slices.Collect(seq); !slices.Equal(got, want) {
				t.Fatalf("behind %d of %s come %v, want %v", n, sample.Short(l), got, want)
			}
		}
	}
}

// numbers wait, some of them put while others have their turn: at each turn it is the least one of those that wait.
func TestWaiting(t *testing.T) {
	row := sample.From(2)
	for range 1000 {
		var w way.Waiting
		var want []int
		put := func(count int) {
			for range count {
				n := row.Below(200) - 20
				w.Put(n)
				want = append(want, n)
			}
		}
		put(row.Below(20))
		stop := row.Below(40)
		for n := range w.Turns() {
			at := slices.Index(want, slices.Min(want))
			if n != want[at] {
				t.Fatalf("of %v it is the turn of %d", want, n)
			}
			want = slices.Delete(want, at, at+1)
			put(max(0, row.Below(6)-3))
			if stop--; stop == 0 {
				break
			}
		}
		slices.Sort(want)
		if got := slices.Collect(w.Turns()); !slices.Equal(got, want) {
			t.Fatalf("%v wait, and %v have their turn", want, got)
		}
		if got := slices.Collect(w.Turns()); got != nil {
			t.Fatalf("none waits, and %v have their turn", got)
		}
	}
}
