package enc

import (
	"math"
	"strings"
	"testing"

	"stagepost/api"
)

func TestStampIsTheTextOfItsParts(t *testing.T) {
	for _, c := range []struct {
		at   api.Stamp
		want string
	}{
		{api.Stamp{}, text(127, 255, 255, 255, 255, 255, 255, 255, 127, 255, 255, 255, 127, 255, 255, 255)},
		{api.Stamp{Wall: 1, Tag: 2}, text(127, 255, 255, 255, 255, 255, 255, 254, 127, 255, 255, 255, 127, 255, 255, 253)},
		{api.Stamp{Wall: 256, Logic: 1}, text(127, 255, 255, 255, 255, 255, 254, 255, 127, 255, 255, 254, 127, 255, 255, 255)},
		{api.Stamp{Wall: api.MaxWall, Logic: api.MaxLogic, Tag: api.MaxTag}, text(127, 255, 254, 255, 255, 255, 255, 255, 127, 239, 255, 255, 127, 239, 255, 255)},
	} {
		if got, e := Stamp(c.at); got != c.want || e != api.OK {
			t.Errorf("Stamp of %v: %v, %v", c.at, []byte(got), e)
		}
		if got, e := Unstamp(c.want); got != c.at || e != api.OK {
			t.Errorf("Unstamp of %v: %v, %v", []byte(c.want), got, e)
		}
	}
}

func TestStampRefusesWhatMayNotBe(t *testing.T) {
	for _, at := range []api.Stamp{
		{Wall: -1},
		{Logic: -1},
		{Tag: -1},
		{Wall: api.MaxWall + 1},
		{Logic: api.MaxLogic + 1},
		{Tag: api.MaxTag + 1},
		{Wall: api.MaxWall + 1, Logic: api.MaxLogic, Tag: api.MaxTag},
		{Wall: math.MinInt64},
		{Wall: math.MaxInt64},
		{Logic: math.MinInt32},
		{Logic: math.MaxInt32},
		{Tag: math.MinInt32},
		{Tag: math.MaxInt32},
		{Wall: -1, Logic: -1, Tag: -1},
	} {
		if s, e := Stamp(at); s != "" || e != api.ErrArg {
			t.Errorf("Stamp of %v: %v, %v", at, []byte(s), e)
		}
	}
}

// partText is the text that parts would have, whether they may be or not.
func partText(wall, logic, tag uint64) string {
	b := []byte{}
	for i := range 8 {
		b = append(b, byte(wall>>(56-8*i)))
	}
	for _, x := range []uint64{logic, tag} {
		for i := range 4 {
			b = append(b, byte(x>>(24-8*i)))
		}
	}
	return string(b)
}

func TestUnstampRefusesWhatIsNoStamp(t *testing.T) {
	const topW, topP = 1<<63 - 1, 1<<31 - 1
	good := mustStamp(t, api.Stamp{Wall: 3, Logic: 4, Tag: 5})
	for _, s := range []string{
		"", good[:15], good[1:], good + "\x00", good + good, good[:12] + "\x00" + good[12:], "\x00" + good, strings.Repeat("\x7f", api.MaxText),
		strings.Repeat("\x00", 16), strings.Repeat("\xff", 16), strings.Repeat("\x80", 16),
		partText(topW-api.MaxWall-1, topP, topP),
		partText(topW, topP-api.MaxLogic-1, topP),
		partText(topW, topP, topP-api.MaxTag-1),
		partText(topW+1, topP, topP), // -1
		partText(topW, topP+1, topP),
		partText(topW, topP, topP+1),
		partText(1<<63|(topW-5), topP, topP), // the first bit turned
		partText(topW, 1<<31|(topP-5), topP),
		partText(topW, topP, 1<<31|(topP-5)),
		partText(math.MaxUint64, topP, topP),
		partText(topW, math.MaxUint32, topP),
		partText(topW, topP, math.MaxUint32),
		partText(0, topP, topP),
		partText(topW, 0, topP),
		partText(topW, topP, 0),
	} {
		if at, e := Unstamp(s); at != (api.Stamp{}) || e != api.ErrBad {
			t.Errorf("Unstamp of %v: %v, %v", []byte(s), at, e)
		}
	}
}

func TestLaterGoesByWallThenLogicThenTag(t *testing.T) {
	rising := []api.Stamp{
		{Wall: math.MinInt64, Logic: 9, Tag: 9},
		{Wall: -1, Logic: math.MaxInt32},
		{Logic: math.MinInt32, Tag: math.MaxInt32},
		{Tag: math.MinInt32},
		{Tag: -1},
		{},
		{Tag: 1},
		{Tag: math.MaxInt32},
		{Logic: 1},
		{Logic: 1, Tag: 1},
		{Logic: 2},
		{Logic: math.MaxInt32, Tag: 7},
		{Wall: 1},
		{Wall: 1, Tag: 2},
		{Wall: 1, Logic: 1, Tag: 1},
		{Wall: 2},
		{Wall: api.MaxWall + 1},
		{Wall: math.MaxInt64, Logic: math.MinInt32},
		{Wall: math.MaxInt64},
	}
	for i, a := range rising {
		for j, b := range rising {
			if got := Later(a, b); got != (i > j) {
				t.Errorf("Later of %v and %v: %v", a, b, got)
			}
		}
	}
}
