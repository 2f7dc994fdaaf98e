package replica

import (
	"slices"

	"kimberlite/api"
)

// Merge returns the state that knows what both know.
func Merge(a, b api.State) (api.State, api.Errno) {
	if !Right(a) || !Right(b) || shareDot(merged(tags(), a.Tags, b.Tags)) {
		return api.State{}, api.ErrArg
	}
	both := api.State{
		Seen:   slices.Clone(a.Seen),
		Tags:   merged(tags(), staying(a, b), staying(b, a)),
		Notes:  merged(notes(), a.Notes, b.Notes),
		Rights: merged(rights(), a.Rights, b.Rights),
		Used:   merged(used(), a.Used, b.Used),
	}
	for office, count := range b.Seen {
		both.Seen[office] = max(both.Seen[office], count)
	}
	if len(both.Tags) > api.MaxTags {
		return api.State{}, api.ErrFull
	}
	if !Right(both) {
		return api.State{}, api.ErrState
	}
	return both, api.OK
}

// staying returns the tags of a that b did not take off. A tag that b has seen, but
// has not, was taken off there.
func staying(a, b api.State) []api.Tag {
	return slices.DeleteFunc(slices.Clone(a.Tags), func(t api.Tag) bool {
		_, has := tags().find(b.Tags, t)
		return !has && t.Dot.Count <= b.Seen[t.Dot.Office]
	})
}

// Covers reports whether a knows all that b knows.
func Covers(a, b api.State) (bool, api.Errno) {
	both, e := Merge(a, b)
	if e != api.OK {
		return false, e
	}
	return isSame(both, a), api.OK
}

func isSame(a, b api.State) bool {
	return slices.Equal(a.Seen, b.Seen) && slices.Equal(a.Tags, b.Tags) && slices.Equal(a.Notes, b.Notes) &&
		slices.Equal(a.Rights, b.Rights) && slices.Equal(a.Used, b.Used)
}

// clone returns a state that shares no memory with s.
func clone(s api.State) api.State {
	return api.State{
		Seen:   slices.Clone(s.Seen),
		Tags:   slices.Clone(s.Tags),
		Notes:  slices.Clone(s.Notes),
		Rights: slices.Clone(s.Rights),
		Used:   slices.Clone(s.Used),
	}
}
