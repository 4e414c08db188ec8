package pack

import (
	"iter"

	"wayfare/api"
	"wayfare/octet"
)

// sections goes through the sections of a container, up to its end; fits tells whether a tag may stand behind another (behind "" at the beginning).
func sections(b []byte, fits func(ahead, tag string) bool) iter.Seq[api.Section] {
	return func(yield func(api.Section) bool) {
		at := opening(b)
		for ahead := ""; ahead != tagDone; {
			s := head(b, at)
			if !fits(ahead, s.Tag) {
				giveUp(api.ErrSection, at)
			}
			if len(b)-s.At < s.Long+sumSize {
				giveUp(api.ErrShort, s.At)
			}
			end := s.At + s.Long
			s.Sum = uint32(wordAt(b, end, sumSize))
			if !yield(s) {
				return
			}
			ahead, at = s.Tag, end+sumSize
		}
		if at < len(b) {
			giveUp(api.ErrTail, at)
		}
	}
}

// mayFollow is the order in which the sections of a file stand.
func mayFollow(ahead, tag string) bool {
	switch ahead {
	case "":
		return tag == tagHead
	case tagHead:
		return tag == tagRows
	case tagRows:
		return tag == tagEnds
	case tagEnds:
		return tag == tagWgts
	case tagWgts:
		return tag == tagSpot || tag == tagFrom || tag == tagDone
	case tagSpot:
		return tag == tagFrom || tag == tagDone
	}
	return tag == tagDone
}

// opening reads the magic and the version, and tells where the first section begins.
func opening(b []byte) int {
	for i := range len(magic) {
		if i == len(b) {
			giveUp(api.ErrShort, i)
		}
		if b[i] != magic[i] {
			giveUp(api.ErrMagic, i)
		}
	}
	at := len(magic)
	if len(b)-at < versionSize {
		giveUp(api.ErrShort, at)
	}
	if wordAt(b, at, versionSize) != version {
		giveUp(api.ErrVersion, at)
	}
	return at + versionSize
}

// head reads the head of a section: what it says of the content that follows.
func head(b []byte, at int) api.Section {
	if len(b)-at < headSize {
		giveUp(api.ErrShort, at)
	}
	said := b[at : at+tagSize+lengthSize]
	if octet.Crc(said) != uint32(wordAt(b, at+len(said), sumSize)) {
		giveUp(api.ErrSum, at)
	}
	return api.Section{
		Tag:  string(said[:tagSize]),
		At:   at + headSize,
		Long: int(wordAt(b, at+tagSize, lengthSize)),
	}
}

// wordAt reads a word of which it is known that it is there.
func wordAt(b []byte, at, size int) uint64 {
	v, _ := octet.NewReader(b[at : at+size]).Word(size)
	return v
}
